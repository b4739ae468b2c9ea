/- Tokens: the reference's Join. Conditions: at most 1000 texts of at most 40000 bytes. -/
import Derived.Test.YtgfhhpodcnohpaaDoorLJq
import Derived.Test.YtgfhhpodcnohpaaDoorLRf
import Derived.Test.YtgfhhpodcnohpaaDoorLRg
import Derived.Test.YtgfhhpodcnohpaaDoorLMc
import Derived.Shelf.RegionOpen
namespace Go.Proofs.YtgfhhpodcnohpaaDoor
open Go.RowKit Go.Shelf
set_option linter.unusedVariables false

/-- A text that is one token. -/
theorem okB_lex {x : ByteArray} (h : okB x = true) : lex (sb x) 0 = [((fst_ (sb x)).1, sb x, 0)] ∧ ¬ (fst_ (sb x)).1 = 0 ∧ (fst_ (sb x)).2 = x.size := by
  unfold okB onlyV at h
  by_cases h0 : sb x = []
  · rw [if_pos h0] at h; simp at h
  · rw [if_neg h0] at h
    simp only [Bool.and_eq_true, decide_eq_true_eq, Bool.not_eq_true', decide_eq_false_iff_not] at h
    rw [sb_len] at h
    refine ⟨?_, h.2, h.1⟩
    rw [lex_step h0, h.1, ← sb_len, List.take_length, List.drop_length, lex_nil]
theorem okB_not {x : ByteArray} (h : okB x = false) : (lex (sb x) 0).length ≠ 1 ∨ ((lex (sb x) 0).length = 1 ∧ (tg (lex (sb x) 0) 0).1 = 0) := by
  unfold okB onlyV at h
  by_cases h0 : sb x = []
  · left; rw [h0, lex_nil]; simp
  · rw [if_neg h0] at h
    have hp := fst_pos h0
    by_cases h1 : (fst_ (sb x)).2 = (sb x).length
    · right
      simp only [h1, decide_true, Bool.true_and, Bool.not_eq_false', decide_eq_true_eq] at h
      rw [lex_step h0, h1, List.drop_length, lex_nil]
      exact ⟨rfl, h⟩
    · left
      rw [lex_step h0, List.length_cons]
      have hne : (sb x).drop (fst_ (sb x)).2 ≠ [] := fun e => by
        have := congrArg List.length e
        rw [List.length_drop, List.length_nil] at this
        omega
      rw [lex_step hne]
      simp
/-- The text of the first token of two texts is the first of them just where it is as long. -/
theorem both_text (y x : ByteArray) (h0 : 0 < y.size) : 0 < (lex (sb (y ++ x)) 0).length ∧ ((tbs (tg (lex (sb (y ++ x)) 0) 0).2.1 = y) ↔ (fst_ (sb (y ++ x))).2 = y.size) := by
  have hne : sb (y ++ x) ≠ [] := fun e => by
    have := congrArg List.length e
    rw [sb_len, ByteArray.size_append, List.length_nil] at this
    omega
  have hp := fst_pos hne
  have e : tg (lex (sb (y ++ x)) 0) 0 = ((fst_ (sb (y ++ x))).1, (sb (y ++ x)).take (fst_ (sb (y ++ x))).2, 0) := by rw [lex_step hne]; rfl
  refine ⟨by rw [lex_step hne]; simp, ?_⟩
  rw [e]
  simp only
  have hb : sb (tbs ((sb (y ++ x)).take (fst_ (sb (y ++ x))).2)) = (sb (y ++ x)).take (fst_ (sb (y ++ x))).2 := sb_bs ((sb_byt _).take _)
  constructor
  · intro h
    rw [h] at hb
    have := congrArg List.length hb
    rw [sb_len, List.length_take] at this
    omega
  · intro h
    apply sbInj
    rw [hb, h, sb_append, List.take_append_of_le_length (by rw [sb_len]; exact Nat.le_refl _), ← sb_len, List.take_length]

def adJ : Op := Op.binOp .add 9 (Operand.tmp 43) (Operand.tmp 47) 9
set_option maxRecDepth 100000 in
set_option maxHeartbeats 16000000 in
theorem rjoin_any (B : List ByteArray) (a : Option Addr) (cap n : Nat) (hn : B.length = n) (hz : n ≤ 1000) (hl : ∀ s ∈ B, s.size ≤ 40000) (w : World) (hS : StrIn w a B) :
    Calls Tryd.prog 31 #[.slice a n cap] w fun e w' => e = .returned (.string (joB B)) ∧ Below w.heap.size w w' := by
  obtain ⟨R, hR⟩ : ∃ R, joB B = R := ⟨_, rfl⟩
  rw [hR]
  have HR := Lib.hid hR
  have HS := Lib.hid hS
  have HN := Lib.hid hn
  have HL := Lib.hid hl
  clear hS hn hl hR
  go_enter Tryd.func31, Tryd.ntmps31
  go_wp2
  go_loopw [3, 4] (fun v3 v4 wr => ∃ (k : Nat) (out : ByteArray), k ≤ n ∧ v4 = .int .i64 (k : Int) ∧ v3 = .string out ∧ out.size ≤ 40001 * k ∧ Hid (sb out = flat (pcsB B k)) ∧ Hid (Below w.heap.size w wr) ∧ Hid (∀ i, i < k → okB (gB B i) = true)) (fun _ v4 _ => n - (RowKit.intOf v4).toNat)
  case atStart => exact ⟨0, ⟨#[]⟩, Nat.zero_le _, rfl, rfl, Nat.zero_le _, rfl, Below.refl _ _, Lib.hid fun i hi => by omega⟩
  case round =>
    obtain ⟨k, out, hk, rfl, rfl, hos, HO, HB, HOK⟩ := hrel
    by_cases hlt : k < n
    · have hltz : (k : Int) < (n : Int) := by omega
      obtain ⟨p, hp, hc⟩ : ∃ p, a = some p ∧ ∀ W, Below wr.heap.size wr W → ∀ i, i < n → W.cell? (p.add i) = some (.string (gB B i)) := by
        rcases HS.out with h | ⟨p, hp, _⟩
        · have := HN.out; rw [h] at this; simp at this; omega
        · refine ⟨p, hp, fun W hW i hi => ?_⟩
          rcases HS.out.below (HB.out.trans (hW.mono HB.out.size)) with h | ⟨p', hp', h⟩
          · have := HN.out; rw [h] at this; simp at this; omega
          · rw [hp] at hp'
            cases hp'
            exact h i (by have := HN.out; omega)
      subst hp
      have HC := Lib.hid hc
      have hck := hc wr (Below.refl _ _) k hlt
      have hsx := HL.out _ (gB_mem (show k < B.length by have := HN.out; omega))
      have hpc : pcsB B (k + 1) = pcsB B k ++ ((if k = 0 then [] else [sepB (gB B (k - 1)) (gB B k)]) ++ [gB B k]) := rfl
      have hok1 : okB (gB B k) = true → ∀ i, i < k + 1 → okB (gB B i) = true := fun h i hi => by
        by_cases e : i = k
        · rw [e]; exact h
        · exact HOK.out i (by omega)
      have hok0 : okB (gB B k) = false → R = ⟨#[]⟩ := fun h => by rw [← HR.out]; exact joB_not (by have := HN.out; omega) h
      have c0 := rtoks_any (gB B k) (by omega) wr
      have HX : Hid (∀ W, Below wr.heap.size wr W → W.cell? (p.add k) = some (.string (gB B k))) := Lib.hid fun W hW => hc W hW k hlt
      obtain ⟨x, hx⟩ : ∃ x, gB B k = x := ⟨_, rfl⟩
      rw [hx] at hck hsx c0 hpc hok0 hok1
      have HX : Hid (∀ W, Below wr.heap.size wr W → W.cell? (p.add k) = some (.string x)) := Lib.hid fun W hW => by rw [← hx]; exact hc W hW k hlt
      unfold NewTs at c0
      have HPC := Lib.hid hpc
      clear hc hpc hx
      by_cases hok : okB x = true
      · obtain ⟨hlx, hk0, hn2⟩ := okB_lex hok
        have HOK2 := Lib.hid (hok1 hok)
        rw [hlx] at c0
        obtain ⟨kd, hkd⟩ : ∃ y, (fst_ (sb x)).1 = y := ⟨_, rfl⟩
        rw [hkd] at c0 hk0
        have K0 : (kd == 0) = false := beq_eq_false_iff_ne.2 hk0
        have C0 := Lib.hid c0
        clear hok0 hok1 c0 hlx hkd hk0
        go_wp2_with fail
        refine C0.out.mono ?_
        rintro e w2 ⟨u2, rfl, hown, hb2⟩
        obtain ⟨a2, cp2, rfl, hcl⟩ := trow hown rfl
        obtain ⟨g2, rfl, hg2, hcell⟩ := hcl (by simp)
        have d0 : w2.cell? ⟨g2, 0, none⟩ = some (.int .i64 kd) := (hcell w2 rfl 0 (by simp)).1
        have HB2 := Lib.hid hb2
        have hz2 := hb2.size
        clear hown hb2 hcl hcell
        by_cases h0 : k = 0
        · subst h0
          have HPC2 : Hid (pcsB B (0 + 1) = [x]) := HPC.out
          have hq := HX.out w2 HB2.out
          have hq0 : w2.cell? p = some (.string x) := by simpa [Addr.add] using hq
          have hcat : out.size + x.size ≤ 9223372036854775807 := by omega
          have HO2 : Hid (sb (out ++ x) = flat (pcsB B (0 + 1))) := by
            rw [HPC2.out, sb_append, HO.out, flat_one]
            rfl
          have hos2 : Hid ((out ++ x).size ≤ 40001 * (0 + 1)) := Lib.hid (by rw [ByteArray.size_append]; omega)
          have HB3 : Hid (Below w.heap.size w w2) := HB.out.trans (HB2.out.mono HB.out.size)
          clear hq
          go_wp2
          go_roundw
          case rel => exact ⟨0 + 1, _, by omega, by go_num, rfl, hos2.out, HO2, HB3, HOK2⟩
          case measure => simp only [RowKit.intOf, Int.toNat_natCast]; omega
        · have hkz : (0 : Int) < (k : Int) := by omega
          have hsy := HL.out _ (gB_mem (show k - 1 < B.length by have := HN.out; omega))
          have hoky := HOK.out (k - 1) (by omega)
          have HY : Hid (∀ W, Below wr.heap.size wr W → W.cell? (p.add (k - 1)) = some (.string (gB B (k - 1)))) := Lib.hid fun W hW => HC.out W hW (k - 1) (by omega)
          have hpc := HPC.out
          rw [if_neg h0] at hpc
          have hpk : ((k : Int) - 1) = ((k - 1 : Nat) : Int) := by omega
          obtain ⟨k1, hk1⟩ : ∃ k1, k - 1 = k1 := ⟨_, rfl⟩
          rw [hk1] at hsy hoky HY hpc hpk
          obtain ⟨y, hy⟩ : ∃ y, gB B k1 = y := ⟨_, rfl⟩
          rw [hy] at hsy hoky hpc HY
          have hyp := okB_pos hoky
          obtain ⟨hly, hky0, hny⟩ := okB_lex hoky
          have hyx := both_text y x hyp
          have hsz : (y ++ x).size = y.size + x.size := ByteArray.size_append
          have c1 := rtoks_any y (by omega)
          have c2 := rtoks_any (y ++ x) (by omega)
          rw [hly] at c1
          have hsep : sepB y x = if (fst_ (sb y)).1 = 1 ∨ ((fst_ (sb y)).1 = 8 ∧ (sb y).head? = some 34) then ⟨#[10]⟩ else if (fst_ (sb (y ++ x))).2 ≠ y.size then ⟨#[32]⟩ else ⟨#[]⟩ := rfl
          rw [head_at y hyp] at hsep
          obtain ⟨c, hcc⟩ : ∃ c : Int, ((y[0]'hyp).toNat : Int) = c := ⟨_, rfl⟩
          rw [hcc] at hsep
          obtain ⟨ky, hky⟩ : ∃ q, (fst_ (sb y)).1 = q := ⟨_, rfl⟩
          rw [hky] at c1 hsep
          obtain ⟨L2, hL2⟩ : ∃ L, lex (sb (y ++ x)) 0 = L := ⟨_, rfl⟩
          rw [hL2] at c2 hyx
          obtain ⟨hL2p, hL2t⟩ := hyx
          obtain ⟨tx, htx⟩ : ∃ t, tbs (tg L2 0).2.1 = t := ⟨_, rfl⟩
          rw [htx] at hL2t
          obtain ⟨nb, hnb⟩ : ∃ t, (fst_ (sb (y ++ x))).2 = t := ⟨_, rfl⟩
          rw [hnb] at hL2t hsep
          unfold NewTs at c1 c2
          have C1 := Lib.hid c1
          have C2 := Lib.hid c2
          have HSEP := Lib.hid hsep
          have HTX := Lib.hid htx
          have HL2T := Lib.hid hL2t
          have HPC2 : Hid (sb out ++ sb (sepB y x) ++ sb x = flat (pcsB B (k + 1))) := Lib.hid (by rw [hpc, flat_app, flat_app, flat_one, flat_one, HO.out, List.append_assoc])
          have hqx := HX.out w2 HB2.out
          have hqy := HY.out w2 HB2.out
          have hk1n : (k1 : Int) < (n : Int) := by omega
          have hos3 := hos
          clear hpc c1 c2 hsep hky hL2 htx hnb hy hk1 hL2t hly hky0 hny hoky h0
          go_wp2_with fail
          refine (C1.out _).mono ?_
          rintro e w3 ⟨u3, rfl, hown3, hb3⟩
          obtain ⟨a3, cp3, rfl, hcl3⟩ := trow hown3 rfl
          obtain ⟨g3, rfl, hg3, hcell3⟩ := hcl3 (by simp)
          obtain ⟨d1, d2, d3⟩ := hcell3 w3 rfl 0 (by simp)
          have f1 : w3.cell? ⟨g3, 0, none⟩ = some (.int .i64 ky) := d1
          have f2 : w3.cell? ⟨g3, 1, none⟩ = some (.string y) := by
            have : tbs (tg [((ky, sb y, 0) : Tk)] 0).2.1 = y := tbs_sb y
            rw [this] at d2
            exact d2
          have f3 : w3.cell? ⟨g3, 2, none⟩ = some (.int .i64 0) := d3
          have HB3 := Lib.hid (HB2.out.trans (hb3.mono hz2))
          have hz3 := hb3.size
          clear hown3 hb3 hcl3 hcell3 d1 d2 d3 d0 hqx hqy
          obtain ⟨W4, hW4⟩ : ∃ W, w3.alloc (.cells #[.int .i64 ky, .string y, .int .i64 0] 31) = W := ⟨_, rfl⟩
          have hrow4 : Blk W4 w3.heap.size 31 #[.int .i64 ky, .string y, .int .i64 0] := by rw [← hW4]; exact Blk.new _ _ _
          have hb4 : Below w3.heap.size w3 W4 := by rw [← hW4]; exact (Below.refl _ _).alloc (Nat.le_refl _) _
          have HW4 := Lib.hid hW4
          have HROW4 := Lib.hid hrow4
          have HB4 := Lib.hid (HB3.out.trans (hb4.mono (by omega)))
          obtain ⟨A4, hA4⟩ : ∃ A, w3.heap.size = A := ⟨_, rfl⟩
          have HA4 := Lib.hid hA4
          rw [hA4] at HROW4
          have hA4z : A4 < W4.heap.size := HROW4.out.lt
          have qx := HX.out W4 HB4.out
          have qy := HY.out W4 HB4.out
          clear hW4 hrow4 hb4 hA4
          go_wp2_with fail
          rw [HA4.out, show w3.alloc (.cells #[.int .i64 ky, .string y, .int .i64 0] 31) = W4 from HW4.out]
          have hwk : IntKind.i64.wrap ((k : Int) - 1) = (k1 : Int) := by rw [hpk]; simp [IntKind.wrap, IntKind.signed, IntKind.bits]; omega
          have hwk2 : IntKind.i64.wrap ((k1 : Nat) : Int) = (k1 : Int) := by simp [IntKind.wrap, IntKind.signed, IntKind.bits]; omega
          have hk1z : ((k1 : Nat) : Int).toNat = k1 := Int.toNat_natCast _
          have hk10 : (0 : Int) ≤ (k1 : Int) := by omega
          have hcatyx : y.size + x.size ≤ 9223372036854775807 := by omega
          have hcA : adJ = Op.binOp .add 9 (Operand.tmp 43) (Operand.tmp 47) 9 := rfl
          rw [← hcA]
          have HCY : Hid (∀ W, Below wr.heap.size wr W → W.cell? (p.add k1) = some (.string y) ∧ W.cell? (p.add k) = some (.string x)) := Lib.hid fun W hW => ⟨HY.out W hW, HX.out W hW⟩
          clear HX HY
          go_region_held3 (fun w' => w'.cell? (p.add k1) = some (.string y) ∧ w'.cell? (p.add k) = some (.string x)) (first | exact ⟨qy, qx⟩ | exact cD)
            (first
            | (go_at_call 15; refine (C2.out _).mono ?_; rintro e w5 ⟨u5, rfl, hown5, hb5⟩; have bD : Below W4.heap.size W4 w5 := (Below.refl W4.heap.size W4).drew.trans (hb5.mono (Nat.le_refl _)); have HB5 : Hid (Below wr.heap.size wr w5) := HB4.out.trans (bD.mono HB4.out.size); have cD := HCY.out w5 HB5.out; have HO5 := Lib.hid hown5; have HR5 : Hid (Blk w5 A4 31 #[.int .i64 ky, .string y, .int .i64 0]) := (bD.block A4 hA4z).trans HROW4.out; clear hown5 hb5 bD))
          obtain ⟨a5, cp5, rfl, hcl5⟩ := trow HO5.out rfl
          obtain ⟨g5, rfl, hg5, hcell5⟩ := hcl5 hL2p
          have hc5 := (hcell5 w5 rfl 0 hL2p).2.1
          rw [HTX.out] at hc5
          have e1 : w5.cell? ⟨g5, 1, none⟩ = some (.string tx) := by simpa using hc5
          have r0 : w5.cell? ⟨A4, 0, none⟩ = some (.int .i64 ky) := HR5.out.cell 0
          have r1 : w5.cell? ⟨A4, 1, none⟩ = some (.string y) := HR5.out.cell 1
          have hy0 := cD.1
          have hx0 := cD.2
          have HBW : Hid (Below w.heap.size w w5) := HB.out.trans (HB5.out.mono HB.out.size)
          obtain ⟨l2, hl2⟩ : ∃ l, L2.length = l := ⟨_, rfl⟩
          rw [hl2] at hL2p ⊢
          have hl2z : (0 : Int) < (l2 : Int) := by omega
          have hsepb := sepB_size y x
          clear hcl5 hcell5 hc5 HO5 HR5 hl2 cD qx qy f1 f2 f3
          have hcat1 : out.size + (⟨#[10]⟩ : ByteArray).size ≤ 9223372036854775807 := by show out.size + 1 ≤ _; omega
          have hz1 : (out ++ (⟨#[10]⟩ : ByteArray)).size = out.size + 1 := ByteArray.size_append
          have hcat2 : (out ++ (⟨#[10]⟩ : ByteArray)).size + x.size ≤ 9223372036854775807 := by rw [hz1]; omega
          have hcat3 : out.size + (⟨#[32]⟩ : ByteArray).size ≤ 9223372036854775807 := by show out.size + 1 ≤ _; omega
          have hz3' : (out ++ (⟨#[32]⟩ : ByteArray)).size = out.size + 1 := ByteArray.size_append
          have hcat4 : (out ++ (⟨#[32]⟩ : ByteArray)).size + x.size ≤ 9223372036854775807 := by rw [hz3']; omega
          have hcat5 : out.size + x.size ≤ 9223372036854775807 := by omega
          have HZ1 : Hid ((out ++ (⟨#[10]⟩ : ByteArray) ++ x).size ≤ 40001 * (k + 1)) := Lib.hid (by rw [ByteArray.size_append, hz1]; omega)
          have HZ3 : Hid ((out ++ (⟨#[32]⟩ : ByteArray) ++ x).size ≤ 40001 * (k + 1)) := Lib.hid (by rw [ByteArray.size_append, hz3']; omega)
          have HZ5 : Hid ((out ++ x).size ≤ 40001 * (k + 1)) := Lib.hid (by rw [ByteArray.size_append]; omega)
          clear hz1 hz3'
          by_cases q1 : ky = 1
          · have Q1 : (ky == 1) = true := beq_iff_eq.2 q1
            have HE : Hid (sb (out ++ (⟨#[10]⟩ : ByteArray) ++ x) = flat (pcsB B (k + 1))) := Lib.hid (by
              rw [← HPC2.out, HSEP.out, if_pos (.inl q1), sb_append, sb_append])
            clear q1
            go_wp2
            go_roundw
            case rel => exact ⟨k + 1, _, by omega, by go_num, rfl, HZ1.out, HE, HBW, HOK2⟩
            case measure => simp only [RowKit.intOf, Int.toNat_natCast]; omega
          · have Q1 : (ky == 1) = false := beq_eq_false_iff_ne.2 q1
            by_cases q2 : ky = 8 ∧ c = 34
            · have Q8 : (ky == 8) = true := beq_iff_eq.2 q2.1
              have Qc : (c == 34) = true := beq_iff_eq.2 q2.2
              have HE : Hid (sb (out ++ (⟨#[10]⟩ : ByteArray) ++ x) = flat (pcsB B (k + 1))) := Lib.hid (by
                rw [← HPC2.out, HSEP.out, if_pos (.inr ⟨q2.1, by rw [q2.2]⟩), sb_append, sb_append])
              clear q1 q2
              go_wp2
              go_roundw
              case rel => exact ⟨k + 1, _, by omega, by go_num, rfl, HZ1.out, HE, HBW, HOK2⟩
              case measure => simp only [RowKit.intOf, Int.toNat_natCast]; omega
            · have Q : (ky == 8) = false ∨ ((ky == 8) = true ∧ (c == 34) = false) := by
                by_cases h8 : ky = 8
                · exact .inr ⟨beq_iff_eq.2 h8, beq_eq_false_iff_ne.2 fun h => q2 ⟨h8, h⟩⟩
                · exact .inl (beq_eq_false_iff_ne.2 h8)
              have hcond : ¬ (ky = 1 ∨ (ky = 8 ∧ (some c : Option Int) = some 34)) := by
                rintro (h | ⟨h, h'⟩)
                · exact q1 h
                · exact q2 ⟨h, by simpa using h'⟩
              have HC2 := Lib.hid hcond
              clear q1 q2 hcond
              by_cases q3 : tx = y
              · have HE : Hid (sb (out ++ x) = flat (pcsB B (k + 1))) := Lib.hid (by
                  have h1 : ¬ nb ≠ y.size := fun h => h (HL2T.out.1 q3)
                  rw [← HPC2.out, HSEP.out, if_neg HC2.out, if_neg h1, sb_append]
                  show _ = sb out ++ [] ++ sb x
                  rw [List.append_nil])
                subst q3
                rcases Q with Q8 | ⟨Q8, Qc⟩
                · go_wp2_with fail
                  go_quiet (fail)
                  go_wp2
                  go_roundw
                  case rel => exact ⟨k + 1, _, by omega, by go_num, rfl, HZ5.out, HE, below_drewN HBW.out _, HOK2⟩
                  case measure => simp only [RowKit.intOf, Int.toNat_natCast]; omega
                · go_wp2_with fail
                  go_quiet (fail)
                  go_wp2
                  go_roundw
                  case rel => exact ⟨k + 1, _, by omega, by go_num, rfl, HZ5.out, HE, below_drewN HBW.out _, HOK2⟩
                  case measure => simp only [RowKit.intOf, Int.toNat_natCast]; omega
              · have HE : Hid (sb (out ++ (⟨#[32]⟩ : ByteArray) ++ x) = flat (pcsB B (k + 1))) := Lib.hid (by
                  have h1 : nb ≠ y.size := fun h => q3 (HL2T.out.2 h)
                  rw [← HPC2.out, HSEP.out, if_neg HC2.out, if_pos h1, sb_append, sb_append])
                have Q3 : (tx.toList == y.toList) = false := toList_ne q3
                have Q3' : (tx.toList != y.toList) = true := by rw [bne, Q3]; rfl
                clear q3
                rcases Q with Q8 | ⟨Q8, Qc⟩
                · go_wp2_with fail
                  go_quiet (fail)
                  go_wp2
                  go_roundw
                  case rel => exact ⟨k + 1, _, by omega, by go_num, rfl, HZ3.out, HE, below_drewN HBW.out _, HOK2⟩
                  case measure => simp only [RowKit.intOf, Int.toNat_natCast]; omega
                · go_wp2_with fail
                  go_quiet (fail)
                  go_wp2
                  go_roundw
                  case rel => exact ⟨k + 1, _, by omega, by go_num, rfl, HZ3.out, HE, below_drewN HBW.out _, HOK2⟩
                  case measure => simp only [RowKit.intOf, Int.toNat_natCast]; omega
      · have hok2 : okB x = false := by simpa using hok
        have HR2 := Lib.hid (hok0 hok2)
        have hnot := okB_not hok2
        obtain ⟨L, hL⟩ : ∃ L, lex (sb x) 0 = L := ⟨_, rfl⟩
        rw [hL] at c0 hnot
        have C0 := Lib.hid c0
        clear hok0 hok1 c0 hok hok2 hL
        obtain ⟨nl, hnl⟩ : ∃ n, L.length = n := ⟨_, rfl⟩
        have HNL := Lib.hid hnl
        rw [hnl] at hnot
        rcases hnot with h1 | ⟨h1, h2⟩
        · have h1b : ((nl : Int) != 1) = true := by rw [bne_iff_ne]; omega
          clear hnl h1
          go_wp2_with fail
          refine C0.out.mono ?_
          rintro e w2 ⟨u2, rfl, hown, hb2⟩
          rw [HNL.out] at hown
          obtain ⟨a2, cp2, rfl⟩ := own_slice hown
          have HB2 := Lib.hid (HB.out.trans (hb2.mono HB.out.size))
          clear hown hb2
          go_wp2
          go_ret
          exact ⟨by rw [HR2.out]; rfl, HB2.out⟩
        · go_wp2_with fail
          refine C0.out.mono ?_
          rintro e w2 ⟨u2, rfl, hown, hb2⟩
          obtain ⟨a2, cp2, rfl, hcl⟩ := trow hown rfl
          obtain ⟨g2, rfl, hg2, hcell⟩ := hcl (by omega)
          have d0 := (hcell w2 rfl 0 (by omega)).1
          rw [h2] at d0
          have d0' : w2.cell? ⟨g2, 0, none⟩ = some (.int .i64 0) := by simpa using d0
          have hLn : L.length = 1 := by omega
          have HB2 := Lib.hid (HB.out.trans (hb2.mono HB.out.size))
          rw [hLn]
          clear hown hb2 hcl hcell d0 hnl h1 h2
          go_wp2
          go_ret
          exact ⟨by rw [HR2.out]; rfl, HB2.out⟩
    · obtain rfl : n = k := by omega
      have hltz : ¬ (n : Int) < (n : Int) := by omega
      have hR : R = out := by
        rw [← HR.out, joB_yes (fun i hi => HOK.out i (by have := HN.out; omega)), HN.out, ← HO.out]
        exact tbs_sb out
      have HR3 := Lib.hid hR
      clear hR
      go_wp2
      go_ret
      exact ⟨by rw [HR3.out]; rfl, HB.out⟩

end Go.Proofs.YtgfhhpodcnohpaaDoor
