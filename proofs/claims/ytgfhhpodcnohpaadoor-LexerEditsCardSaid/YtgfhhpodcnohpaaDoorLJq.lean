/- Tokens: the program's Join. Conditions: at most 1000 texts of at most 40000 bytes; the tables lie in memory. -/
import Derived.Test.YtgfhhpodcnohpaaDoorLJp
namespace Go.Proofs.YtgfhhpodcnohpaaDoor
open Go.RowKit Go.Shelf
set_option linter.unusedVariables false

abbrev gB (B : List ByteArray) (k : Nat) : ByteArray := B.getD k ⟨#[]⟩
/-- A text that is one token, and no Space. -/
def okB (s : ByteArray) : Bool := (onlyV (sb s)).2 && !decide ((onlyV (sb s)).1 = 0)
theorem okB_pos {s : ByteArray} (h : okB s = true) : 0 < s.size := by
  rcases Nat.eq_zero_or_pos s.size with h0 | h0
  · have : sb s = [] := List.eq_nil_of_length_eq_zero (by rw [sb_len]; exact h0)
    rw [okB, this] at h
    simp [onlyV] at h
  · exact h0
/-- The texts and what separates them. -/
def pcsB (B : List ByteArray) : Nat → List ByteArray
  | 0 => []
  | k + 1 => pcsB B k ++ ((if k = 0 then [] else [sepB (gB B (k - 1)) (gB B k)]) ++ [gB B k])
theorem pcsB_len (B : List ByteArray) : ∀ k, (pcsB B k).length ≤ 2 * k
  | 0 => Nat.le_refl 0
  | k + 1 => by
    have := pcsB_len B k
    rw [pcsB, List.length_append, List.length_append]
    split <;> simp <;> omega
theorem flat_app (A B : List ByteArray) : flat (A ++ B) = flat A ++ flat B := by
  unfold flat
  rw [List.map_append, List.flatten_append]
theorem flat_one (x : ByteArray) : flat [x] = sb x := by simp [flat]
theorem gB_mem {B : List ByteArray} {k : Nat} (h : k < B.length) : gB B k ∈ B := by
  unfold gB List.getD
  rw [List.getElem?_eq_getElem h]
  exact List.getElem_mem h
theorem pcsB_size (B : List ByteArray) (M : Nat) (hM : ∀ s ∈ B, s.size ≤ M) : ∀ k, k ≤ B.length → (flat (pcsB B k)).length ≤ (M + 1) * k
  | 0, _ => Nat.zero_le _
  | k + 1, hk => by
    have h1 := pcsB_size B M hM k (by omega)
    have h2 := hM _ (gB_mem (show k < B.length by omega))
    rw [pcsB, flat_app, flat_app, flat_one, List.length_append, List.length_append, sb_len, Nat.mul_succ]
    split
    · rw [show flat [] = [] from rfl, List.length_nil]; omega
    · rw [flat_one, sb_len]
      have := sepB_size (gB B (k - 1)) (gB B k)
      omega
def joB (B : List ByteArray) : ByteArray := if ∀ s ∈ B, okB s = true then bs (flat (pcsB B B.length)) else ⟨#[]⟩
theorem joB_not {B : List ByteArray} {k : Nat} (h : k < B.length) (hk : okB (gB B k) = false) : joB B = ⟨#[]⟩ := by
  unfold joB
  rw [if_neg]
  intro h2
  have := h2 _ (gB_mem h)
  rw [hk] at this
  cases this
theorem joB_yes {B : List ByteArray} (h : ∀ i, i < B.length → okB (gB B i) = true) : joB B = bs (flat (pcsB B B.length)) := by
  unfold joB
  rw [if_pos]
  intro s hs
  obtain ⟨i, hi, rfl⟩ := List.getElem_of_mem hs
  have := h i hi
  unfold gB List.getD at this
  rw [List.getElem?_eq_getElem hi] at this
  exact this

/-- A new block with one text, ready to be appended. -/
theorem one_new (w : World) (x : ByteArray) : Below w.heap.size w (w.alloc (.cells #[.string x] 9)) ∧ ∀ j u, ([.string x] : List Value)[j]? = some u → (w.alloc (.cells #[.string x] 9)).cell? ((⟨w.heap.size, 0, none⟩ : Addr).add j) = some u := by
  refine ⟨(Below.refl _ _).alloc (Nat.le_refl _) _, fun j u hj => ?_⟩
  have hrow : Blk (w.alloc (.cells #[.string x] 9)) w.heap.size 9 #[.string x] := Blk.new _ _ _
  rw [show (⟨w.heap.size, 0, none⟩ : Addr).add j = ⟨w.heap.size, j, none⟩ by by_cases h0 : j = 0 <;> simp [Addr.add, h0], hrow.cell]
  simpa using hj
theorem one_str (x : ByteArray) : ∀ u ∈ ([.string x] : List Value), u.oneCell' = true := by
  intro u hu
  simp at hu
  rw [hu]
  rfl

set_option maxRecDepth 100000 in
set_option maxHeartbeats 8000000 in
theorem join_any (B : List ByteArray) (a : Option Addr) (cap n : Nat) (hn : B.length = n) (hz : n ≤ 1000) (hl : ∀ s ∈ B, s.size ≤ 40000) (w : World) (hT : LexT w) (hS : StrIn w a B) :
    Calls Tryd.prog 30 #[.slice a n cap] w fun e w' => e = .returned (.string (joB B)) ∧ Below w.heap.size w w' := by
  obtain ⟨R, hR⟩ : ∃ R, joB B = R := ⟨_, rfl⟩
  rw [hR]
  have HR := Lib.hid hR
  have HS := Lib.hid hS
  have HN := Lib.hid hn
  have HL := Lib.hid hl
  have HT := Lib.hid hT
  obtain ⟨i9, hi9, iy0, iy1, iy2⟩ := info_parts info9f
  clear hS hn hl hT hR
  go_enter Tryd.func30, Tryd.ntmps30
  go_wp2_with (at_make; refine wpList_make_own _ rfl _ _ 23 rfl w.heap.size 9 i9 (.string ⟨#[]⟩) 1 Tryd.underlying23 hi9 iy0 iy1 .i64 .i64 _ (2 * n) rfl rfl (by omega) (by rw [iy2]; omega) (by unfold maxLen; omega) (Nat.le_refl _) ?_; intro w1 hown1 hgrow1)
  have HO1 : Hid (w1.ownsRow w.heap.size 9 1 (.slice (some ⟨w.heap.size, 0, none⟩) 0 (2 * n)) 0 []) := hown1
  have HB1 : Hid (Below w.heap.size w w1) := (Below.refl _ _).grown hgrow1 (Nat.le_refl _) (fun k e => by cases e)
  clear hown1 hgrow1
  go_wp2
  go_loopw [3, 14] (fun v3 v14 wr => ∃ k, k ≤ n ∧ v14 = .int .i64 (k : Int) ∧ Hid (wr.ownsRow w.heap.size 9 1 v3 (pcsB B k).length ((pcsB B k).map Value.string)) ∧ Hid (Below w.heap.size w wr) ∧ Hid (∀ i, i < k → okB (gB B i) = true)) (fun _ v14 _ => n - (RowKit.intOf v14).toNat)
  case atStart => exact ⟨0, Nat.zero_le _, rfl, HO1, HB1, Lib.hid fun i hi => by omega⟩
  case round =>
    obtain ⟨k, hk, rfl, HO, HB, HOK⟩ := hrel
    obtain ⟨av, cv, hv⟩ := own_slice HO.out
    subst hv
    by_cases hlt : k < n
    · have hltz : (k : Int) < (n : Int) := by omega
      obtain ⟨p, hp, hc⟩ : ∃ p, a = some p ∧ ∀ i, i < B.length → wr.cell? (p.add i) = some (.string (gB B i)) := by
        rcases HS.out.below HB.out with h | h
        · have := HN.out; rw [h] at this; simp at this; omega
        · exact h
      subst hp
      have hck := hc k (by have := HN.out; omega)
      have HC := Lib.hid hc
      have hsx := HL.out _ (gB_mem (show k < B.length by have := HN.out; omega))
      have hok0 : okB (gB B k) = false → R = ⟨#[]⟩ := fun h => by rw [← HR.out]; exact joB_not (by have := HN.out; omega) h
      have hpl := pcsB_len B k
      have hpc : pcsB B (k + 1) = pcsB B k ++ ((if k = 0 then [] else [sepB (gB B (k - 1)) (gB B k)]) ++ [gB B k]) := rfl
      have hok1 : okB (gB B k) = true → ∀ i, i < k + 1 → okB (gB B i) = true := fun h i hi => by
        by_cases e : i = k
        · rw [e]; exact h
        · exact HOK.out i (by omega)
      have hx0 : okB (gB B k) = true → 0 < (gB B k).size := okB_pos
      have c0 := only_any (gB B k) (by omega) wr (HT.out.below HB.out)
      unfold okB at hok0 hok1 hx0
      obtain ⟨x, hx⟩ : ∃ x, gB B k = x := ⟨_, rfl⟩
      obtain ⟨⟨kd, ok⟩, hkd⟩ : ∃ y, onlyV (sb x) = y := ⟨_, rfl⟩
      have HOK1 : Hid ((ok && !decide (kd = 0)) = true → ∀ i, i < k + 1 → okB (gB B i) = true) := Lib.hid (by rw [hx, hkd] at hok1; exact hok1)
      rw [hx] at hck hsx c0 hpc hok0 hx0
      rw [hkd] at c0 hok0 hx0
      simp only at c0 hok0 hx0
      have C0 := Lib.hid c0
      have HX := Lib.hid hx
      obtain ⟨m, hm⟩ : ∃ m, (pcsB B k).length = m := ⟨_, rfl⟩
      rw [hm] at HO hpl ⊢
      have HPC := Lib.hid hpc
      have HM := Lib.hid hm
      have HOK0 := Lib.hid hok0
      have HX0 := Lib.hid hx0
      clear hc c0 hkd hx hpc hm hok0 hok1 hx0
      cases ok
      · go_wp2_with fail
        refine C0.out.mono ?_
        rintro e w2 ⟨rfl, hb⟩
        have HB2 := Lib.hid (HB.out.trans (hb.mono HB.out.size))
        clear hb
        go_wp2
        go_ret
        exact ⟨by rw [HOK0.out rfl]; rfl, HB2.out⟩
      · by_cases k0 : kd = 0
        · have K0 : (kd == 0) = true := beq_iff_eq.2 k0
          have hR : R = ⟨#[]⟩ := HOK0.out (by simp [k0])
          have HR2 := Lib.hid hR
          clear k0 hR
          go_wp2_with fail
          refine C0.out.mono ?_
          rintro e w2 ⟨rfl, hb⟩
          have HB2 := Lib.hid (HB.out.trans (hb.mono HB.out.size))
          clear hb
          go_wp2
          go_ret
          exact ⟨by rw [HR2.out]; rfl, HB2.out⟩
        · have K0 : (kd == 0) = false := beq_eq_false_iff_ne.2 k0
          have HOK2 := Lib.hid (HOK1.out (by simp [k0]))
          have hxp : 0 < x.size := HX0.out (by simp [k0])
          clear k0
          by_cases h0 : k = 0
          · subst h0
            have HPC2 : Hid (pcsB B (0 + 1) = [x]) := HPC.out
            have hck0 : wr.cell? p = some (.string x) := by simpa [Addr.add] using hck
            go_wp2_with fail
            refine C0.out.mono ?_
            rintro e w2 ⟨rfl, hb⟩
            have hsz2 := hb.size
            have hszw := HB.out.size
            obtain ⟨b5, nw⟩ := one_new w2 x
            obtain ⟨W5, hW5⟩ : ∃ W, w2.alloc (.cells #[.string x] 9) = W := ⟨_, rfl⟩
            rw [hW5] at b5 nw
            have HW5 := Lib.hid hW5
            have HNW := Lib.hid nw
            have hsz5 := b5.size
            have HB5 := Lib.hid ((HB.out.trans (hb.mono hszw)).trans (b5.mono (by omega)))
            have hm0 : m = 0 := by omega
            subst hm0
            have HO5 : Hid (W5.ownsRow w.heap.size 9 1 (.slice av 0 cv) 0 ((pcsB B 0).map Value.string)) := own_same HO.out (fun g hg => by
              have := (HO.out.lt g hg).2
              exact (b5.block g (by omega)).trans (hb.block g this))
            have hbase : w.heap.size ≤ W5.heap.size := by omega
            have HONE := Lib.hid (one_str x)
            clear hb b5 nw hW5
            go_wp2_with (at_builtin; rw [show w2.alloc (.cells #[.string x] 9) = W5 from HW5.out]; refine wpList_append_own_at _ rfl _ _ 23 rfl w.heap.size 9 i9 (.string ⟨#[]⟩) 1 16 Tryd.underlying23 hi9 iy0 iy1 iy2 rfl (by decide) (.slice av 0 cv) 0 ((pcsB B 0).map Value.string) rfl HO5.out ⟨w2.heap.size, 0, none⟩ 1 1 [.string x] rfl rfl HNW.out HONE.out (by unfold maxLen; omega) (by omega) hbase ?_; intro v6 w6 hown6 hgrow6 hnn6 hat6)
            have HO6 : Hid (w6.ownsRow w.heap.size 9 1 v6 (pcsB B (0 + 1)).length ((pcsB B (0 + 1)).map Value.string)) := by rw [HPC2.out]; exact hown6
            have HB6 : Hid (Below w.heap.size w w6) := HB5.out.grown hgrow6 hbase (fun g hg => (HO5.out.lt g hg).1)
            clear hown6 hgrow6 hnn6 hat6
            go_wp2
            go_roundw
            case rel => exact ⟨0 + 1, by omega, by go_num, HO6, HB6, HOK2⟩
            case measure => simp only [RowKit.intOf, Int.toNat_natCast]; omega
          · have hkz : (0 : Int) < (k : Int) := by omega
            have hcp := HC.out (k - 1) (by have := HN.out; omega)
            have hsy := HL.out _ (gB_mem (show k - 1 < B.length by have := HN.out; omega))
            have hyp := okB_pos (HOK.out (k - 1) (by omega))
            have hpc := HPC.out
            rw [if_neg h0] at hpc
            obtain ⟨y, hy⟩ : ∃ y, gB B (k - 1) = y := ⟨_, rfl⟩
            rw [hy] at hcp hsy hyp hpc
            have c1 := fun W h => between_any y x (by omega) hyp W h
            obtain ⟨z, hzz⟩ : ∃ z, sepB y x = z := ⟨_, rfl⟩
            rw [hzz] at hpc c1
            have HPC2 : Hid (pcsB B (k + 1) = pcsB B k ++ [z] ++ [x]) := Lib.hid (by rw [hpc]; simp)
            have C1 := Lib.hid c1
            have hpk : ((k : Int) - 1) = ((k - 1 : Nat) : Int) := by omega
            have HCP := Lib.hid hcp
            obtain ⟨k1, hk1⟩ : ∃ k1, k - 1 = k1 := ⟨_, rfl⟩
            rw [hk1] at hcp HCP hpk
            have hk1n : (k1 : Int) < (n : Int) := by omega
            clear hpc c1 hy hzz h0 hk1
            go_wp2_with fail
            refine C0.out.mono ?_
            rintro e w2 ⟨rfl, hb⟩
            have hcp2 : w2.cell? (p.add k1) = some (.string y) := (hb.cell (World.block_lt_of_cell? wr _ HCP.out)).trans HCP.out
            have HB2 := Lib.hid (HB.out.trans (hb.mono HB.out.size))
            have HO2 : Hid (w2.ownsRow w.heap.size 9 1 (.slice av m cv) m ((pcsB B k).map Value.string)) := own_same HO.out (fun g hg => hb.block g (HO.out.lt g hg).2)
            clear hb hcp
            go_wp2_with fail
            have HT2 := Lib.hid (HT.out.below HB2.out)
            refine (C1.out _ HT2.out).mono ?_
            rintro e w3 ⟨rfl, hb⟩
            have hsz3 := hb.size
            have hszw := HB2.out.size
            obtain ⟨b5, nw⟩ := one_new w3 z
            obtain ⟨W5, hW5⟩ : ∃ W, w3.alloc (.cells #[.string z] 9) = W := ⟨_, rfl⟩
            rw [hW5] at b5 nw
            have HW5 := Lib.hid hW5
            have HNW := Lib.hid nw
            have hsz5 := b5.size
            have HB5 := Lib.hid ((HB2.out.trans (hb.mono hszw)).trans (b5.mono (by omega)))
            have HO5 : Hid (W5.ownsRow w.heap.size 9 1 (.slice av m cv) m ((pcsB B k).map Value.string)) := own_same HO2.out (fun g hg => by
              have := (HO2.out.lt g hg).2
              exact (b5.block g (by omega)).trans (hb.block g this))
            have hbase : w.heap.size ≤ W5.heap.size := by omega
            have HONE := Lib.hid (one_str z)
            have hm2 : m ≤ 2000 := by omega
            clear hb b5 nw hW5
            go_wp2_with (at_builtin; rw [show w3.alloc (.cells #[.string z] 9) = W5 from HW5.out]; refine wpList_append_own_at _ rfl _ _ 23 rfl w.heap.size 9 i9 (.string ⟨#[]⟩) 1 16 Tryd.underlying23 hi9 iy0 iy1 iy2 rfl (by decide) (.slice av m cv) m ((pcsB B k).map Value.string) rfl HO5.out ⟨w3.heap.size, 0, none⟩ 1 1 [.string z] rfl rfl HNW.out HONE.out (by unfold maxLen; omega) (by omega) hbase ?_; intro v6 w6 hown6 hgrow6 hnn6 hat6; refine Hid.out ?_)
            have HO6 : Hid (w6.ownsRow w.heap.size 9 1 v6 (m + 1) ((pcsB B k ++ [z]).map Value.string)) := by rw [List.map_append]; exact hown6
            have HB6 : Hid (Below w.heap.size w w6) := HB5.out.grown hgrow6 hbase (fun g hg => (HO5.out.lt g hg).1)
            clear hown6 hgrow6 hnn6 hat6
            obtain ⟨a6, c6, hv6⟩ := own_slice HO6.out
            subst hv6
            have hsz6 := HB6.out.size
            obtain ⟨b7, nw⟩ := one_new w6 x
            obtain ⟨W7, hW7⟩ : ∃ W, w6.alloc (.cells #[.string x] 9) = W := ⟨_, rfl⟩
            rw [hW7] at b7 nw
            have HW7 := Lib.hid hW7
            have HNW7 := Lib.hid nw
            have hsz7 := b7.size
            have HB7 := Lib.hid (HB6.out.trans (b7.mono (by omega)))
            have HO7 : Hid (W7.ownsRow w.heap.size 9 1 (.slice a6 (m + 1) c6) (m + 1) ((pcsB B k ++ [z]).map Value.string)) := own_same HO6.out (fun g hg => b7.block g (HO6.out.lt g hg).2)
            have hbase7 : w.heap.size ≤ W7.heap.size := by omega
            have HONE7 := Lib.hid (one_str x)
            clear b7 nw hW7
            refine Lib.hid ?_
            go_wp2_with (at_builtin; rw [show w6.alloc (.cells #[.string x] 9) = W7 from HW7.out]; refine wpList_append_own_at _ rfl _ _ 23 rfl w.heap.size 9 i9 (.string ⟨#[]⟩) 1 16 Tryd.underlying23 hi9 iy0 iy1 iy2 rfl (by decide) (.slice a6 (m + 1) c6) (m + 1) ((pcsB B k ++ [z]).map Value.string) rfl HO7.out ⟨w6.heap.size, 0, none⟩ 1 1 [.string x] rfl rfl HNW7.out HONE7.out (by unfold maxLen; omega) (by omega) hbase7 ?_; intro v8 w8 hown8 hgrow8 hnn8 hat8)
            have HO8 : Hid (w8.ownsRow w.heap.size 9 1 v8 (pcsB B (k + 1)).length ((pcsB B (k + 1)).map Value.string)) := by
              rw [HPC2.out, List.map_append, List.length_append, List.length_append, HM.out]; exact hown8
            have HB8 : Hid (Below w.heap.size w w8) := HB7.out.grown hgrow8 hbase7 (fun g hg => (HO7.out.lt g hg).1)
            clear hown8 hgrow8 hnn8 hat8
            go_wp2
            go_roundw
            case rel => exact ⟨k + 1, by omega, by go_num, HO8, HB8, HOK2⟩
            case measure => simp only [RowKit.intOf, Int.toNat_natCast]; omega
    · obtain rfl : n = k := by omega
      have hltz : ¬ (n : Int) < (n : Int) := by omega
      have hR : R = bs (flat (pcsB B n)) := by
        rw [← HR.out, joB_yes (fun i hi => HOK.out i (by have := HN.out; omega)), HN.out]
      have hsz := pcsB_size B 40000 HL.out n (by have := HN.out; omega)
      have hpl := pcsB_len B n
      have hS2 : StrIn wr av (pcsB B n) := by
        obtain ⟨a2, c2, e, _, h⟩ := strIn_own HO.out
        cases e
        exact h
      have c0 := concat_any (pcsB B n) av cv (pcsB B n).length rfl (by omega) (by omega) wr hS2
      rw [← hR] at c0
      have C0 := Lib.hid c0
      clear hR hS2 c0
      go_wp2_with fail
      refine C0.out.mono ?_
      rintro e w2 ⟨rfl, hb⟩
      have HB2 := Lib.hid (HB.out.trans (hb.mono HB.out.size))
      clear hb
      go_wp2
      go_ret
      exact ⟨rfl, HB2.out⟩

end Go.Proofs.YtgfhhpodcnohpaaDoor
