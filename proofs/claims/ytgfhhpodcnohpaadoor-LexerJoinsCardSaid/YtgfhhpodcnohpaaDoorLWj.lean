/- Tokens: words; the walk of LexerJoins. Conditions: the tables lie in memory. -/
import Derived.Test.YtgfhhpodcnohpaaDoorLRj
import Derived.Test.YtgfhhpodcnohpaaDoorLMg
import Derived.Test.YtgfhhpodcnohpaaDoorLLn
import Derived.Test.YtgfhhpodcnohpaaDoorLWt
import Derived.Deep.Strs
namespace Go.Proofs.YtgfhhpodcnohpaaDoor
open Go.RowKit Go.Shelf
set_option linter.unusedVariables false

/-- A slice of texts that comes in. -/
def IsTx (w : World) (a : Option Addr) (len cap : Nat) : Prop := ∃ Sx : Nat → ByteArray, len ≤ maxLen ∧ (len = 0 ∨ ∃ x, a = some x ∧ ∀ i, i < len → w.cell? (x.add i) = some (.string (Sx i)) ∧ (Sx i).size ≤ maxLen)
theorem open_tx {H : Type} {enc : TypeId × Value → H} {W : World} {fuel : Nat} {a : Option Addr} {len cap : Nat} {x : DataW H × List MemPlace} (h : DataW.trod enc Tryd.prog W 0 (fun _ => true) true fuel 23 [.slice a len cap] = some x) : IsTx W a len cap := by
  have hc1 : Tryd.prog.cellsOf 9 = 1 := by kernel_rfl
  rcases Deep.open_strs Tryd.underlying23 Tryd.underlying9 hc1 h with ⟨hcs, _⟩ | ⟨ad, l, c, m, Sx, hcs, _, hl, hcm, hm, _, hcell⟩
  · simp only [List.cons.injEq, Value.slice.injEq, and_true] at hcs
    obtain ⟨rfl, rfl, rfl⟩ := hcs
    exact ⟨fun _ => ⟨#[]⟩, Nat.zero_le _, .inl rfl⟩
  · simp only [List.cons.injEq, Value.slice.injEq, and_true] at hcs
    obtain ⟨rfl, rfl, rfl⟩ := hcs
    simp only [if_true] at hm
    exact ⟨Sx, by omega, .inr ⟨ad, rfl, fun i hi => hcell i (by omega)⟩⟩

theorem sol_flat : ∀ (N : Nat) (l : List Int) (p : Nat), l.length ≤ N → ((sol (lex l p)).map (·.2.1)).flatten.length ≤ l.length := by
  intro N
  induction N with
  | zero =>
    intro l p h
    have : l = [] := List.eq_nil_of_length_eq_zero (by omega)
    subst this
    exact Nat.zero_le _
  | succ N ih =>
    intro l p h
    by_cases h0 : l = []
    · subst h0; exact Nat.zero_le _
    · have hp := fst_pos h0
      have i1 := ih (l.drop (fst_ l).2) (p + (fst_ l).2) (by rw [List.length_drop]; omega)
      rw [List.length_drop] at i1
      rw [lex_step h0]
      by_cases hk : (fst_ l).1 = 0
      · rw [sol_cons0 _ _ hk]; omega
      · rw [sol_cons1 _ _ hk, List.map_cons, List.flatten_cons, List.length_append]
        simp only [List.length_take]
        omega
theorem jl_len : ∀ T : List (List Int), (jl T).length ≤ T.flatten.length + T.length
  | [] => Nat.zero_le _
  | [a] => by show a.length ≤ _; simp
  | a :: b :: r => by
    have := jl_len (b :: r)
    have h1 : (sepL a b).length ≤ 1 := by unfold sepL; repeat' split <;> simp
    show (a ++ sepL a b ++ jl (b :: r)).length ≤ _
    rw [List.length_append, List.length_append, List.flatten_cons, List.length_append, List.length_cons]
    omega
/-- The words of a text. -/
def wrd (x : ByteArray) : List ByteArray := (sol (lex (sb x) 0)).map fun t => tbs t.2.1
theorem wrd_sb (x : ByteArray) : (wrd x).map sb = (sol (lex (sb x) 0)).map (·.2.1) := by
  unfold wrd
  rw [List.map_map]
  refine List.map_congr_left fun t ht => ?_
  exact sb_bs (lex_byt _ (sb x) 0 (Nat.le_refl _) (sb_byt x) _ (sol_mem ht)).1
theorem wrd_one (x : ByteArray) : ∀ s ∈ wrd x, One (sb s) := fun s hs => by
  have h1 : sb s ∈ (wrd x).map sb := List.mem_map_of_mem hs
  rw [wrd_sb] at h1
  obtain ⟨t, ht, e⟩ := List.mem_map.1 h1
  rw [← e]
  exact lex_one _ (sb x) 0 (Nat.le_refl _) t ht
theorem wrd_len (x : ByteArray) : (wrd x).length ≤ x.size := by
  have h1 := sol_len (lex (sb x) 0)
  have h2 := lex_len (sb x).length (sb x) 0
  rw [sb_len] at h2
  unfold wrd
  rw [List.length_map]
  unfold lex at h1 ⊢
  rw [sb_len] at h1 ⊢
  omega
theorem wrd_size (x : ByteArray) : ∀ s ∈ wrd x, s.size ≤ x.size := fun s hs => by
  have h1 : sb s ∈ (wrd x).map sb := List.mem_map_of_mem hs
  rw [wrd_sb] at h1
  obtain ⟨t, ht, e⟩ := List.mem_map.1 h1
  have := (lex_byt _ (sb x) 0 (Nat.le_refl _) (sb_byt x) _ (sol_mem ht)).2
  rw [e, sb_len, sb_len] at this
  exact this
theorem joined_size (x : ByteArray) : (joB (wrd x)).size ≤ 2 * x.size := by
  have h1 := (joined (wrd x) (wrd_one x)).2.1
  have h2 := jl_len ((wrd x).map sb)
  have h3 := sol_flat _ (sb x) 0 (Nat.le_refl _)
  have h4 := wrd_len x
  rw [← wrd_sb] at h3
  rw [← h1, List.length_map] at h2
  rw [sb_len] at h2 h3
  omega

set_option maxRecDepth 100000 in
set_option maxHeartbeats 4000000 in
theorem rwords_any (a : Option Addr) (cap : Nat) (zs : List Int) (w : World) (hS : Sli .i64 w a cap zs) (hz : ∀ z ∈ zs, -9223372036854775808 ≤ z ∧ z ≤ 9223372036854775807) :
    Calls Tryd.prog 29 #[.slice a zs.length cap] w fun e w' => ∃ x : ByteArray, x.size ≤ 400 ∧ ∃ v, e = .returned v ∧ w'.ownsRow w.heap.size 9 1 v (wrd x).length ((wrd x).map Value.string) ∧ Below w.heap.size w w' := by
  have c1 := source_any a cap zs w hS hz
  have C1 := Lib.hid c1
  obtain ⟨i9, hi9, iy0, iy1, iy2⟩ := info_parts info9f
  clear c1 hS hz
  go_enter Tryd.func29, Tryd.ntmps29
  go_wp2_with fail
  refine C1.out.mono ?_
  rintro e w1 ⟨x, rfl, hx, hb1⟩
  have HB1 := Lib.hid hb1
  have c2 := rtoks_any x (by omega) w1
  have hl := lex_len (sb x).length (sb x) 0
  rw [sb_len] at hl
  obtain ⟨L, hL⟩ : ∃ L, lex (sb x) 0 = L := ⟨_, rfl⟩
  rw [show lexF x.size (sb x) 0 = L by rw [← hL]; unfold lex; rw [sb_len]] at hl
  rw [hL] at c2
  have HL := Lib.hid hL
  unfold NewTs at c2
  have C2 := Lib.hid c2
  clear c2 hb1 hL
  go_wp2_with fail
  refine C2.out.mono ?_
  rintro e w2 ⟨u2, rfl, hown2, hb2⟩
  have c3 := rsolid_any L u2 _ w2 (by omega) hown2
  have hsl := sol_len L
  have hw : wrd x = (sol L).map fun t => tbs t.2.1 := by unfold wrd; rw [HL.out]
  obtain ⟨M, hM⟩ : ∃ M, sol L = M := ⟨_, rfl⟩
  rw [hM] at c3 hsl hw
  unfold NewTs at c3
  have C3 := Lib.hid c3
  have HW := Lib.hid hw
  have HB2 := Lib.hid (HB1.out.trans (hb2.mono HB1.out.size))
  clear c3 hown2 hb2 hM hw
  go_wp2_with fail
  refine C3.out.mono ?_
  rintro e w3 ⟨u3, rfl, hown3, hb3⟩
  obtain ⟨a3, c3, rfl, hcl⟩ := trow hown3 rfl
  obtain ⟨n, hn⟩ : ∃ n, M.length = n := ⟨_, rfl⟩
  rw [hn] at hcl hsl ⊢
  have HN := Lib.hid hn
  have HCL := Lib.hid hcl
  have HB3 := Lib.hid (HB2.out.trans (hb3.mono HB2.out.size))
  have hbase3 := HB3.out.size
  have HTK : Hid (∀ k, k < n → ((wrd x).take (k + 1)).map Value.string = ((wrd x).take k).map Value.string ++ [.string (tbs (tg M k).2.1)]) := Lib.hid fun k hk => by
    have hk2 : k < M.length := by omega
    have h1 : (wrd x)[k]? = some (tbs (tg M k).2.1) := by
      unfold tg
      rw [HW.out, List.getElem?_map, List.getElem?_eq_getElem hk2]
      rfl
    rw [take_snoc _ k _ h1, List.map_append]
    rfl
  have HWN : Hid ((wrd x).length = n) := Lib.hid (by rw [HW.out, List.length_map]; exact hn)
  clear hown3 hb3 hcl hn
  go_wp2_with fail
  go_loopw [4, 5] (fun v4 v5 wr => ∃ k : Nat, k ≤ n ∧ v5 = .int .i64 (k : Int) ∧ Hid (wr.ownsRow w.heap.size 9 1 v4 k (((wrd x).take k).map Value.string)) ∧ Hid (Below w.heap.size w wr) ∧ Hid (∀ j, j < w3.heap.size → some j ≠ v4.ownBlock → wr.heap[j]? = w3.heap[j]?) ∧ Hid (∀ g, v4.ownBlock = some g → w3.heap.size ≤ g)) (fun _ v5 _ => n - (RowKit.intOf v5).toNat)
  case atStart => exact ⟨0, Nat.zero_le _, rfl, World.ownsRow_nil _ _ _ _, HB3, Lib.hid fun _ _ _ => rfl, Lib.hid fun g hg => by simp [Value.ownBlock] at hg⟩
  case round =>
    obtain ⟨k, hk, rfl, HO, HB, HK, HG⟩ := hrel
    obtain ⟨av, cv, hv⟩ := own_slice HO.out
    subst hv
    by_cases hlt : k < n
    · obtain ⟨g, hg0, hg, hcell⟩ := HCL.out (by omega)
      subst hg0
      obtain ⟨_, c1, _⟩ := hcell wr (HK.out g hg (fun e => by have := HG.out g e.symm; omega)) k hlt
      have htk := HTK.out k hlt
      obtain ⟨x1, hx1⟩ : ∃ x, tbs (tg M k).2.1 = x := ⟨_, rfl⟩
      rw [hx1] at c1 htk
      have HTK1 := Lib.hid htk
      obtain ⟨b5, nw⟩ := one_new wr x1
      obtain ⟨W5, hW5⟩ : ∃ W, wr.alloc (.cells #[.string x1] 9) = W := ⟨_, rfl⟩
      rw [hW5] at b5 nw
      have HW5 := Lib.hid hW5
      have HNW := Lib.hid nw
      have hsz5 := b5.size
      have hszw := HB.out.size
      have HB5 := Lib.hid (HB.out.trans (b5.mono hszw))
      have HO5 : Hid (W5.ownsRow w.heap.size 9 1 (.slice av k cv) k (((wrd x).take k).map Value.string)) := own_same HO.out (fun g hg => b5.block g (HO.out.lt g hg).2)
      have hbase : w.heap.size ≤ W5.heap.size := by omega
      have HONE := Lib.hid (one_str x1)
      have hltz : (k : Int) < (n : Int) := by omega
      have h3r : w3.heap.size ≤ wr.heap.size ∨ True := .inr trivial
      have HK5 : Hid (∀ j, j < w3.heap.size → j < wr.heap.size → some j ≠ (Value.slice av k cv).ownBlock → W5.heap[j]? = w3.heap[j]?) := Lib.hid fun j h1 h2 h3 => (b5.block j h2).trans (HK.out j h1 h3)
      have h3w : w3.heap.size ≤ wr.heap.size := by
        rcases Nat.lt_or_ge wr.heap.size w3.heap.size with h | h
        · exfalso
          have h1 := HK.out wr.heap.size h (fun e => by have := HG.out _ e.symm; omega)
          have h2 : w3.heap[wr.heap.size]? ≠ none := by rw [Array.getElem?_eq_getElem h]; simp
          rw [← h1] at h2
          exact h2 (Array.getElem?_eq_none (Nat.le_refl _))
        · exact h
      clear b5 nw hW5 hcell hx1 htk
      go_wp2_with (at_builtin; rw [show wr.alloc (.cells #[.string x1] 9) = W5 from HW5.out]; refine wpList_append_own_at _ rfl _ _ 23 rfl w.heap.size 9 i9 (.string ⟨#[]⟩) 1 16 Tryd.underlying23 hi9 iy0 iy1 iy2 rfl (by decide) (.slice av k cv) k (((wrd x).take k).map Value.string) rfl HO5.out ⟨wr.heap.size, 0, none⟩ 1 1 [.string x1] rfl rfl HNW.out HONE.out (by unfold maxLen; omega) (by omega) hbase ?_; intro v6 w6 hown6 hgrow6 hnn6 hat6)
      have HO6 : Hid (w6.ownsRow w.heap.size 9 1 v6 (k + 1) (((wrd x).take (k + 1)).map Value.string)) := by rw [HTK1.out]; exact hown6
      have HB6 : Hid (Below w.heap.size w w6) := HB5.out.grown hgrow6 hbase (fun g hg => (HO5.out.lt g hg).1)
      have HG6 : Hid (∀ g, v6.ownBlock = some g → w3.heap.size ≤ g) := Lib.hid fun g hg => by
        rcases hat6 with h | h
        · exact HG.out g (by rw [← h]; exact hg)
        · rw [h] at hg
          simp only [Option.some.injEq] at hg
          omega
      have HK6 : Hid (∀ j, j < w3.heap.size → some j ≠ v6.ownBlock → w6.heap[j]? = w3.heap[j]?) := Lib.hid fun j h1 _ => by
        have hne : some j ≠ (Value.slice av k cv).ownBlock := fun e => by have := HG.out j e.symm; omega
        exact (hgrow6.block j (by omega) hne).trans (HK5.out j h1 (by omega) hne)
      clear hown6 hgrow6 hnn6 hat6
      go_wp2
      go_roundw
      case rel => exact ⟨k + 1, by omega, by go_num, HO6, HB6, HK6, HG6⟩
      case measure => simp only [RowKit.intOf, Int.toNat_natCast]; omega
    · obtain rfl : n = k := by omega
      have hltz : ¬ (n : Int) < (n : Int) := by omega
      have hF := HO.out
      rw [← HWN.out, List.take_length] at hF
      rw [← HWN.out]
      have HF := Lib.hid hF
      have hltz2 : ¬ ((wrd x).length : Int) < ((wrd x).length : Int) := by omega
      clear hF
      go_wp2
      go_ret
      exact ⟨x, hx, _, rfl, HF.out, HB.out⟩

set_option maxRecDepth 100000 in
set_option maxHeartbeats 16000000 in
theorem walkJoins (a : Option Addr) (cap : Nat) (ls : List Int) (b : Option Addr) (lenb capb : Nat) (w : World) (hT : LexW w) (h : Sli .i64 w a cap ls) (hi : ∀ n ∈ ls, -9223372036854775808 ≤ n ∧ n ≤ 9223372036854775807) (hb : IsTx w b lenb capb) :
    Calls Tryd.prog 7 #[.slice a ls.length cap, .slice b lenb capb] w fun e w' => e = .returned (.bool true) ∧ Below w.heap.size w w' := by
  have C1 := Lib.hid (rwords_any a cap ls w h hi)
  have HT := Lib.hid hT
  obtain ⟨Sx, hbm, hbc⟩ := hb
  unfold maxLen at hbm
  have HBC := Lib.hid hbc
  obtain ⟨i9, hi9, iy0, iy1, iy2⟩ := info_parts info9f
  clear h hi hT hbc
  go_enter Tryd.func7, Tryd.ntmps7
  go_wp2_with fail
  refine C1.out.mono ?_
  rintro e w1 ⟨x, hx, v1, rfl, hown1, hb1⟩
  have hwl := wrd_len x
  have hws := wrd_size x
  obtain ⟨hjo, _, hjt⟩ := joined (wrd x) (wrd_one x)
  have hjz := joined_size x
  have hsb : (wrd x).map sb = (wrd x).map sb := rfl
  obtain ⟨B, hB⟩ : ∃ B, wrd x = B := ⟨_, rfl⟩
  rw [hB] at hown1 hwl hws hjt hjz
  obtain ⟨aw, cw, rfl, _, hst1⟩ := strIn_own hown1
  obtain ⟨n, hn⟩ : ∃ n, B.length = n := ⟨_, rfl⟩
  rw [hn] at hown1 hwl ⊢
  have c2 := join_any B aw cw n hn (by omega) (fun s hs => by have := hws s hs; omega) w1 (HT.out.t.below hb1) hst1
  have HST := Lib.hid (fun W (hW : Below w1.heap.size w1 W) => hst1.below hW)
  have HBW := Lib.hid hb1
  obtain ⟨R, hR⟩ : ∃ R, joB B = R := ⟨_, rfl⟩
  have c3 := fun W hS => rjoin_any B aw cw n hn (by omega) (fun s hs => by have := hws s hs; omega) W hS
  rw [hR] at c2 c3 hjt hjz
  have C2 := Lib.hid c2
  have C3 := Lib.hid c3
  have hl := lex_len (sb R).length (sb R) 0
  rw [sb_len] at hl
  obtain ⟨L, hL⟩ : ∃ L, lex (sb R) 0 = L := ⟨_, rfl⟩
  rw [show lexF R.size (sb R) 0 = L by rw [← hL]; unfold lex; rw [sb_len]] at hl
  have c4 := fun W h => ptoks_any R (by omega) W h
  rw [hL] at c4 hjt
  have c5 := fun u b1 W h => rsolid_any L u b1 W (by omega) h
  obtain ⟨M, hM⟩ : ∃ M, sol L = M := ⟨_, rfl⟩
  rw [hM] at c5 hjt
  have hMn : M.length = n := by
    have := congrArg List.length hjt
    rw [List.length_map, List.length_map] at this
    omega
  have HTE : Hid (∀ k, k < n → tbs (tg M k).2.1 = gB B k) := Lib.hid fun k hk => by
    have h1 : (M.map (·.2.1))[k]? = (B.map sb)[k]? := by rw [hjt]
    rw [gB_map B k (by omega), List.getElem?_map, List.getElem?_eq_getElem (show k < M.length by omega)] at h1
    simp only [Option.map_some, Option.some.injEq] at h1
    unfold tg
    rw [List.getElem?_eq_getElem (show k < M.length by omega)]
    show tbs (M[k]).2.1 = _
    rw [h1]
    exact tbs_sb _
  unfold NewTs at c4 c5
  have C4 := Lib.hid c4
  have C5 := Lib.hid c5
  have HMN := Lib.hid hMn
  have HBN := Lib.hid hn
  have hn400 : n ≤ 400 := by omega
  clear hown1 hst1 hb1 c2 c3 c4 c5 hws hjo hjt hwl hsb hL hM hMn hn hB hR
  go_wp2_with fail
  refine C2.out.mono ?_
  rintro e w2 ⟨rfl, hb2⟩
  have HB2 := Lib.hid hb2
  have hz2 := hb2.size
  clear hb2
  go_wp2_with fail
  refine (C3.out _ (HST.out _ HB2.out)).mono ?_
  rintro e w3 ⟨rfl, hb3⟩
  have HB3 := Lib.hid (HB2.out.trans (hb3.mono hz2))
  have hz3 := HB3.out.size
  clear hb3
  have HT3 := Lib.hid ((HT.out.t.below HBW.out).below HB3.out)
  go_wp2_with fail
  refine (C4.out _ HT3.out).mono ?_
  rintro e w4 ⟨u4, rfl, hown4, hb4⟩
  have HO4 := Lib.hid hown4
  have HB4 := Lib.hid (HB3.out.trans (hb4.mono hz3))
  have hz4 := HB4.out.size
  clear hown4 hb4
  go_wp2_with fail
  refine (C5.out _ _ _ HO4.out).mono ?_
  rintro e w5 ⟨u5, rfl, hown5, hb5⟩
  have HB5 := Lib.hid (HB4.out.trans (hb5.mono hz4))
  have hz5 := HB5.out.size
  rw [HMN.out] at hown5
  obtain ⟨a5, c5, rfl, hcl⟩ := trow hown5 HMN.out
  have HCL := Lib.hid hcl
  clear hown5 hb5 hcl HO4
  go_wp2_with fail
  go_loopw [8] (fun v8 wr => ∃ k : Nat, v8 = .int .i64 (k : Int) ∧ k ≤ n ∧ Hid (Below w5.heap.size w5 wr)) (fun v8 _ => n - (intOf v8).toNat)
  case atStart => exact ⟨0, rfl, Nat.zero_le _, Below.refl _ _⟩
  case round =>
    obtain ⟨k, rfl, hk, HI⟩ := hrel
    by_cases hkn : k < n
    · obtain ⟨g, hg0, hg, hcell⟩ := HCL.out (by omega)
      subst hg0
      obtain ⟨_, c1, _⟩ := hcell wr (HI.out.block g hg) k hkn
      rw [HTE.out k hkn] at c1
      obtain ⟨p, hp, hc⟩ : ∃ p, aw = some p ∧ ∀ i, i < B.length → wr.cell? (p.add i) = some (.string (gB B i)) := by
        rcases HST.out wr (HB5.out.trans (HI.out.mono hz5)) with h | h
        · have := HBN.out; rw [h] at this; simp at this; omega
        · exact h
      subst hp
      have c2 := hc k (by have := HBN.out; omega)
      obtain ⟨y, hy⟩ : ∃ y, gB B k = y := ⟨_, rfl⟩
      rw [hy] at c1 c2
      have hkk : (k : Int) < (n : Int) := by omega
      clear hcell hc hy
      go_wp2_with fail
      go_quiet (fail)
      go_wp2
      go_roundw
      case rel => exact ⟨k + 1, by go_num, by omega, below_drewN HI.out _⟩
      case measure => simp only [RowKit.intOf, Int.toNat_natCast]; omega
    · obtain rfl : n = k := by omega
      have hkk : ¬ (n : Int) < (n : Int) := by omega
      have HBA : Hid (Below w.heap.size w wr) := HBW.out.trans ((HB5.out.trans (HI.out.mono hz5)).mono HBW.out.size)
      have HTA := Lib.hid (HT.out.below HBA.out)
      obtain ⟨wa, hwa⟩ : ∃ W, wr = W := ⟨_, rfl⟩
      rw [hwa] at HBA HTA ⊢
      have hwz := HBA.out.size
      clear hwa
      go_wp2_with fail
      go_loopw [9, 10] (fun v9 v10 wr => ∃ k : Nat, v10 = .int .i64 (k : Int) ∧ k ≤ lenb ∧ k ≤ 4 ∧ Hid (wr.ownsRow wa.heap.size 9 1 v9 k (((List.range k).map fun i => shS (Sx i) 20).map Value.string)) ∧ Hid (Below wa.heap.size wa wr)) (fun _ v10 _ => 4 - (intOf v10).toNat)
      case atStart => exact ⟨0, rfl, Nat.zero_le _, Nat.zero_le _, World.ownsRow_nil _ _ _ _, Below.refl _ _⟩
      case round =>
        obtain ⟨k, rfl, hk1, hk4, HO, HB⟩ := hrel
        obtain ⟨av, cv, hv⟩ := own_slice HO.out
        subst hv
        by_cases hgo : k < lenb ∧ k < 4
        · obtain ⟨p, hp, hc⟩ : ∃ p, b = some p ∧ ∀ i, i < lenb → w.cell? (p.add i) = some (.string (Sx i)) ∧ (Sx i).size ≤ maxLen := by
            rcases HBC.out with h | h
            · omega
            · exact h
          subst hp
          obtain ⟨c0, hsz⟩ := hc k hgo.1
          have c1 : wr.cell? (p.add k) = some (.string (Sx k)) := ((HBA.out.trans (HB.out.mono hwz)).cell (World.block_lt_of_cell? w _ c0)).trans c0
          unfold maxLen at hsz
          have cS := fun W => short_any (Sx k) 20 W hsz (by omega)
          have hrg : ((List.range (k + 1)).map fun i => shS (Sx i) 20).map Value.string = ((List.range k).map fun i => shS (Sx i) 20).map Value.string ++ [.string (shS (Sx k) 20)] := by
            rw [List.range_succ, List.map_append, List.map_append]
            rfl
          obtain ⟨y, hy⟩ : ∃ y, shS (Sx k) 20 = y := ⟨_, rfl⟩
          rw [hy] at cS hrg
          obtain ⟨sx, hsx⟩ : ∃ s, Sx k = s := ⟨_, rfl⟩
          rw [hsx] at cS c1
          have CS := Lib.hid cS
          have HRG := Lib.hid hrg
          have hkl : (k : Int) < (lenb : Int) := by omega
          have hk4z : (k : Int) < 4 := by omega
          obtain ⟨b7, nw⟩ := one_new wr y
          obtain ⟨W7, hW7⟩ : ∃ W, wr.alloc (.cells #[.string y] 9) = W := ⟨_, rfl⟩
          rw [hW7] at b7 nw
          have HW7 := Lib.hid hW7
          have HNW := Lib.hid nw
          have hsz7 := b7.size
          have hszw := HB.out.size
          have HB7 := Lib.hid (HB.out.trans (b7.mono hszw))
          have HO7 : Hid (W7.ownsRow wa.heap.size 9 1 (.slice av k cv) k (((List.range k).map fun i => shS (Sx i) 20).map Value.string)) := own_same HO.out (fun g hg => b7.block g (HO.out.lt g hg).2)
          have hbase : wa.heap.size ≤ W7.heap.size := by omega
          have HONE := Lib.hid (one_str y)
          clear hc c0 hsz cS hrg hy hsx b7 nw hW7
          go_wp2_with fail
          refine (CS.out _).mono ?_
          rintro e w6 ⟨rfl, rfl⟩
          go_wp2_with (at_builtin; rw [show wr.alloc (.cells #[.string y] 9) = W7 from HW7.out]; refine wpList_append_own_at _ rfl _ _ 23 rfl wa.heap.size 9 i9 (.string ⟨#[]⟩) 1 16 Tryd.underlying23 hi9 iy0 iy1 iy2 rfl (by decide) (.slice av k cv) k (((List.range k).map fun i => shS (Sx i) 20).map Value.string) rfl HO7.out ⟨wr.heap.size, 0, none⟩ 1 1 [.string y] rfl rfl HNW.out HONE.out (by unfold maxLen; omega) (by omega) hbase ?_; intro v8 w8 hown8 hgrow8 hnn8 hat8)
          have HO8 : Hid (w8.ownsRow wa.heap.size 9 1 v8 (k + 1) (((List.range (k + 1)).map fun i => shS (Sx i) 20).map Value.string)) := by rw [HRG.out]; exact hown8
          have HB8 : Hid (Below wa.heap.size wa w8) := HB7.out.grown hgrow8 hbase (fun g hg => (HO7.out.lt g hg).1)
          clear hown8 hgrow8 hnn8 hat8
          go_wp2
          go_roundw
          case rel => exact ⟨k + 1, by go_num, by omega, by omega, HO8, HB8⟩
          case measure => simp only [RowKit.intOf, Int.toNat_natCast]; omega
        · obtain ⟨D, hD⟩ : ∃ D, ((List.range k).map fun i => shS (Sx i) 20) = D := ⟨_, rfl⟩
          have hDl : D.length = k := by rw [← hD]; simp
          have hDs : ∀ s ∈ D, s.size ≤ 20 := by
            rw [← hD]
            intro s hs
            obtain ⟨i, _, rfl⟩ := List.mem_map.1 hs
            exact shS_size _ _
          have hst : StrIn wr av D := by
            have h1 := HO.out
            rw [hD] at h1
            obtain ⟨a2, c2, e, _, h2⟩ := strIn_own h1
            cases e
            exact h2
          have HTB := Lib.hid (HTA.out.below HB.out)
          have J1 := Lib.hid (join_any D av cv k hDl (by omega) (fun s hs => by have := hDs s hs; omega) wr HTB.out.t hst)
          have J2 := Lib.hid (fun W hS => rjoin_any D av cv k hDl (by omega) (fun s hs => by have := hDs s hs; omega) W hS)
          have HSD := Lib.hid (fun W (hW : Below wr.heap.size wr W) => hst.below hW)
          obtain ⟨Q, hQ⟩ : ∃ Q, joB D = Q := ⟨_, rfl⟩
          rw [hQ] at J1 J2
          have HBB : Hid (Below w.heap.size w wr) := HBA.out.trans (HB.out.mono hwz)
          have hbz := HBB.out.size
          have hcond : ¬ (k : Int) < (lenb : Int) ∨ ((k : Int) < (lenb : Int) ∧ ¬ (k : Int) < 4) := by omega
          clear hD hDl hDs hst hQ hgo
          rcases hcond with hc1 | ⟨hc1, hc2⟩
          · go_wp2_with fail
            refine J1.out.mono ?_
            rintro e w6 ⟨rfl, hb6⟩
            have HB6 := Lib.hid hb6
            have hz6 := hb6.size
            clear hb6
            go_wp2_with fail
            refine (J2.out _ (HSD.out _ HB6.out)).mono ?_
            rintro e w7 ⟨rfl, hb7⟩
            have HB7 := Lib.hid (HB6.out.trans (hb7.mono hz6))
            have HT7 := Lib.hid (HTB.out.below HB7.out)
            clear hb7
            go_wp2_with fail
            refine (lives_any _ HT7.out).mono ?_
            rintro e wf ⟨rfl, hbf⟩
            have HFF : Hid (Below w.heap.size w wf) := (HBB.out.trans (HB7.out.mono hbz)).trans (hbf.mono (by have := HB7.out.size; omega))
            clear hbf
            go_wp2
            go_ret
            exact ⟨rfl, HFF.out⟩
          · go_wp2_with fail
            refine J1.out.mono ?_
            rintro e w6 ⟨rfl, hb6⟩
            have HB6 := Lib.hid hb6
            have hz6 := hb6.size
            clear hb6
            go_wp2_with fail
            refine (J2.out _ (HSD.out _ HB6.out)).mono ?_
            rintro e w7 ⟨rfl, hb7⟩
            have HB7 := Lib.hid (HB6.out.trans (hb7.mono hz6))
            have HT7 := Lib.hid (HTB.out.below HB7.out)
            clear hb7
            go_wp2_with fail
            refine (lives_any _ HT7.out).mono ?_
            rintro e wf ⟨rfl, hbf⟩
            have HFF : Hid (Below w.heap.size w wf) := (HBB.out.trans (HB7.out.mono hbz)).trans (hbf.mono (by have := HB7.out.size; omega))
            clear hbf
            go_wp2
            go_ret
            exact ⟨rfl, HFF.out⟩

end Go.Proofs.YtgfhhpodcnohpaaDoor
