/- For every label and every byte slice (its first 40), changing bytes within a single group of 8 bytes changes the hash (P1.3). It has no conditions. The frame below is the guide's shell. -/
/-
  THE SHELL OF A PROOF OF 'Rows.HashOneGroupSaid' ('schemalens/schemalenslaw01.HashOneGroup'), WRITTEN BY PROGRAM (proof-skeleton.mjs, third state) off the guide's own print for that function. Not trusted: Lean checks it.
  YOURS IS THE HOLE MARKED 'HOLE' (it bears 'sorry'). ALL ELSE IS THE GUIDE's OWN WAY (howto/template/XProofs.lean; Derived/Test/ChunkProofs.lean for 'Below') at this function's number and types: leave it.
-/
import Derived.Test.YtkdjjjecgfhgbaaRows
import Derived.Test.YtkdjjjecgfhgbaaRows2
import Derived.WalkKit
import Derived.ProofKit
import Derived.OpenShut
import Derived.ShutString
import Derived.ChangeOld
import Derived.Below
namespace Go.Proofs.Ytkdjjjecgfhgbaa.hashOneGroup
open Go.ChangeShapes Go.WideShapes Go.ChangeAt Go.RowKit
open Go.ChangeMaps (open_string shut_string)
set_option linter.unusedVariables false

theorem own : ownKnob Try.prog.godebug = none := by kernel_rfl
theorem laidOut : laidOutB Try.prog = true := by kernel_rfl

set_option maxRecDepth 100000 in
set_option maxHeartbeats 4000000 in
theorem walkB (s : ByteArray) (b : Option Addr) (cb : Nat) (ys : List Int) (at_ one two : Int) (w : World) (hs : s.size ≤ 9223372036854775807) (hy : Sli .u8 w b cb ys) (hz : Byt ys)
    (ha1 : -9223372036854775808 ≤ at_) (ha2 : at_ ≤ 9223372036854775807) :
    Calls Try.prog 6 #[.string s, .slice b ys.length cb, .int .i64 at_, .int .u8 one, .int .u8 two] w fun e w' => e = .returned (.bool true) ∧ Below w.heap.size w w' := by
  obtain ⟨i5, hi5, hz50, hz51, hz52⟩ := info_parts info5
  obtain ⟨Y, hY⟩ : ∃ Y, ys.take 39 = Y := ⟨_, rfl⟩
  have hYl : Y.length ≤ 39 := by rw [← hY, List.length_take]; omega
  have hYb : Byt Y := by rw [← hY]; exact hz.take _
  obtain ⟨m, hm⟩ : ∃ m, Y.length = m := ⟨_, rfl⟩
  obtain ⟨X, hX⟩ : ∃ X, Y ++ [65] = X := ⟨_, rfl⟩
  have hXl : X.length = m + 1 := by rw [← hX]; simp [hm]
  have hXb : Byt X := by rw [← hX]; exact byt_snoc hYb (by omega)
  have hXt : X.take 40 = X := List.take_of_length_le (by omega)
  have hXne : X ≠ [] := by intro h; rw [h] at hXl; simp at hXl
  obtain ⟨S, hS⟩ : ∃ S, shS s 20 = S := ⟨_, rfl⟩
  have hSl : S.size ≤ 20 := by rw [← hS]; exact shS_size s 20
  have c0 := fun W => short_any s 20 W hs (by omega)
  rw [hS] at c0
  have c1 := fun W h => few_any b cb 39 ys W h (by omega)
  rw [hY] at c1
  have c2 : ∀ (g c : Nat) (W : World), Sli .u8 W (some ⟨g, 0, none⟩) c X → Calls Try.prog 16 #[.slice (some ⟨g, 0, none⟩) (m + 1) c, .int .i64 (40 : Nat)] W (NewOwn .u8 5 W X) := fun g c W h => by
    have h1 := few_any (some ⟨g, 0, none⟩) c 40 X W h (by omega)
    rw [hXt, hXl] at h1
    exact h1.mono fun _ _ => newOwn_of_row hXne
  have c6 := fun W => around_any at_ (m + 1) W ha1 ha2 (by omega) (by omega)
  have hXm : ∀ {l : List Int}, l = Y ++ [65] → l = X := fun h => h.trans hX
  have C0 := Lib.hid c0; have C1 := Lib.hid c1; have C2 := Lib.hid c2; have C6 := Lib.hid c6
  have HY := Lib.hid hy; have HX := Lib.hid hX; have HXL := Lib.hid hXl; have HXB := Lib.hid hXb; have HM := Lib.hid hm
  have hm39 : m ≤ 39 := by omega
  clear c0 c1 c2 c6 hX hXl hXb hXt hXne hy hS hYb hz hY hYl hm hXm
  go_enter Try.func6, Try.ntmps6
  go_wp2_with fail
  refine (C0.out _).mono ?_
  rintro e w' ⟨rfl, rfl⟩
  go_wp2_with fail
  refine (C1.out _ HY.out).mono ?_
  rintro e w1 ⟨v1, rfl, o1, b1⟩
  rw [HM.out] at o1
  have HO1 := Lib.hid o1
  have HB1 := Lib.hid b1
  have hs1 := b1.size
  clear o1 b1
  go_wp2_with (at_builtin; refine wpList_append_own _ rfl _ _ 30 rfl w.heap.size 5 i5 (.int .u8 0) 1 1 Try.underlying30 hi5 hz50 hz51 hz52 rfl (by decide) _ _ _ rfl (HO1.out.alloc _) ⟨w1.heap.size, 0, none⟩ 1 1 [.int .u8 65] rfl rfl (cell_one_new _ _ _) (fun x hx => by simp at hx; subst hx; rfl) (by unfold maxLen; omega) (by omega) (by rw [World.size_alloc]; omega) ?_; intro v2 w2 o2 hgrow _; obtain ⟨g1, k1, rfl⟩ := ownsRow_succ o2)
  have o2' : w2.ownsRow w.heap.size 5 1 (.slice (some ⟨g1, 0, none⟩) (m + 1) k1) (m + 1) (X.map (Value.int .u8)) := by rw [← HX.out, List.map_append]; exact o2
  have HO2 := Lib.hid o2'
  have HB2 := Lib.hid ((HB1.out.alloc hs1 (.cells #[.int .u8 65] 5)).grown hgrow (by rw [World.size_alloc]; omega) (fun j e => (HO1.out.lt j e).1))
  have hs2 := HB2.out.size
  have hg1 := (row_lt o2').2
  clear o2 o2' hgrow HO1 HB1 hs1
  go_wp2_with fail
  refine (C2.out _ _ _ (sli_row HO2.out)).mono ?_
  rintro e w3 ⟨g2, k2, rfl, o3, b3⟩
  rw [HXL.out] at o3 ⊢
  have hg2 := row_lt o3
  have HO3 := Lib.hid o3
  have HO2' := Lib.hid (own_below HO2.out b3)
  have HB3 := Lib.hid (HB2.out.trans (b3.mono hs2))
  clear o3 b3 HO2 HB2
  go_wp2_with fail
  refine (C6.out _).mono ?_
  rintro e w' ⟨k, hk, rfl, rfl⟩
  obtain ⟨x, hx⟩ : ∃ x, X[k]?.getD 0 = x := ⟨_, rfl⟩
  have hck := row_cell HO3.out k hk
  have hfk := HO3.out.frozenAt k
  rw [hx] at hck
  obtain ⟨z, hzx⟩ : ∃ z, bits BinOp.xor IntKind.u8 x one = z := ⟨_, rfl⟩
  have hzr := xor_u8 x one
  rw [hzx] at hzr
  have o4 := row_stored HO3.out k z
  have HO4 := Lib.hid o4
  have HZR := Lib.hid hzr
  have HB4 : Hid (Below w.heap.size w (w3.setCell ⟨g2, k, none⟩ (.int .u8 z))) := HB3.out.setCell (p := ⟨g2, k, none⟩) (by show w.heap.size ≤ g2; omega) _
  have hB34 : Below w2.heap.size w3 (w3.setCell ⟨g2, k, none⟩ (.int .u8 z)) := (Below.refl _ _).setCell (p := ⟨g2, k, none⟩) (by show w2.heap.size ≤ g2; omega) _
  have HO2b := Lib.hid (own_same HO2'.out (fun j e => by cases e; exact hB34.block g1 (by omega)))
  clear o4 hB34 hx hzr
  by_cases hcond : k + 1 < m + 1 ∧ ¬ (k + 1) % 8 = 0
  · obtain ⟨hc1, hc2⟩ := hcond
    have hq : ((((k : Int) + 1) % 8) != 0) = true := by simp; omega
    obtain ⟨x2, hx2⟩ : ∃ x2, (X.set k z)[k + 1]?.getD 0 = x2 := ⟨_, rfl⟩
    have hck2 := row_cell HO4.out (k + 1) hc1
    have hfk2 := HO4.out.frozenAt (k + 1)
    rw [hx2] at hck2
    obtain ⟨z2, hzx2⟩ : ∃ z2, bits BinOp.xor IntKind.u8 x2 two = z2 := ⟨_, rfl⟩
    have hzr2 := xor_u8 x2 two
    rw [hzx2] at hzr2
    have HO5 := Lib.hid (row_stored HO4.out (k + 1) z2)
    have HZR2 := Lib.hid hzr2
    clear hx2 hzr2 hc2
    go_wp2_with fail
    clear hzx hzx2
    have hXn := HXL.out
    have hagree : ∀ j, j / 8 ≠ k / 8 → X[j]? = ((X.set k z).set (k + 1) z2)[j]? := fun j hj => by
      rw [List.getElem?_set_ne (by intro h; simp at hq; omega), List.getElem?_set_ne (by intro h; omega)]
    have hzl : ((X.set k z).set (k + 1) z2).length = m + 1 := by simp [hXn]
    have hzb := byt_set (byt_set HXB.out k HZR.out) (k + 1) HZR2.out
    have sx : Sli .u8 ((w3.setCell ⟨g2, k, none⟩ (.int .u8 z)).setCell ⟨g2, k + 1, none⟩ (.int .u8 z2)) (some ⟨g1, 0, none⟩) k1 X := sli_row (own_same HO2b.out (fun j e => by cases e; exact Below.heap_setCell _ _ _ g1 (by show g1 ≠ g2; omega)))
    have sy := sli_row HO5.out
    have sbl : Below w.heap.size w ((w3.setCell ⟨g2, k, none⟩ (.int .u8 z)).setCell ⟨g2, k + 1, none⟩ (.int .u8 z2)) := HB4.out.setCell (p := ⟨g2, k + 1, none⟩) (by show w.heap.size ≤ g2; omega) _
    generalize (X.set k z).set (k + 1) z2 = Z at hagree hzl hzb sy
    generalize (w3.setCell ⟨g2, k, none⟩ (.int .u8 z)).setCell ⟨g2, k + 1, none⟩ (.int .u8 z2) = W9 at sx sy sbl ⊢
    have HS9 : Hid (Sli .u8 W9 (some ⟨g1, 0, none⟩) k1 X ∧ Sli .u8 W9 (some ⟨g2, 0, none⟩) k2 Z ∧ Below w.heap.size w W9) := ⟨sx, sy, sbl⟩
    have c3 := fun W h => bytes_sli S (some ⟨g1, 0, none⟩) k1 X W h (by omega) (by omega) HXB.out _ rfl
    have c4 := fun W h => bytes_sli S (some ⟨g2, 0, none⟩) k2 Z W h (by omega) (by omega) hzb _ rfl
    have c5 := fun W h h2 => sameBytes_any (some ⟨g1, 0, none⟩) (some ⟨g2, 0, none⟩) k1 k2 X Z W h h2 (by omega) (by omega)
    have heq : (U (bytesS (sb S) X) == U (bytesS (sb S) Z)) = decide (X = Z) := by
      rw [U_beq]; exact decide_eq_decide.2 ⟨fun h => bytesS_one (k := k / 8) HXB.out hzb (by omega) hagree h, fun h => by rw [h]⟩
    rw [hzl] at c4 c5
    rw [hXn] at c3 c5
    generalize decide (X = Z) = d at heq c5
    generalize U (bytesS (sb S) X) = p at heq c3
    generalize U (bytesS (sb S) Z) = q at heq c4
    have C3 := Lib.hid c3; have C4 := Lib.hid c4; have C5 := Lib.hid c5
    clear c3 c4 c5 sx sy sbl hzb hagree hzl hXn
    go_wp2_with fail
    refine (C3.out _ HS9.out.1).mono ?_
    rintro e w10 ⟨rfl, b10⟩
    have H10 : Hid (Sli .u8 w10 (some ⟨g1, 0, none⟩) k1 X ∧ Sli .u8 w10 (some ⟨g2, 0, none⟩) k2 Z ∧ Below w.heap.size w w10) := ⟨HS9.out.1.below b10, HS9.out.2.1.below b10, HS9.out.2.2.trans (b10.mono HS9.out.2.2.size)⟩
    clear b10 HS9
    go_wp2_with fail
    refine (C4.out _ H10.out.2.1).mono ?_
    rintro e w11 ⟨rfl, b11⟩
    have H11 : Hid (Sli .u8 w11 (some ⟨g1, 0, none⟩) k1 X ∧ Sli .u8 w11 (some ⟨g2, 0, none⟩) k2 Z ∧ Below w.heap.size w w11) := ⟨H10.out.1.below b11, H10.out.2.1.below b11, H10.out.2.2.trans (b11.mono H10.out.2.2.size)⟩
    clear b11 H10
    go_wp2_with fail
    refine (C5.out _ H11.out.1 H11.out.2.1).mono ?_
    rintro e w12 ⟨rfl, b12⟩
    have H12 : Hid (Below w.heap.size w w12) := H11.out.2.2.trans (b12.mono H11.out.2.2.size)
    clear b12 H11
    go_wp2_with fail
    refine (lives_any _).mono ?_
    rintro e w13 ⟨rfl, b13⟩
    have H13 : Hid (Below w.heap.size w w13) := H12.out.trans (b13.mono H12.out.size)
    clear b13 H12
    go_wp2
    go_ret
    exact ⟨rfl, H13.out⟩
  · have hrest : (k + 1 < m + 1 ∧ (k + 1) % 8 = 0) ∨ ¬ k + 1 < m + 1 := by omega
    rcases hrest with ⟨hc1, hc2⟩ | hc1
    · have hq : ((((k : Int) + 1) % 8) != 0) = false := by simp; omega
      clear hcond hc2
      go_wp2_with fail
      clear hzx
      have hXn := HXL.out
      have hagree : ∀ j, j / 8 ≠ k / 8 → X[j]? = (X.set k z)[j]? := fun j hj => by
        rw [List.getElem?_set_ne (by intro h; omega)]
      have hzl : (X.set k z).length = m + 1 := by simp [hXn]
      have hzb := byt_set HXB.out k HZR.out
      have sx : Sli .u8 (w3.setCell ⟨g2, k, none⟩ (.int .u8 z)) (some ⟨g1, 0, none⟩) k1 X := sli_row HO2b.out
      have sy := sli_row HO4.out
      have sbl := HB4.out
      generalize X.set k z = Z at hagree hzl hzb sy
      generalize w3.setCell ⟨g2, k, none⟩ (.int .u8 z) = W9 at sx sy sbl ⊢
      have HS9 : Hid (Sli .u8 W9 (some ⟨g1, 0, none⟩) k1 X ∧ Sli .u8 W9 (some ⟨g2, 0, none⟩) k2 Z ∧ Below w.heap.size w W9) := ⟨sx, sy, sbl⟩
      have c3 := fun W h => bytes_sli S (some ⟨g1, 0, none⟩) k1 X W h (by omega) (by omega) HXB.out _ rfl
      have c4 := fun W h => bytes_sli S (some ⟨g2, 0, none⟩) k2 Z W h (by omega) (by omega) hzb _ rfl
      have c5 := fun W h h2 => sameBytes_any (some ⟨g1, 0, none⟩) (some ⟨g2, 0, none⟩) k1 k2 X Z W h h2 (by omega) (by omega)
      have heq : (U (bytesS (sb S) X) == U (bytesS (sb S) Z)) = decide (X = Z) := by
        rw [U_beq]; exact decide_eq_decide.2 ⟨fun h => bytesS_one (k := k / 8) HXB.out hzb (by omega) hagree h, fun h => by rw [h]⟩
      rw [hzl] at c4 c5
      rw [hXn] at c3 c5
      generalize decide (X = Z) = d at heq c5
      generalize U (bytesS (sb S) X) = p at heq c3
      generalize U (bytesS (sb S) Z) = q at heq c4
      have C3 := Lib.hid c3; have C4 := Lib.hid c4; have C5 := Lib.hid c5
      clear c3 c4 c5 sx sy sbl hzb hagree hzl hXn
      go_wp2_with fail
      refine (C3.out _ HS9.out.1).mono ?_
      rintro e w10 ⟨rfl, b10⟩
      have H10 : Hid (Sli .u8 w10 (some ⟨g1, 0, none⟩) k1 X ∧ Sli .u8 w10 (some ⟨g2, 0, none⟩) k2 Z ∧ Below w.heap.size w w10) := ⟨HS9.out.1.below b10, HS9.out.2.1.below b10, HS9.out.2.2.trans (b10.mono HS9.out.2.2.size)⟩
      clear b10 HS9
      go_wp2_with fail
      refine (C4.out _ H10.out.2.1).mono ?_
      rintro e w11 ⟨rfl, b11⟩
      have H11 : Hid (Sli .u8 w11 (some ⟨g1, 0, none⟩) k1 X ∧ Sli .u8 w11 (some ⟨g2, 0, none⟩) k2 Z ∧ Below w.heap.size w w11) := ⟨H10.out.1.below b11, H10.out.2.1.below b11, H10.out.2.2.trans (b11.mono H10.out.2.2.size)⟩
      clear b11 H10
      go_wp2_with fail
      refine (C5.out _ H11.out.1 H11.out.2.1).mono ?_
      rintro e w12 ⟨rfl, b12⟩
      have H12 : Hid (Below w.heap.size w w12) := H11.out.2.2.trans (b12.mono H11.out.2.2.size)
      clear b12 H11
      go_wp2_with fail
      refine (lives_any _).mono ?_
      rintro e w13 ⟨rfl, b13⟩
      have H13 : Hid (Below w.heap.size w w13) := H12.out.trans (b13.mono H12.out.size)
      clear b13 H12
      go_wp2
      go_ret
      exact ⟨rfl, H13.out⟩
    · clear hcond
      go_wp2_with fail
      clear hzx
      have hXn := HXL.out
      have hagree : ∀ j, j / 8 ≠ k / 8 → X[j]? = (X.set k z)[j]? := fun j hj => by
        rw [List.getElem?_set_ne (by intro h; omega)]
      have hzl : (X.set k z).length = m + 1 := by simp [hXn]
      have hzb := byt_set HXB.out k HZR.out
      have sx : Sli .u8 (w3.setCell ⟨g2, k, none⟩ (.int .u8 z)) (some ⟨g1, 0, none⟩) k1 X := sli_row HO2b.out
      have sy := sli_row HO4.out
      have sbl := HB4.out
      generalize X.set k z = Z at hagree hzl hzb sy
      generalize w3.setCell ⟨g2, k, none⟩ (.int .u8 z) = W9 at sx sy sbl ⊢
      have HS9 : Hid (Sli .u8 W9 (some ⟨g1, 0, none⟩) k1 X ∧ Sli .u8 W9 (some ⟨g2, 0, none⟩) k2 Z ∧ Below w.heap.size w W9) := ⟨sx, sy, sbl⟩
      have c3 := fun W h => bytes_sli S (some ⟨g1, 0, none⟩) k1 X W h (by omega) (by omega) HXB.out _ rfl
      have c4 := fun W h => bytes_sli S (some ⟨g2, 0, none⟩) k2 Z W h (by omega) (by omega) hzb _ rfl
      have c5 := fun W h h2 => sameBytes_any (some ⟨g1, 0, none⟩) (some ⟨g2, 0, none⟩) k1 k2 X Z W h h2 (by omega) (by omega)
      have heq : (U (bytesS (sb S) X) == U (bytesS (sb S) Z)) = decide (X = Z) := by
        rw [U_beq]; exact decide_eq_decide.2 ⟨fun h => bytesS_one (k := k / 8) HXB.out hzb (by omega) hagree h, fun h => by rw [h]⟩
      rw [hzl] at c4 c5
      rw [hXn] at c3 c5
      generalize decide (X = Z) = d at heq c5
      generalize U (bytesS (sb S) X) = p at heq c3
      generalize U (bytesS (sb S) Z) = q at heq c4
      have C3 := Lib.hid c3; have C4 := Lib.hid c4; have C5 := Lib.hid c5
      clear c3 c4 c5 sx sy sbl hzb hagree hzl hXn
      go_wp2_with fail
      refine (C3.out _ HS9.out.1).mono ?_
      rintro e w10 ⟨rfl, b10⟩
      have H10 : Hid (Sli .u8 w10 (some ⟨g1, 0, none⟩) k1 X ∧ Sli .u8 w10 (some ⟨g2, 0, none⟩) k2 Z ∧ Below w.heap.size w w10) := ⟨HS9.out.1.below b10, HS9.out.2.1.below b10, HS9.out.2.2.trans (b10.mono HS9.out.2.2.size)⟩
      clear b10 HS9
      go_wp2_with fail
      refine (C4.out _ H10.out.2.1).mono ?_
      rintro e w11 ⟨rfl, b11⟩
      have H11 : Hid (Sli .u8 w11 (some ⟨g1, 0, none⟩) k1 X ∧ Sli .u8 w11 (some ⟨g2, 0, none⟩) k2 Z ∧ Below w.heap.size w w11) := ⟨H10.out.1.below b11, H10.out.2.1.below b11, H10.out.2.2.trans (b11.mono H10.out.2.2.size)⟩
      clear b11 H10
      go_wp2_with fail
      refine (C5.out _ H11.out.1 H11.out.2.1).mono ?_
      rintro e w12 ⟨rfl, b12⟩
      have H12 : Hid (Below w.heap.size w w12) := H11.out.2.2.trans (b12.mono H11.out.2.2.size)
      clear b12 H11
      go_wp2_with fail
      refine (lives_any _).mono ?_
      rintro e w13 ⟨rfl, b13⟩
      have H13 : Hid (Below w.heap.size w w13) := H12.out.trans (b13.mono H12.out.size)
      clear b13 H12
      go_wp2
      go_ret
      exact ⟨rfl, H13.out⟩

theorem walk (a0 : ByteArray) (a1 : Option Addr) (len1 cap1 : Nat) (z1 : List Int) (a2 : Int) (a3 : Int) (a4 : Int) (w : World) (w0 : a0.size ≤ maxLen) (w1 : IsRow .u8 w a1 len1 cap1 z1) (w2 : (Lit.int .i64 a2).wf = true) (w3 : (Lit.int .u8 a3).wf = true) (w4 : (Lit.int .u8 a4).wf = true) :
    Calls Try.prog 6 #[.string a0, .slice a1 len1 cap1, .int .i64 a2, .int .u8 a3, .int .u8 a4] w fun e w' => e = .returned (.bool true) ∧ Below w.heap.size w w' := by
  obtain ⟨ys, rfl, hy, hwf⟩ := sli_of_isRow w1
  have h2 := bounds_i64 w2
  exact walkB a0 a1 cap1 ys a2 a3 a4 w (by unfold maxLen at w0; omega) hy (byt_of_wf hwf) h2.1 h2.2

/-! ### THE ROW's STEP: WRITTEN OUT: LEAVE IT -/
set_option maxRecDepth 100000 in
theorem lifted (os : Os) (started : os.Started) (H : Type) (enc : TypeId × Value → H) :
    ReturnsInHanded {} Try.checked os 6 .any (Rows.hashOneGroupSpec.pre6 enc Try.prog Try.f6 Rows.hashOneGroupRow.domain false) (Rows.hashOneGroupSpec.post enc Try.prog Try.f6 false true false false) := by
  refine returnsInHanded_of_change (C := Try.checked) own started (by kernel_rfl) Try.func6
    (ChangeSpec.witness6 (enc := enc) (C := Try.checked) false ⟨#[], #[.string ByteArray.empty, .slice none 0 0, .int .i64 0, .int .u8 0, .int .u8 0], []⟩ 8 (by kernel_rfl) (by kernel_rfl) (by kernel_rfl) (by kernel_rfl)) ?_
  intro W base args ds gs before hval0 hW hcnd _
  have hval : ∀ (j : Nat) t v, Try.f6.params[j]? = some t → args[j]? = some v → Value.okWide Try.prog W .any base t v := hval0
  have hW' := hW
  obtain ⟨p, q, hA0, hV, rfl, hfz, hnd⟩ := hW
  have hA : DataW.TrodAll enc Try.prog W 0 (fun _ => true) true Try.f6.params.toList args.toList ds p := hA0
  rw [Try.params6] at hA hval
  obtain ⟨v0, vs0, d0, ds0, p0, q0, hargs, rfl, rfl, h0, r0⟩ := trodAll_cons hA
  obtain ⟨v1, vs1, d1, ds1, p1, q1, rfl, rfl, rfl, h1, r1⟩ := trodAll_cons r0
  obtain ⟨v2, vs2, d2, ds2, p2, q2, rfl, rfl, rfl, h2, r2⟩ := trodAll_cons r1
  obtain ⟨v3, vs3, d3, ds3, p3, q3, rfl, rfl, rfl, h3, r3⟩ := trodAll_cons r2
  obtain ⟨v4, vs4, d4, ds4, p4, q4, rfl, rfl, rfl, h4, r4⟩ := trodAll_cons r3
  obtain ⟨rfl, rfl, rfl⟩ := trodAll_nil r4
  obtain rfl : args = #[v0, v1, v2, v3, v4] := by cases args; simp_all
  obtain ⟨rfl, rfl⟩ := trodVars_none hV
  obtain ⟨a0, rfl, rfl, rfl, w0⟩ := open_string Try.underlying9 (hval 0 9 v0 rfl rfl) h0
  obtain ⟨a1, len1, cap1, rfl⟩ := okWide_slice Try.underlying30 (hval 1 30 v1 rfl rfl)
  have k1 := h1
  have lt1 : ∀ x ∈ p1, x.block < W.heap.size := by obtain ⟨m, hm⟩ := k1; exact DataW.trod_lt m _ _ _ hm
  obtain ⟨z1, w1⟩ : ∃ zs, IsRow .u8 W a1 len1 cap1 zs := by
    obtain ⟨fuel, hf⟩ := h1
    rcases open_ints Try.underlying30 Try.underlying5 (by kernel_rfl) hf with ⟨hcs, _⟩ | ⟨x, l, c, zs, hcs, _, hl, hm, hz, _, hcell, hwz⟩
    · simp [Value.cells] at hcs
      obtain ⟨rfl, rfl, rfl⟩ := hcs
      exact ⟨[], .inl ⟨rfl, rfl, rfl, rfl⟩⟩
    · simp [Value.cells] at hcs
      obtain ⟨rfl, rfl, rfl⟩ := hcs
      exact ⟨zs, .inr ⟨_, rfl, hl, hm, by simpa using hz, hcell, hwz⟩⟩
  obtain ⟨a2, rfl, rfl, rfl, w2⟩ := open_int Try.underlying3 (hval 2 3 v2 rfl rfl) h2
  obtain ⟨a3, rfl, rfl, rfl, w3⟩ := open_int Try.underlying5 (hval 3 5 v3 rfl rfl) h3
  obtain ⟨a4, rfl, rfl, rfl, w4⟩ := open_int Try.underlying5 (hval 4 5 v4 rfl rfl) h4
  clear hA0 hval0
  refine (walk a0 a1 len1 cap1 z1 a2 a3 a4 W w0 w1 w2 w3 w4).mono fun e W' ⟨he, bel⟩ => ?_
  subst he
  exact ⟨_, rfl, _, _, _, [], _, [], hW', trodAll_mk1 (shut_bool Try.underlying4 _), (trodAll_cons_mk (shut_string Try.underlying9 w0) (trodAll_cons_mk (Below.trod laidOut (by kernel_rfl) (of_decide_eq_true (by kernel_rfl)) k1 bel lt1) (trodAll_cons_mk (shut_int Try.underlying3 w2) (trodAll_cons_mk (shut_int Try.underlying5 w3) (trodAll_cons_mk (shut_int Try.underlying5 w4) trodAll_mk0))))), rfl, bel.frame _, fun h => by cases h⟩

theorem over : Rows.hashOneGroupRow.holds Try.pinned (OpenSpec.ofChange Rows.hashOneGroupSpec) :=
  OpenClaim.holds_of_wide 6 Try.f6 rfl rfl rfl rfl rfl rfl rfl ⟨rfl, rfl, rfl, rfl, rfl⟩ rfl rfl rfl rfl rfl (by kernel_rfl) Try.func6 (by kernel_rfl)
    (of_decide_eq_true (by kernel_rfl)) (by unfold Func.isWrapper; first | (rw [if_pos (by decide +kernel)]; kernel_rfl) | (rw [if_neg (by decide +kernel)]; exact ⟨rfl, rfl⟩))
    (fun os started H enc _ => lifted os started H enc)

/-- ████ THE STATEMENT ████ -/
theorem proved : Rows.HashOneGroupSaid := over
#print axioms proved
end Go.Proofs.Ytkdjjjecgfhgbaa.hashOneGroup
