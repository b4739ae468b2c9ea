/- For every generated text and two positions in it, the edit that Bytes returns replaces exactly the text between them (P3.5, P3.6). It has no conditions. The frame below is the guide's shell. -/
import Derived.Test.YthjedecfpedjbaaRows
import Derived.Test.YthjedecfpedjbaaPLives
import Derived.Test.YthjedecfpedjbaaPText
import Derived.Test.YthjedecfpedjbaaPOrd
import Derived.Test.YthjedecfpedjbaaPEd6
import Derived.Test.YthjedecfpedjbaaShort
import Derived.Test.YthjedecfpedjbaaSameInts
import Derived.Test.YthjedecfpedjbaaWf
import Derived.Test.YthjedecfpedjbaaAround
import Derived.WalkKit
import Derived.ProofKit
import Derived.OpenShut
import Derived.ShutString
import Derived.ChangeOld
import Derived.Below
namespace Go.Proofs.Ythjedecfpedjbaa.positionEdits
open Go.ChangeShapes Go.WideShapes Go.ChangeAt Go.RowKit
open Go.ChangeMaps (open_string shut_string)
set_option linter.unusedVariables false

theorem own : ownKnob Try.prog.godebug = none := by kernel_rfl
theorem laidOut : laidOutB Try.prog = true := by kernel_rfl

theorem pos_small {s : ByteArray} {i l u : Nat} (h : Pos (sb s) i l u) (hs : s.size ≤ 96) : l ≤ 1000 ∧ u ≤ 1000 ∧ I64n (l : Int) ∧ I64n (u : Int) := by
  have hi := h.lt
  rw [sb_len] at hi
  have h0 := h.2.2.unis_take
  have h1 := unis_le (((sb s).drop (lf (sb s) i).2).take (i - (lf (sb s) i).2))
  rw [List.length_take, List.length_drop, sb_len] at h1
  have h2 := (lf_le (sb s) i).2
  have h3 := h.2.1
  have a : l ≤ 1000 := by omega
  have b : u ≤ 1000 := by omega
  exact ⟨a, b, ⟨by omega, by omega⟩, ⟨by omega, by omega⟩⟩
set_option maxRecDepth 100000 in
set_option maxHeartbeats 4000000 in
theorem walkB (a : Option Addr) (cap : Nat) (ls : List Int) (w : World) (h : Sli .i64 w a cap ls) (hi : ∀ n ∈ ls, -9223372036854775808 ≤ n ∧ n ≤ 9223372036854775807) (a1 b1 : Int) (ha1 : -9223372036854775808 ≤ a1 ∧ a1 ≤ 9223372036854775807) (hb1' : -9223372036854775808 ≤ b1 ∧ b1 ≤ 9223372036854775807) (s : ByteArray) (hs : s.size ≤ 9223372036854775807) :
    Calls Try.prog 10 #[.slice a ls.length cap, .int .i64 a1, .int .i64 b1, .string s] w fun e w' => e = .returned (.bool true) ∧ Below w.heap.size w w' := by
  obtain ⟨B, hB⟩ : ∃ B, w.heap.size = B := ⟨_, rfl⟩
  have c1 := rtext_any a cap ls w h hi
  rw [hB] at c1
  have C1 := Lib.hid c1; have HB := Lib.hid hB
  clear c1 h hi hB
  obtain ⟨t, ht⟩ : ∃ t, shS s 10 = t := ⟨_, rfl⟩
  have cS := fun W => short_any s 10 W hs (by omega)
  rw [ht] at cS
  have CS := Lib.hid cS
  clear cS ht
  go_enter Try.func10, Try.ntmps10
  go_wp2_with fail
  refine C1.out.mono ?_
  rintro e w1 ⟨S, rfl, hSl, hSw, hb1⟩
  have HB1 := Lib.hid hb1
  have z1 : B ≤ w1.heap.size := by have := hb1.size; have := HB.out; omega
  clear hSw hb1
  have cB := fun W => rborders_any S W (by omega)
  obtain ⟨N, hN⟩ : ∃ N, (bordI (sb S)).length = N := ⟨_, rfl⟩
  have hN1 : 1 ≤ N := by rw [← hN]; exact bordI_pos _
  have hN2 : N ≤ 1000 := by have := bordI_len (sb S); rw [sb_len] at this; rw [← hN]; omega
  have hQb : ∀ i j : Nat, i ≤ j → j < N → ∃ x U y V, (bordI (sb S))[i]?.getD 0 = ((x : Nat) : Int) ∧ (bordI (sb S))[j]?.getD 0 = ((y : Nat) : Int) ∧ Bord (sb S) x U ∧ Bord (sb S) y V ∧ x ≤ y ∧ y ≤ S.size := by
    intro i j hij hj
    obtain ⟨x, U, h1, h2⟩ := bordI_at (X := sb S) (i := i) (by rw [hN]; omega)
    obtain ⟨y, V, k1, k2⟩ := bordI_at (X := sb S) (i := j) (by rw [hN]; exact hj)
    have := k2.le
    rw [sb_len] at this
    exact ⟨x, U, y, V, h1, k1, h2, k2, border_mono (by rw [hN]; exact hj) h1 k1 hij, this⟩
  have CB := Lib.hid cB; have HQ := Lib.hid hQb; have HN := Lib.hid hN
  clear cB hN hQb
  go_wp2_with fail
  refine (CB.out _).mono ?_
  rintro e w2 h2
  obtain ⟨A2, k2, rfl, row2, b2⟩ := row_of_new h2
  rw [HN.out] at row2 ⊢
  obtain ⟨gB, hA2, _, hgB, _, _⟩ := row2.at_ (j := 0) (by omega)
  subst hA2
  have hcap2 := row2.sli.le
  have hmx2 := row2.sli.mx
  rw [HN.out] at hcap2
  have HB2 : Hid (Below B w w2) := HB1.out.trans (b2.mono z1)
  have z2 : B ≤ w2.heap.size := by have := HB2.out.size; have := HB.out; omega
  have HROW : Hid (∀ i, i < N → w2.cell? ⟨gB, i, none⟩ = some (.int .i64 ((bordI (sb S))[i]?.getD 0))) := by
    intro i hi
    obtain ⟨g', hA', _, _, hck, _⟩ := row2.at_ (j := i) hi
    simp only [Option.some.injEq, Addr.mk.injEq, and_true] at hA'
    subst hA'
    exact hck
  clear h2 row2 b2
  go_wp2_with fail
  refine (around_any a1 N _ ha1.1 ha1.2 (by omega) (by omega)).mono ?_
  rintro e w' ⟨m, hm, rfl, rfl⟩
  go_wp2_with fail
  refine (around_any b1 N _ hb1'.1 hb1'.2 (by omega) (by omega)).mono ?_
  rintro e w' ⟨m', hm', rfl, rfl⟩
  obtain ⟨w3, hw3⟩ : ∃ w3 : World, w3 = w2 := ⟨_, rfl⟩
  rcases Nat.lt_trichotomy m m' with hmm | hmm | hmm
  case inr.inl =>
    subst hmm
    obtain ⟨x, U, y, V, q1, q2, hbx, hby, hxy, hyS⟩ := HQ.out m m (by omega) hm
    have ci := HROW.out m hm
    obtain rfl : x = y := by have := q1.symm.trans q2; omega
    rw [q1] at ci
    have HBX := Lib.hid hbx; have HBY := Lib.hid hby
    clear hbx hby q1 q2 hw3
    go_wp2_with fail
    refine (pat_any S _ _ (by omega) (by omega) (by omega)).mono ?_
    rintro e w3 ⟨l1, u1, er, rfl, hsp, b3⟩
    obtain ⟨rfl, hpx⟩ := at_border hsp HBX.out
    obtain ⟨y1, y2, y3, y4⟩ := pos_small hpx hSl
    have HPX := Lib.hid hpx
    have HB3 := Lib.hid (HB2.out.trans (b3.mono z2))
    have z3 : B ≤ w3.heap.size := by have := HB3.out.size; have := HB.out; omega
    have hbl1 : Blk (w3.alloc (.cells #[.int .i64 (l1 : Int), .int .i64 (u1 : Int)] 32)) w3.heap.size 32 #[.int .i64 (l1 : Int), .int .i64 (u1 : Int)] := Blk.new _ _ _
    have HL1 := Lib.hid hbl1
    clear hsp hpx b3 hbl1 ci
    go_wp2_with fail
    refine (pat_any S _ _ (by omega) (by omega) (by omega)).mono ?_
    rintro e w4 ⟨l2, u2, er, rfl, hsp, b4⟩
    obtain ⟨rfl, hpy⟩ := at_border hsp HBY.out
    obtain ⟨y5, y6, y7, y8⟩ := pos_small hpy hSl
    have HPY := Lib.hid hpy
    have HB4 := Lib.hid ((HB3.out.alloc z3 (.cells #[.int .i64 (l1 : Int), .int .i64 (u1 : Int)] 32)).trans (b4.mono (by simp; omega)))
    have s4 : w3.heap.size < w4.heap.size := by have := b4.size; simp at this; omega
    have z4 : B ≤ w4.heap.size := by omega
    have hl1 := HL1.out.same (b4.block _ HL1.out.lt)
    obtain ⟨V, hV⟩ : ∃ V, w4.alloc (.cells #[.int .i64 (l2 : Int), .int .i64 (u2 : Int)] 32) = V := ⟨_, rfl⟩
    have hl1' : Blk V w3.heap.size 32 #[.int .i64 (l1 : Int), .int .i64 (u1 : Int)] := by rw [← hV]; exact hl1.alloc _
    have hl2' : Blk V w4.heap.size 32 #[.int .i64 (l2 : Int), .int .i64 (u2 : Int)] := by rw [← hV]; exact Blk.new _ _ _
    have hsV : V.heap.size = w4.heap.size + 1 := by rw [← hV]; simp
    have hbV : Below B w V := by rw [← hV]; exact HB4.out.alloc z4 _
    obtain ⟨W1, hW1⟩ : ∃ W, V.alloc (.cells #[.int .i64 (l1 : Int), .int .i64 (u1 : Int), .int .i64 (l2 : Int), .int .i64 (u2 : Int), .string t] 43) = W := ⟨_, rfl⟩
    have hbW1 : Below V.heap.size V W1 := by rw [← hW1]; exact (Below.refl _ _).alloc (Nat.le_refl _) _
    have hqW1 : Blk W1 (w4.heap.size + 1) 43 #[.int .i64 (l1 : Int), .int .i64 (u1 : Int), .int .i64 (l2 : Int), .int .i64 (u2 : Int), .string t] := by rw [← hW1, ← hsV]; exact Blk.new _ _ _
    have cB1 := pbytes_one S ⟨l1, u1, l2, u2, t⟩ ⟨x, x, t⟩ 0 (w4.heap.size + 1) W1 (by omega) ⟨y3, y4, y7, y8⟩ hqW1 (ed_there t HPX.out HPY.out (by omega))
    have HPV : Hid (∀ W, Below V.heap.size V W → W.cell? ⟨w3.heap.size, 0, none⟩ = some (.int .i64 (l1 : Int)) ∧ W.cell? ⟨w3.heap.size, 1, none⟩ = some (.int .i64 (u1 : Int)) ∧ W.cell? ⟨w4.heap.size, 0, none⟩ = some (.int .i64 (l2 : Int)) ∧ W.cell? ⟨w4.heap.size, 1, none⟩ = some (.int .i64 (u2 : Int))) := by
      intro W hW
      have a1 := hl1'.same (hW.block _ hl1'.lt)
      have a2 := hl2'.same (hW.block _ hl2'.lt)
      exact ⟨by simpa using a1.cell 0, by simpa using a1.cell 1, by simpa using a2.cell 0, by simpa using a2.cell 1⟩
    obtain ⟨p0, p1, p2, p3⟩ := HPV.out V (Below.refl _ _)
    rw [← hV] at p0 p1 p2 p3
    have CB1 := Lib.hid cB1; have HV := Lib.hid hV; have HW1 := Lib.hid hW1; have HSV := Lib.hid hsV; have HBV := Lib.hid hbV; have HBW1 := Lib.hid hbW1
    clear hsp hpy b4 hl1 hl1' hl2' hV hW1 hsV hbV hbW1 hqW1 cB1
    try clear cj
    go_wp2_with fail
    refine (CS.out _).mono ?_
    rintro e w' ⟨rfl, rfl⟩
    go_wp2_with fail
    rw [show w4.alloc (.cells #[.int .i64 (l2 : Int), .int .i64 (u2 : Int)] 32) = V from HV.out, show V.alloc (.cells #[.int .i64 (l1 : Int), .int .i64 (u1 : Int), .int .i64 (l2 : Int), .int .i64 (u2 : Int), .string t] 43) = W1 from HW1.out]
    refine CB1.out.mono ?_
    rintro e w6 ⟨b6, ⟨hx, _⟩ | ⟨_, aG, cG, rfl, hc1, hc2, hEC⟩⟩
    · exact absurd rfl hx
    have HB6 := Lib.hid (HBW1.out.trans (b6.mono HBW1.out.size))
    have HEC := Lib.hid hEC
    have s6 : w4.heap.size < w6.heap.size := by have := HB6.out.size; have := HSV.out; omega
    have s36 : w3.heap.size < w6.heap.size := by omega
    obtain ⟨p0, p1, p2, p3⟩ := HPV.out w6 HB6.out
    obtain ⟨W2, hW2⟩ : ∃ W, w6.alloc (.cells #[.int .i64 (l2 : Int), .int .i64 (u2 : Int), .int .i64 (l1 : Int), .int .i64 (u1 : Int), .string t] 43) = W := ⟨_, rfl⟩
    have hbW2 : Below w6.heap.size w6 W2 := by rw [← hW2]; exact (Below.refl _ _).alloc (Nat.le_refl _) _
    have hqW2 : Blk W2 w6.heap.size 43 #[.int .i64 (l2 : Int), .int .i64 (u2 : Int), .int .i64 (l1 : Int), .int .i64 (u1 : Int), .string t] := by rw [← hW2]; exact Blk.new _ _ _
    have hback : ∃ d er, EdS (sb S) ⟨l2, u2, l1, u1, t⟩ d er ∧ ((x < x ∧ er = 1) ∨ (¬ x < x ∧ er = 0)) := by
      by_cases hlt : x < x
      · exact ⟨_, _, ed_back t HPY.out HPX.out hlt, .inl ⟨hlt, rfl⟩⟩
      · exact ⟨_, _, ed_there t HPY.out HPX.out (by omega), .inr ⟨hlt, rfl⟩⟩
    obtain ⟨d2, er2, hes2, hway⟩ := hback
    have cB2 := pbytes_one S ⟨l2, u2, l1, u1, t⟩ d2 er2 w6.heap.size W2 (by omega) ⟨y7, y8, y3, y4⟩ hqW2 hes2
    have cB3 : Calls Try.prog 25 #[.string S, .slice (some ⟨w6.heap.size, 0, none⟩) 1 1] W2 fun e w' => Below W2.heap.size W2 w' ∧ ∃ v, e = .returned (.tuple #[v, .int .i64 er2]) := by
      refine cB2.mono ?_
      rintro e w' ⟨hb, ⟨_, rfl⟩ | ⟨rfl, a, c, rfl, _⟩⟩
      · exact ⟨hb, _, rfl⟩
      · exact ⟨hb, _, rfl⟩
    have CB3 := Lib.hid cB3; have HW2' := Lib.hid hW2; have HBW2 := Lib.hid hbW2; have HWAY := Lib.hid hway
    clear b6 hEC hW2 hbW2 hqW2 hes2 hway cB2 cB3
    go_wp2_with fail
    rw [show w6.alloc (.cells #[.int .i64 (l2 : Int), .int .i64 (u2 : Int), .int .i64 (l1 : Int), .int .i64 (u1 : Int), .string t] 43) = W2 from HW2'.out]
    refine CB3.out.mono ?_
    rintro e w8 ⟨b8, vv, rfl⟩
    have HB8 := Lib.hid (HBW2.out.trans (b8.mono HBW2.out.size))
    obtain ⟨W3, hW3⟩ : ∃ W, w8.alloc (.cells #[.int .i64 (x : Int), .int .i64 (x : Int), .string t] 52) = W := ⟨_, rfl⟩
    have hqW3 : Blk W3 w8.heap.size 52 #[.int .i64 (x : Int), .int .i64 (x : Int), .string t] := by rw [← hW3]; exact Blk.new _ _ _
    have hbW3 : Below w8.heap.size w8 W3 := by rw [← hW3]; exact (Below.refl _ _).alloc (Nat.le_refl _) _
    have h68 : Below w6.heap.size w6 W3 := HB8.out.trans (hbW3.mono HB8.out.size)
    have hE1 : ECells W3.heap.size W3 aG 1 (fun _ => ⟨x, x, t⟩) := (HEC.out.below h68).mono h68.size
    have hE2 : ECells W3.heap.size W3 (some ⟨w8.heap.size, 0, none⟩) 1 (fun _ => ⟨x, x, t⟩) := by
      refine .inr ⟨w8.heap.size, rfl, hqW3.lt, fun k hk i hi => ?_⟩
      obtain rfl : k = 0 := by omega
      rw [hqW3.cell]
      simp [Ed.vals]
    have CSE := Lib.hid (sameeds_any aG (some ⟨w8.heap.size, 0, none⟩) 1 cG 1 (fun _ => ⟨x, x, t⟩) W3 (by omega) hE1 hE2 hc1 (by omega))
    have HW3 := Lib.hid hW3
    have HBF : Hid (Below B w W3) := HBV.out.trans ((HB6.out.mono (by have := HSV.out; omega)).trans (h68.mono (by omega)))
    clear b8 hW3 hqW3 hbW3 h68 hE1 hE2
    rcases HWAY.out with ⟨hlt, rfl⟩ | ⟨hlt, rfl⟩
    case inl => omega
    case' inr =>
      have g2 : ¬ (x : Int) < (x : Int) := by omega
      have HXY := Lib.hid hlt
      clear hlt
    all_goals
      go_wp2_with fail
      rw [show w8.alloc (.cells #[.int .i64 (x : Int), .int .i64 (x : Int), .string t] 52) = W3 from HW3.out]
      refine CSE.out.mono ?_
      rintro e w9 ⟨rfl, b9⟩
      have HB9 := Lib.hid (HBF.out.trans (b9.mono (by have := HBF.out.size; have := HB.out; omega)))
      clear b9
      go_wp2_with fail
      refine (plives_any _).mono ?_
      rintro e wf ⟨rfl, bf⟩
      have HFF := Lib.hid (HB9.out.trans (bf.mono (by have := HB9.out.size; have := HB.out; omega)))
      clear bf
      go_wp2
      go_ret
      exact ⟨by first | rfl | (show Ending.returned (.bool (!decide (x < x))) = _; rw [decide_eq_false HXY.out]; rfl), by rw [HB.out]; exact HFF.out⟩
  case' inl =>
    have g1 : (m : Int) < (m' : Int) := by omega
    obtain ⟨x, U, y, V, q1, q2, hbx, hby, hxy, hyS⟩ := HQ.out m m' (by omega) hm'
    have ci := HROW.out m hm
    have cj := HROW.out m' hm'
    rw [q1] at ci
    rw [q2] at cj
    clear hmm
  case' inr.inr =>
    have g1 : (m' : Int) < (m : Int) := by omega
    obtain ⟨x, U, y, V, q1, q2, hbx, hby, hxy, hyS⟩ := HQ.out m' m (by omega) hm
    have ci := HROW.out m' hm'
    have cj := HROW.out m hm
    rw [q1] at ci
    rw [q2] at cj
    clear hmm
  all_goals
    have HBX := Lib.hid hbx; have HBY := Lib.hid hby
    clear hbx hby q1 q2 hw3
    go_wp2_with fail
    refine (pat_any S _ _ (by omega) (by omega) (by omega)).mono ?_
    rintro e w3 ⟨l1, u1, er, rfl, hsp, b3⟩
    obtain ⟨rfl, hpx⟩ := at_border hsp HBX.out
    obtain ⟨y1, y2, y3, y4⟩ := pos_small hpx hSl
    have HPX := Lib.hid hpx
    have HB3 := Lib.hid (HB2.out.trans (b3.mono z2))
    have z3 : B ≤ w3.heap.size := by have := HB3.out.size; have := HB.out; omega
    have hbl1 : Blk (w3.alloc (.cells #[.int .i64 (l1 : Int), .int .i64 (u1 : Int)] 32)) w3.heap.size 32 #[.int .i64 (l1 : Int), .int .i64 (u1 : Int)] := Blk.new _ _ _
    have HL1 := Lib.hid hbl1
    clear hsp hpx b3 hbl1 ci
    go_wp2_with fail
    refine (pat_any S _ _ (by omega) (by omega) (by omega)).mono ?_
    rintro e w4 ⟨l2, u2, er, rfl, hsp, b4⟩
    obtain ⟨rfl, hpy⟩ := at_border hsp HBY.out
    obtain ⟨y5, y6, y7, y8⟩ := pos_small hpy hSl
    have HPY := Lib.hid hpy
    have HB4 := Lib.hid ((HB3.out.alloc z3 (.cells #[.int .i64 (l1 : Int), .int .i64 (u1 : Int)] 32)).trans (b4.mono (by simp; omega)))
    have s4 : w3.heap.size < w4.heap.size := by have := b4.size; simp at this; omega
    have z4 : B ≤ w4.heap.size := by omega
    have hl1 := HL1.out.same (b4.block _ HL1.out.lt)
    obtain ⟨V, hV⟩ : ∃ V, w4.alloc (.cells #[.int .i64 (l2 : Int), .int .i64 (u2 : Int)] 32) = V := ⟨_, rfl⟩
    have hl1' : Blk V w3.heap.size 32 #[.int .i64 (l1 : Int), .int .i64 (u1 : Int)] := by rw [← hV]; exact hl1.alloc _
    have hl2' : Blk V w4.heap.size 32 #[.int .i64 (l2 : Int), .int .i64 (u2 : Int)] := by rw [← hV]; exact Blk.new _ _ _
    have hsV : V.heap.size = w4.heap.size + 1 := by rw [← hV]; simp
    have hbV : Below B w V := by rw [← hV]; exact HB4.out.alloc z4 _
    obtain ⟨W1, hW1⟩ : ∃ W, V.alloc (.cells #[.int .i64 (l1 : Int), .int .i64 (u1 : Int), .int .i64 (l2 : Int), .int .i64 (u2 : Int), .string t] 43) = W := ⟨_, rfl⟩
    have hbW1 : Below V.heap.size V W1 := by rw [← hW1]; exact (Below.refl _ _).alloc (Nat.le_refl _) _
    have hqW1 : Blk W1 (w4.heap.size + 1) 43 #[.int .i64 (l1 : Int), .int .i64 (u1 : Int), .int .i64 (l2 : Int), .int .i64 (u2 : Int), .string t] := by rw [← hW1, ← hsV]; exact Blk.new _ _ _
    have cB1 := pbytes_one S ⟨l1, u1, l2, u2, t⟩ ⟨x, y, t⟩ 0 (w4.heap.size + 1) W1 (by omega) ⟨y3, y4, y7, y8⟩ hqW1 (ed_there t HPX.out HPY.out (by omega))
    have HPV : Hid (∀ W, Below V.heap.size V W → W.cell? ⟨w3.heap.size, 0, none⟩ = some (.int .i64 (l1 : Int)) ∧ W.cell? ⟨w3.heap.size, 1, none⟩ = some (.int .i64 (u1 : Int)) ∧ W.cell? ⟨w4.heap.size, 0, none⟩ = some (.int .i64 (l2 : Int)) ∧ W.cell? ⟨w4.heap.size, 1, none⟩ = some (.int .i64 (u2 : Int))) := by
      intro W hW
      have a1 := hl1'.same (hW.block _ hl1'.lt)
      have a2 := hl2'.same (hW.block _ hl2'.lt)
      exact ⟨by simpa using a1.cell 0, by simpa using a1.cell 1, by simpa using a2.cell 0, by simpa using a2.cell 1⟩
    obtain ⟨p0, p1, p2, p3⟩ := HPV.out V (Below.refl _ _)
    rw [← hV] at p0 p1 p2 p3
    have CB1 := Lib.hid cB1; have HV := Lib.hid hV; have HW1 := Lib.hid hW1; have HSV := Lib.hid hsV; have HBV := Lib.hid hbV; have HBW1 := Lib.hid hbW1
    clear hsp hpy b4 hl1 hl1' hl2' hV hW1 hsV hbV hbW1 hqW1 cB1
    try clear cj
    go_wp2_with fail
    refine (CS.out _).mono ?_
    rintro e w' ⟨rfl, rfl⟩
    go_wp2_with fail
    rw [show w4.alloc (.cells #[.int .i64 (l2 : Int), .int .i64 (u2 : Int)] 32) = V from HV.out, show V.alloc (.cells #[.int .i64 (l1 : Int), .int .i64 (u1 : Int), .int .i64 (l2 : Int), .int .i64 (u2 : Int), .string t] 43) = W1 from HW1.out]
    refine CB1.out.mono ?_
    rintro e w6 ⟨b6, ⟨hx, _⟩ | ⟨_, aG, cG, rfl, hc1, hc2, hEC⟩⟩
    · exact absurd rfl hx
    have HB6 := Lib.hid (HBW1.out.trans (b6.mono HBW1.out.size))
    have HEC := Lib.hid hEC
    have s6 : w4.heap.size < w6.heap.size := by have := HB6.out.size; have := HSV.out; omega
    have s36 : w3.heap.size < w6.heap.size := by omega
    obtain ⟨p0, p1, p2, p3⟩ := HPV.out w6 HB6.out
    obtain ⟨W2, hW2⟩ : ∃ W, w6.alloc (.cells #[.int .i64 (l2 : Int), .int .i64 (u2 : Int), .int .i64 (l1 : Int), .int .i64 (u1 : Int), .string t] 43) = W := ⟨_, rfl⟩
    have hbW2 : Below w6.heap.size w6 W2 := by rw [← hW2]; exact (Below.refl _ _).alloc (Nat.le_refl _) _
    have hqW2 : Blk W2 w6.heap.size 43 #[.int .i64 (l2 : Int), .int .i64 (u2 : Int), .int .i64 (l1 : Int), .int .i64 (u1 : Int), .string t] := by rw [← hW2]; exact Blk.new _ _ _
    have hback : ∃ d er, EdS (sb S) ⟨l2, u2, l1, u1, t⟩ d er ∧ ((x < y ∧ er = 1) ∨ (¬ x < y ∧ er = 0)) := by
      by_cases hlt : x < y
      · exact ⟨_, _, ed_back t HPY.out HPX.out hlt, .inl ⟨hlt, rfl⟩⟩
      · exact ⟨_, _, ed_there t HPY.out HPX.out (by omega), .inr ⟨hlt, rfl⟩⟩
    obtain ⟨d2, er2, hes2, hway⟩ := hback
    have cB2 := pbytes_one S ⟨l2, u2, l1, u1, t⟩ d2 er2 w6.heap.size W2 (by omega) ⟨y7, y8, y3, y4⟩ hqW2 hes2
    have cB3 : Calls Try.prog 25 #[.string S, .slice (some ⟨w6.heap.size, 0, none⟩) 1 1] W2 fun e w' => Below W2.heap.size W2 w' ∧ ∃ v, e = .returned (.tuple #[v, .int .i64 er2]) := by
      refine cB2.mono ?_
      rintro e w' ⟨hb, ⟨_, rfl⟩ | ⟨rfl, a, c, rfl, _⟩⟩
      · exact ⟨hb, _, rfl⟩
      · exact ⟨hb, _, rfl⟩
    have CB3 := Lib.hid cB3; have HW2' := Lib.hid hW2; have HBW2 := Lib.hid hbW2; have HWAY := Lib.hid hway
    clear b6 hEC hW2 hbW2 hqW2 hes2 hway cB2 cB3
    go_wp2_with fail
    rw [show w6.alloc (.cells #[.int .i64 (l2 : Int), .int .i64 (u2 : Int), .int .i64 (l1 : Int), .int .i64 (u1 : Int), .string t] 43) = W2 from HW2'.out]
    refine CB3.out.mono ?_
    rintro e w8 ⟨b8, vv, rfl⟩
    have HB8 := Lib.hid (HBW2.out.trans (b8.mono HBW2.out.size))
    obtain ⟨W3, hW3⟩ : ∃ W, w8.alloc (.cells #[.int .i64 (x : Int), .int .i64 (y : Int), .string t] 52) = W := ⟨_, rfl⟩
    have hqW3 : Blk W3 w8.heap.size 52 #[.int .i64 (x : Int), .int .i64 (y : Int), .string t] := by rw [← hW3]; exact Blk.new _ _ _
    have hbW3 : Below w8.heap.size w8 W3 := by rw [← hW3]; exact (Below.refl _ _).alloc (Nat.le_refl _) _
    have h68 : Below w6.heap.size w6 W3 := HB8.out.trans (hbW3.mono HB8.out.size)
    have hE1 : ECells W3.heap.size W3 aG 1 (fun _ => ⟨x, y, t⟩) := (HEC.out.below h68).mono h68.size
    have hE2 : ECells W3.heap.size W3 (some ⟨w8.heap.size, 0, none⟩) 1 (fun _ => ⟨x, y, t⟩) := by
      refine .inr ⟨w8.heap.size, rfl, hqW3.lt, fun k hk i hi => ?_⟩
      obtain rfl : k = 0 := by omega
      rw [hqW3.cell]
      simp [Ed.vals]
    have CSE := Lib.hid (sameeds_any aG (some ⟨w8.heap.size, 0, none⟩) 1 cG 1 (fun _ => ⟨x, y, t⟩) W3 (by omega) hE1 hE2 hc1 (by omega))
    have HW3 := Lib.hid hW3
    have HBF : Hid (Below B w W3) := HBV.out.trans ((HB6.out.mono (by have := HSV.out; omega)).trans (h68.mono (by omega)))
    clear b8 hW3 hqW3 hbW3 h68 hE1 hE2
    rcases HWAY.out with ⟨hlt, rfl⟩ | ⟨hlt, rfl⟩
    case' inl =>
      have g2 : (x : Int) < (y : Int) := by omega
      clear hlt
    case' inr =>
      have g2 : ¬ (x : Int) < (y : Int) := by omega
      have HXY := Lib.hid hlt
      clear hlt
    all_goals
      go_wp2_with fail
      rw [show w8.alloc (.cells #[.int .i64 (x : Int), .int .i64 (y : Int), .string t] 52) = W3 from HW3.out]
      refine CSE.out.mono ?_
      rintro e w9 ⟨rfl, b9⟩
      have HB9 := Lib.hid (HBF.out.trans (b9.mono (by have := HBF.out.size; have := HB.out; omega)))
      clear b9
      go_wp2_with fail
      refine (plives_any _).mono ?_
      rintro e wf ⟨rfl, bf⟩
      have HFF := Lib.hid (HB9.out.trans (bf.mono (by have := HB9.out.size; have := HB.out; omega)))
      clear bf
      go_wp2
      go_ret
      exact ⟨by first | rfl | (show Ending.returned (.bool (!decide (x < y))) = _; rw [decide_eq_false HXY.out]; rfl), by rw [HB.out]; exact HFF.out⟩

theorem walk (a0 : Option Addr) (len0 cap0 : Nat) (z0 : List Int) (a1 : Int) (a2 : Int) (a3 : ByteArray) (w : World) (w0 : IsRow .i64 w a0 len0 cap0 z0) (w1 : (Lit.int .i64 a1).wf = true) (w2 : (Lit.int .i64 a2).wf = true) (w3 : a3.size ≤ maxLen) :
    Calls Try.prog 10 #[.slice a0 len0 cap0, .int .i64 a1, .int .i64 a2, .string a3] w fun e w' => e = .returned (.bool true) ∧ Below w.heap.size w w' := by
  obtain ⟨ls, rfl, hl, hwl⟩ := sli_of_isRow w0
  exact walkB a0 cap0 ls w hl (fun n hn => wf_i64 (hwl n hn)) a1 a2 (wf_i64 w1) (wf_i64 w2) a3 (by unfold maxLen at w3; omega)

/-! ### THE ROW's STEP: WRITTEN OUT: LEAVE IT -/
set_option maxRecDepth 100000 in
theorem lifted (os : Os) (started : os.Started) (H : Type) (enc : TypeId × Value → H) :
    ReturnsInHanded {} Try.checked os 10 .any (Rows.positionEditsSpec.pre6 enc Try.prog Try.f10 Rows.positionEditsRow.domain false) (Rows.positionEditsSpec.post enc Try.prog Try.f10 false true false false) := by
  refine returnsInHanded_of_change (C := Try.checked) own started (by kernel_rfl) Try.func10
    (ChangeSpec.witness6 (enc := enc) (C := Try.checked) false ⟨#[], #[.slice none 0 0, .int .i64 0, .int .i64 0, .string ByteArray.empty], []⟩ 8 (by kernel_rfl) (by kernel_rfl) (by kernel_rfl) (by kernel_rfl)) ?_
  intro W base args ds gs before hval0 hW hcnd _
  have hval : ∀ (j : Nat) t v, Try.f10.params[j]? = some t → args[j]? = some v → Value.okWide Try.prog W .any base t v := hval0
  have hW' := hW
  obtain ⟨p, q, hA0, hV, rfl, hfz, hnd⟩ := hW
  have hA : DataW.TrodAll enc Try.prog W 0 (fun _ => true) true Try.f10.params.toList args.toList ds p := hA0
  rw [Try.params10] at hA hval
  obtain ⟨v0, vs0, d0, ds0, p0, q0, hargs, rfl, rfl, h0, r0⟩ := trodAll_cons hA
  obtain ⟨v1, vs1, d1, ds1, p1, q1, rfl, rfl, rfl, h1, r1⟩ := trodAll_cons r0
  obtain ⟨v2, vs2, d2, ds2, p2, q2, rfl, rfl, rfl, h2, r2⟩ := trodAll_cons r1
  obtain ⟨v3, vs3, d3, ds3, p3, q3, rfl, rfl, rfl, h3, r3⟩ := trodAll_cons r2
  obtain ⟨rfl, rfl, rfl⟩ := trodAll_nil r3
  obtain rfl : args = #[v0, v1, v2, v3] := by cases args; simp_all
  obtain ⟨rfl, rfl⟩ := trodVars_none hV
  obtain ⟨a0, len0, cap0, rfl⟩ := okWide_slice Try.underlying22 (hval 0 22 v0 rfl rfl)
  have k0 := h0
  have lt0 : ∀ x ∈ p0, x.block < W.heap.size := by obtain ⟨m, hm⟩ := k0; exact DataW.trod_lt m _ _ _ hm
  obtain ⟨z0, w0⟩ : ∃ zs, IsRow .i64 W a0 len0 cap0 zs := by
    obtain ⟨fuel, hf⟩ := h0
    rcases open_ints Try.underlying22 Try.underlying3 (by kernel_rfl) hf with ⟨hcs, _⟩ | ⟨x, l, c, zs, hcs, _, hl, hm, hz, _, hcell, hwz⟩
    · simp [Value.cells] at hcs
      obtain ⟨rfl, rfl, rfl⟩ := hcs
      exact ⟨[], .inl ⟨rfl, rfl, rfl, rfl⟩⟩
    · simp [Value.cells] at hcs
      obtain ⟨rfl, rfl, rfl⟩ := hcs
      exact ⟨zs, .inr ⟨_, rfl, hl, hm, by simpa using hz, hcell, hwz⟩⟩
  obtain ⟨a1, rfl, rfl, rfl, w1⟩ := open_int Try.underlying3 (hval 1 3 v1 rfl rfl) h1
  obtain ⟨a2, rfl, rfl, rfl, w2⟩ := open_int Try.underlying3 (hval 2 3 v2 rfl rfl) h2
  obtain ⟨a3, rfl, rfl, rfl, w3⟩ := open_string Try.underlying9 (hval 3 9 v3 rfl rfl) h3
  clear hA0 hval0
  refine (walk a0 len0 cap0 z0 a1 a2 a3 W w0 w1 w2 w3).mono fun e W' ⟨he, bel⟩ => ?_
  subst he
  exact ⟨_, rfl, _, _, _, [], _, [], hW', trodAll_mk1 (shut_bool Try.underlying4 _), (trodAll_cons_mk (Below.trod laidOut (by kernel_rfl) (of_decide_eq_true (by kernel_rfl)) k0 bel lt0) (trodAll_cons_mk (shut_int Try.underlying3 w1) (trodAll_cons_mk (shut_int Try.underlying3 w2) (trodAll_cons_mk (shut_string Try.underlying9 w3) trodAll_mk0)))), rfl, bel.frame _, fun h => by cases h⟩

theorem over : Rows.positionEditsRow.holds Try.pinned (OpenSpec.ofChange Rows.positionEditsSpec) :=
  OpenClaim.holds_of_wide 10 Try.f10 rfl rfl rfl rfl rfl rfl rfl ⟨rfl, rfl, rfl, rfl, rfl⟩ rfl rfl rfl rfl rfl (by kernel_rfl) Try.func10 (by kernel_rfl)
    (of_decide_eq_true (by kernel_rfl)) (by unfold Func.isWrapper; first | (rw [if_pos (by decide +kernel)]; kernel_rfl) | (rw [if_neg (by decide +kernel)]; exact ⟨rfl, rfl⟩))
    (fun os started H enc _ => lifted os started H enc)

/-- ████ THE STATEMENT ████ -/
theorem proved : Rows.PositionEditsSaid := over
#print axioms proved
end Go.Proofs.Ythjedecfpedjbaa.positionEdits
