/- The contract of the program's Offset. Conditions: texts of at most 100000 bytes. -/
import Derived.Test.YthjedecfpedjbaaPUn
import Derived.Test.YthjedecfpedjbaaPLib
import Derived.Test.YthjedecfpedjbaaPOff
namespace Go.Proofs.Ythjedecfpedjbaa
open Go.RowKit Go.Shelf
set_option linter.unusedVariables false

set_option maxRecDepth 100000 in
set_option maxHeartbeats 2000000 in
theorem poff_any (s : ByteArray) (l u : Int) (w : World) (hs : s.size ≤ 100000) (hl2 : -9223372036854775808 ≤ l ∧ l ≤ 9223372036854775807) (hu2 : -9223372036854775808 ≤ u ∧ u ≤ 9223372036854775807) :
    Calls Try.prog 20 #[.string s, .agg #[.int .i64 l, .int .i64 u]] w (OffPost s l u w) := by
  obtain ⟨W1, hW1⟩ : ∃ W, w.alloc (.cells #[.int .i64 l, .int .i64 u] 32) = W := ⟨_, rfl⟩
  have bR : Blk W1 w.heap.size 32 #[.int .i64 l, .int .i64 u] := by rw [← hW1]; exact Blk.new _ _ _
  have hb1 : Below w.heap.size w W1 := by rw [← hW1]; exact (Below.refl _ _).alloc (Nat.le_refl _) _
  have cL := plines_any s W1 hs
  obtain ⟨nL, hnL⟩ : ∃ n, (lns (sb s)).length = n := ⟨_, rfl⟩
  have hnl2 : nL ≤ 100001 := by have := lnsF_len 0 (sb s); rw [sb_len] at this; rw [← hnL]; simp [lns]; omega
  have CL := Lib.hid cL; have HB := Lib.hid (And.intro bR hb1); have HW := Lib.hid hW1; have HNL := Lib.hid hnL
  clear cL bR hb1 hW1 hnL
  go_enter Try.func20, Try.ntmps20
  go_wp2_with fail
  rw [show w.alloc (.cells #[.int .i64 l, .int .i64 u] 32) = W1 from HW.out]
  refine CL.out.mono ?_
  rintro e w2 h2
  obtain ⟨A2, k2, rfl, row2, b2⟩ := row_of_new h2
  rw [HNL.out] at row2 ⊢
  obtain ⟨X, hX⟩ : ∃ X, w.heap.size = X := ⟨_, rfl⟩
  have hcell : ∀ W, Below w2.heap.size w2 W → W.cell? ⟨X, 0, none⟩ = some (.int .i64 l) ∧ W.cell? ⟨X, 1, none⟩ = some (.int .i64 u) := by
    intro W hW
    have h1 := HB.out.1.same (b2.block _ HB.out.1.lt)
    rw [hX] at h1
    have h2 := h1.same (hW.block X h1.lt)
    exact ⟨by simpa using h2.cell 0, by simpa using h2.cell 1⟩
  obtain ⟨c0, c1⟩ := hcell w2 (Below.refl _ _)
  have hcap := row2.sli.le
  have hmx := row2.sli.mx
  rw [HNL.out] at hcap
  have hRW := HB.out.1.lt
  have hbX : Below X w w2 := by rw [← hX]; exact HB.out.2.trans (b2.mono (by omega))
  have H2 : Hid (Row .i64 3 W1.heap.size w2.heap.size w2 A2 nL k2 (lns (sb s)) ∧ Below X w w2) := ⟨row2, hbX⟩
  have HX := Lib.hid hX; have HC := Lib.hid hcell
  rw [HX.out]
  clear h2 row2 b2 CL hbX hX hcell
  by_cases hbad : l < 0 ∨ (nL : Int) ≤ l
  · have hways : l < 0 ∨ (¬ l < 0 ∧ (nL : Int) ≤ l) := by omega
    have hspec : OffSpec (sb s) l u 0 5 := by
      refine .inr (.inr ⟨rfl, rfl, ?_⟩)
      rintro ⟨l', u', E, v, rfl, rfl, he, _⟩
      rcases hbad with h | h
      · omega
      · exact no_line (by rw [HNL.out]; omega) he.1
    have HS := Lib.hid hspec
    clear hbad hspec
    rcases hways with h1 | ⟨h1, h3⟩
    all_goals
      go_wp2
      go_ret2
      exact ⟨0, 5, rfl, HS.out, by rw [HX.out]; exact H2.out.2⟩
  · obtain ⟨k, rfl⟩ : ∃ k : Nat, l = (k : Int) := ⟨l.toNat, by omega⟩
    have hk : k < nL := by omega
    have n1 : ¬ (k : Int) < 0 := by omega
    have n3 : ¬ (nL : Int) ≤ (k : Int) := by omega
    obtain ⟨g, t, q1, q2, q3, q4, q5, q6, _, _⟩ := line_at (Z := sb s) (k := k) (by rw [HNL.out]; exact hk)
    obtain ⟨gA, hA2, _, hgA, hck, _⟩ := H2.out.1.at_ (j := k) hk
    rw [q1] at hck
    subst hA2
    rw [sb_len] at q3
    have cC := fun W => cut_any (s.extract g s.size) (t - g) W (by rw [ByteArray.size_extract]; omega) (fst10_line q2 q3 q4 q5 q6)
    obtain ⟨T, hT⟩ : ∃ T, s.extract g s.size = T := ⟨_, rfl⟩
    obtain ⟨M, hM⟩ : ∃ M, T.extract 0 (t - g) = M := ⟨_, rfl⟩
    have hMe : M = s.extract g t := by rw [← hM, ← hT]; exact extract_line s q2 q3
    have hMs : M.size ≤ 100000 := by rw [hMe, ByteArray.size_extract]; omega
    obtain ⟨v, hv⟩ : ∃ v, unis (((sb s).drop g).take (t - g)) = v := ⟨_, rfl⟩
    rw [hv] at q6
    have hsb : sb M = ((sb s).drop g).take (t - g) := by rw [hMe, sb_extract]
    have cU := fun W => punits_any M W hMs
    rw [hsb, hv] at cU
    rw [hT] at cC
    unfold CutPost at cC
    rw [hM] at cC
    have HT := Lib.hid hT
    have hvb : v ≤ 300000 := by rw [← hv, ← hsb]; have := unis_le (sb M); rw [sb_len] at this; omega
    have hgs : (g : Int) ≤ (s.size : Int) := by omega
    have CC := Lib.hid cC
    have K1 : Hid (∀ W, Below w2.heap.size w2 W → Calls Try.prog 14 #[.string M] W fun e w' => e = .returned (.int .i64 (v : Int)) ∧ Below w2.heap.size w2 w' ∧ w'.cell? ⟨X, 0, none⟩ = some (.int .i64 (k : Int)) ∧ w'.cell? ⟨X, 1, none⟩ = some (.int .i64 u)) := by
      intro W hW
      refine (cU W).mono ?_
      rintro e w' ⟨rfl, hb⟩
      have hbb := hW.trans (hb.mono hW.size)
      exact ⟨rfl, hbb, HC.out _ hbb⟩
    clear hT cC cU
    by_cases hu : u < 0
    · have hspec : OffSpec (sb s) (k : Int) u 0 5 := .inr (.inr ⟨rfl, rfl, by rintro ⟨l', u', E, v', _, hu', _, _⟩; omega⟩)
      have HS := Lib.hid hspec
      clear hspec q1 q4 q5 q6 hv hM hMe hsb
      go_wp2_with fail
      rw [show s.extract g s.size = T from HT.out]
      refine (CC.out _).mono ?_
      rintro e w3 ⟨t3, b3, rfl, bb3⟩
      have hd := HC.out w3 bb3
      obtain ⟨d0, d1⟩ := hd
      have B3 := Lib.hid bb3
      clear bb3 c0 c1 hck
      go_wp2_with fail
      go_quiet (fail)
      go_wp2
      go_ret2
      exact ⟨0, 5, rfl, HS.out, by rw [HX.out]; exact below_drewN (H2.out.2.trans (B3.out.mono (by have := H2.out.2.size; have := HX.out; omega))) _⟩
    · obtain ⟨x, rfl⟩ : ∃ x : Nat, u = (x : Int) := ⟨u.toNat, by omega⟩
      have n2 : ¬ (x : Int) < 0 := by omega
      obtain ⟨sp1, sp2, sp3⟩ := line_spec (x := x) q2 (by rw [sb_len]; exact q3) q4 q5 q6
      rw [← hsb] at sp2 sp3
      have cS := fun W => skip_any M x W hMs (by omega)
      have SP1 := Lib.hid sp1; have SP2 := Lib.hid sp2; have SP3 := Lib.hid sp3; have CS := Lib.hid cS
      clear hu q1 q4 q5 q6 hv hM hMe hsb sp1 sp2 sp3 cS
      go_wp2_with fail
      rw [show s.extract g s.size = T from HT.out]
      refine (CC.out _).mono ?_
      rintro e w3 ⟨t3, b3, rfl, bb3⟩
      have hd := HC.out w3 bb3
      obtain ⟨d0, d1⟩ := hd
      have B3 := Lib.hid bb3
      have b0 : Below w2.heap.size w2 w3.drew := bb3.drew
      clear bb3 c0 c1 hck
      by_cases hxv : v < x
      · have HS := Lib.hid (SP1.out hxv)
        have hxv' : (v : Int) < (x : Int) := by omega
        go_wp2_with fail
        go_region_held3 (fun w' => w'.cell? ⟨X, 1, none⟩ = some (.int .i64 (x : Int))) (first | exact e1 | exact d1)
          (first | (go_at_call 14; refine (K1.out _ b0).mono ?_; rintro e wA ⟨rfl, bA, e0, e1⟩))
        all_goals
          have BA := Lib.hid bA
          clear bA
          go_wp2
          go_ret2
          exact ⟨0, 5, rfl, HS.out, by rw [HX.out]; exact H2.out.2.trans ((BA.out.mono (by have := H2.out.2.size; have := HX.out; omega)))⟩
      · have hxv' : ¬ (v : Int) < (x : Int) := by omega
        go_wp2_with fail
        go_region_held3 (fun w' => w'.cell? ⟨X, 1, none⟩ = some (.int .i64 (x : Int))) (first | exact e1 | exact d1)
          (first | (go_at_call 14; refine (K1.out _ b0).mono ?_; rintro e wA ⟨rfl, bA, e0, e1⟩))
        all_goals
          have BA := Lib.hid bA
          clear bA
          go_wp2_with fail
          refine (CS.out _).mono ?_
          rintro e w5 ⟨n, b, rfl, hsk, b5⟩
          have B5 : Hid (Below X w w5) := H2.out.2.trans ((BA.out.mono (by have := H2.out.2.size; have := HX.out; omega)).trans (b5.mono (by have := BA.out.size; have := H2.out.2.size; have := HX.out; omega)))
          clear b5
          cases b with
          | true =>
            obtain ⟨y1, y2, y3⟩ := SP2.out n x (hsk.2.1 rfl)
            have HS := Lib.hid (y3 rfl)
            clear y2 y3 hsk
            go_wp2
            go_ret2
            exact ⟨g + n, 0, by push_cast; rfl, HS.out, by rw [HX.out]; exact B5.out⟩
          | false =>
            have HS := Lib.hid (SP3.out (by omega) (fun j y hj hy => hsk.2.2 rfl ⟨j, by rw [← hy]; exact hj⟩))
            clear hsk
            go_wp2
            go_ret2
            exact ⟨0, 1, rfl, HS.out, by rw [HX.out]; exact B5.out⟩

end Go.Proofs.Ythjedecfpedjbaa
