/- The contract of the program's At. Conditions: texts of at most 100000 bytes. -/
import Derived.Test.YtfhpllcdlejfjaaPUn
import Derived.Test.YtfhpllcdlejfjaaPLib
namespace Go.Proofs.Ytfhpllcdlejfjaa
open Go.RowKit Go.Shelf
set_option linter.unusedVariables false

set_option maxRecDepth 100000 in
set_option maxHeartbeats 1000000 in
theorem pat_any (s : ByteArray) (off : Int) (w : World) (hs : s.size ≤ 100000) (hx1 : -9223372036854775808 ≤ off) (hx2 : off ≤ 9223372036854775807) :
    Calls Try.prog 36 #[.string s, .int .i64 off] w (AtPost s off w) := by
  have bR : Blk (w.alloc (.cells #[.int .i64 0, .int .i64 0] 54)) w.heap.size 54 #[.int .i64 0, .int .i64 0] := Blk.new _ _ _
  have hb1 : Below w.heap.size w (w.alloc (.cells #[.int .i64 0, .int .i64 0] 54)) := (Below.refl _ _).alloc (Nat.le_refl _) _
  have hout : ∀ (W : World) (x y : Int), Blk W w.heap.size 54 #[.int .i64 0, .int .i64 0] → Below w.heap.size w W →
      ((W.setCell ⟨w.heap.size, 0, none⟩ (.int .i64 x)).setCell ⟨w.heap.size, 1, none⟩ (.int .i64 y)).cell? ⟨w.heap.size, 0, none⟩ = some (.int .i64 x) ∧ ((W.setCell ⟨w.heap.size, 0, none⟩ (.int .i64 x)).setCell ⟨w.heap.size, 1, none⟩ (.int .i64 y)).cell? ⟨w.heap.size, 1, none⟩ = some (.int .i64 y) ∧
      Below w.heap.size w ((W.setCell ⟨w.heap.size, 0, none⟩ (.int .i64 x)).setCell ⟨w.heap.size, 1, none⟩ (.int .i64 y)) := by
    intro W x y h hb
    have b2 := (h.set 0 (.int .i64 x)).set 1 (.int .i64 y)
    exact ⟨by simpa using b2.cell 0, by simpa using b2.cell 1, (hb.setCell (p := ⟨w.heap.size, 0, none⟩) (Nat.le_refl _) _).setCell (p := ⟨w.heap.size, 1, none⟩) (Nat.le_refl _) _⟩
  have HOUT := Lib.hid hout
  have HB := Lib.hid (And.intro bR hb1)
  clear hout bR hb1
  by_cases hr : off < 0 ∨ (s.size : Int) < off
  · have hways : off < 0 ∨ (¬ off < 0 ∧ (s.size : Int) < off) := by omega
    have hspec : AtSpec (sb s) off 0 0 5 := .inl ⟨rfl, rfl, rfl, by rw [sb_len]; exact hr⟩
    have HS := Lib.hid hspec
    clear hr hspec
    rcases hways with h1 | ⟨h1, h2⟩
    all_goals
      go_enter Try.func36, Try.ntmps36
      go_wp2
      refine bodyPost_ret (v := .tuple #[.agg #[.int .i64 0, .int .i64 0], .int .i64 5]) (by simp [results, Try.results36, go_sem]) rfl ?_
      exact ⟨0, 0, 5, rfl, HS.out, HB.out.2⟩
  · obtain ⟨i, rfl⟩ : ∃ i : Nat, off = (i : Int) := ⟨off.toNat, by omega⟩
    have hil : i ≤ s.size := by omega
    have h1 : ¬ (i : Int) < 0 := by omega
    have h2 : ¬ (s.size : Int) < (i : Int) := by omega
    clear hr
    by_cases hbd : ((i : Int) ∈ bordI (sb s))
    · obtain ⟨U, hU⟩ := mem_bordI.1 hbd
      obtain ⟨u, hp⟩ := pos_of_bord hU
      have cB := fun W => begins_any s i W hs hil true (decide_eq_true hbd).symm
      have hlf := lf_le (sb s) i
      have hun : unis (sb (s.extract (lf (sb s) i).2 i)) = u := by rw [sb_extract]; exact hp.2.2.unis_take
      have hcn := nl_count s i hil
      have hls := last_nl s i hil
      have hex : (s.extract 0 i).extract (lf (sb s) i).2 i = s.extract (lf (sb s) i).2 i := by
        rw [ByteArray.extract_extract]; congr 1 <;> omega
      obtain ⟨⟨L, F⟩, hlF⟩ : ∃ x, lf (sb s) i = x := ⟨_, rfl⟩
      rw [hlF] at hlf hun hcn hls hex
      simp only at hlf hun hcn hls hex
      have hpos : Pos (sb s) i L u := by have := hp.2.1; rw [hlF] at hp; exact hp
      obtain ⟨B, hB⟩ : ∃ B, s.extract 0 i = B := ⟨_, rfl⟩
      have hBs : B.size = i := by rw [← hB, ByteArray.size_extract]; omega
      have cL := fun W => last_any B 10 (by omega) W
      have cC := fun W => count_nl B W
      have cU := fun W => punits_any (B.extract F i) W (by rw [ByteArray.size_extract]; omega)
      rw [hB] at hcn hls hex
      rw [hls] at cL
      rw [hcn] at cC
      have hun2 : unis (sb (B.extract F i)) = u := by rw [hex]; exact hun
      rw [hun2] at cU
      have HP := Lib.hid hpos
      have CB := Lib.hid cB; have CL := Lib.hid cL; have CC := Lib.hid cC; have CU := Lib.hid cU; have HBB := Lib.hid hB
      clear hp hU hbd hun hun2 hcn hls hex hlF hpos cB cL cC cU hB
      go_enter Try.func36, Try.ntmps36
      go_wp2_with fail
      refine (CB.out _).mono ?_
      rintro e w2 ⟨rfl, b2⟩
      go_wp2_with fail
      rw [show s.extract 0 i = B from HBB.out]
      refine (CL.out _).mono ?_
      rintro e w' ⟨rfl, rfl⟩
      obtain ⟨X, hX⟩ : ∃ X, w.heap.size = X := ⟨_, rfl⟩
      have HXX := Lib.hid hX
      have hb2 : Blk w2 X 54 #[.int .i64 0, .int .i64 0] := by rw [← hX]; exact HB.out.1.same (b2.block _ HB.out.1.lt)
      have hw2 : Below X w w2 := by rw [← hX]; exact HB.out.2.trans (b2.mono (by simp))
      have hcw : ∀ W, Below w2.heap.size w2 W → Blk W X 54 #[.int .i64 0, .int .i64 0] ∧ W.cell? ⟨X, 0, none⟩ = some (.int .i64 0) ∧ W.cell? ⟨X, 1, none⟩ = some (.int .i64 0) ∧ W.frozen? ⟨X, 0, none⟩ = false ∧ W.frozen? ⟨X, 1, none⟩ = false := by
        intro W hW
        have := hb2.same (hW.block X hb2.lt)
        exact ⟨this, by simpa using this.cell 0, by simpa using this.cell 1, this.frozen 0, this.frozen 1⟩
      have K1 : Hid (∀ W, Below w2.heap.size w2 W → Calls Try.prog 55 #[.string (B.extract F i)] W fun e w' => e = .returned (.int .i64 (u : Int)) ∧ Below w2.heap.size w2 w' ∧ w'.cell? ⟨X, 0, none⟩ = some (.int .i64 0) ∧ w'.cell? ⟨X, 1, none⟩ = some (.int .i64 0) ∧ w'.frozen? ⟨X, 0, none⟩ = false ∧ w'.frozen? ⟨X, 1, none⟩ = false) := by
        intro W hW
        refine (CU.out W).mono ?_
        rintro e w' ⟨rfl, hb⟩
        have hbb := hW.trans (hb.mono hW.size)
        exact ⟨rfl, hbb, (hcw _ hbb).2⟩
      obtain ⟨_, c0, c1, f0, f1⟩ := hcw w2 (Below.refl _ _)
      have b0 : Below w2.heap.size w2 w2.drew := (Below.refl _ _).drew
      have HCW := Lib.hid hcw
      have HW2 := Lib.hid hw2
      have hFi : (F : Int) ≤ (B.size : Int) := by omega
      clear hX hb2 hw2 hcw b2
      go_wp2_with fail
      rw [HXX.out]
      go_region_held3 (fun _ => True) (trivial)
        (first
        | (go_at_call 55; refine (K1.out _ (by first | exact b0 | exact bA)).mono ?_; rintro e wA ⟨rfl, bA, sA0, sA1, sA2, sA3⟩)
        | (go_at_call 54; refine (CC.out _).mono ?_; rintro e wB ⟨rfl, rfl⟩))
      all_goals
        have HA := Lib.hid bA
        obtain ⟨hbk, _⟩ := HCW.out _ HA.out
        have hXw : X ≤ w2.heap.size := by have := HW2.out.size; have := HXX.out; omega
        obtain ⟨k0, k1, hbl⟩ := HOUT.out wA (L : Int) (u : Int) (by rw [HXX.out]; exact hbk) (by rw [HXX.out]; exact HW2.out.trans (HA.out.mono hXw))
        have HBL := Lib.hid hbl
        rw [HXX.out] at k0 k1 HBL
        clear bA hbl hbk
        go_wp2
        refine bodyPost_ret (v := .tuple #[.agg #[.int .i64 (L : Int), .int .i64 (u : Int)], .int .i64 0]) (by simp [results, Try.results36, go_sem, k0, k1]) rfl ?_
        exact ⟨L, u, 0, rfl, .inr (.inr ⟨rfl, i, rfl, HP.out⟩), by rw [HXX.out]; exact HBL.out⟩
    · have hspec : AtSpec (sb s) (i : Int) 0 0 1 := .inr (.inl ⟨rfl, rfl, rfl, i, rfl, by rw [sb_len]; exact hil, fun h => hbd (mem_bordI.2 h)⟩)
      have HS := Lib.hid hspec
      have cB := fun W => begins_any s i W hs hil false (decide_eq_false hbd).symm
      have CB := Lib.hid cB
      clear hbd hspec cB
      go_enter Try.func36, Try.ntmps36
      go_wp2_with fail
      refine (CB.out _).mono ?_
      rintro e w2 ⟨rfl, b2⟩
      have H2 : Hid (Blk w2 w.heap.size 54 #[.int .i64 0, .int .i64 0] ∧ Below w.heap.size w w2) := ⟨HB.out.1.same (b2.block _ HB.out.1.lt), HB.out.2.trans (b2.mono (by simp))⟩
      have f0 := H2.out.1.frozen 0
      have f1 := H2.out.1.frozen 1
      have c0 := H2.out.1.cell 0; have c1 := H2.out.1.cell 1
      simp at c0 c1
      have hb := HOUT.out _ 0 0 H2.out.1 H2.out.2
      obtain ⟨k0, k1, hbl2⟩ := hb
      have HBL2 := Lib.hid hbl2
      clear b2 hbl2
      go_wp2
      refine bodyPost_ret (v := .tuple #[.agg #[.int .i64 0, .int .i64 0], .int .i64 1]) (by simp [results, Try.results36, go_sem, k0, k1]) rfl ?_
      exact ⟨0, 0, 1, rfl, HS.out, HBL2.out⟩

end Go.Proofs.Ytfhpllcdlejfjaa
