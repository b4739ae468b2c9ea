/- The contract of the reference's At. Conditions: texts of at most 100000 bytes. -/
import Derived.Test.YthjedecfpedjbaaPBord
import Derived.Test.YthjedecfpedjbaaOnly
import Derived.Test.YthjedecfpedjbaaRowI
namespace Go.Proofs.Ythjedecfpedjbaa
open Go.RowKit Go.Shelf
set_option linter.unusedVariables false

theorem sb_extract (s : ByteArray) (a b : Nat) : sb (s.extract a b) = ((sb s).drop a).take (b - a) := by
  unfold sb
  rw [ByteArray.data_extract, Array.toList_extract, List.map_take, List.map_drop]
/-- What At returns: line, unit, error. -/
def AtSpec (Z : List Int) (off : Int) (l u : Nat) (e : Int) : Prop :=
  (e = 5 ∧ l = 0 ∧ u = 0 ∧ (off < 0 ∨ (Z.length : Int) < off)) ∨
  (e = 1 ∧ l = 0 ∧ u = 0 ∧ ∃ i : Nat, off = (i : Int) ∧ i ≤ Z.length ∧ ¬ ∃ U, Bord Z i U) ∨
  (e = 0 ∧ ∃ i : Nat, off = (i : Int) ∧ Pos Z i l u)
theorem AtSpec.det {Z : List Int} {off : Int} {l u l' u' : Nat} {e e' : Int} (h : AtSpec Z off l u e) (k : AtSpec Z off l' u' e') : l = l' ∧ u = u' ∧ e = e' := by
  have hb : ∀ {i l u}, Pos Z i l u → i ≤ Z.length := fun h => by obtain ⟨⟨U, hU⟩, _⟩ := h; exact hU.le
  rcases h with ⟨rfl, rfl, rfl, h⟩ | ⟨rfl, rfl, rfl, i, rfl, h1, h2⟩ | ⟨rfl, i, rfl, h⟩ <;> rcases k with ⟨rfl, rfl, rfl, k⟩ | ⟨rfl, rfl, rfl, j, hj, k1, k2⟩ | ⟨rfl, j, hj, k⟩
  · exact ⟨rfl, rfl, rfl⟩
  · omega
  · have := hb k; omega
  · omega
  · exact ⟨rfl, rfl, rfl⟩
  · obtain rfl : i = j := by omega
    exact absurd k.1 h2
  · have := hb h; omega
  · obtain rfl : i = j := by omega
    exact absurd h.1 k2
  · obtain rfl : i = j := by omega
    obtain ⟨h1, h2⟩ := h.det k
    exact ⟨h1, h2, rfl⟩
/-- A call of At returns what it should, and what lay lies as it lay. -/
def AtPost (s : ByteArray) (off : Int) (w : World) (e : Ending) (w' : World) : Prop :=
  ∃ (l u : Nat) (er : Int), e = .returned (.tuple #[.agg #[.int .i64 (l : Int), .int .i64 (u : Int)], .int .i64 er]) ∧ AtSpec (sb s) off l u er ∧ Below w.heap.size w w'

set_option maxRecDepth 100000 in
set_option maxHeartbeats 2000000 in
theorem rat_any (s : ByteArray) (off : Int) (w : World) (hs : s.size ≤ 100000) :
    Calls Try.prog 23 #[.string s, .int .i64 off] w (AtPost s off w) := by
  have bR : Blk (w.alloc (.cells #[.int .i64 0, .int .i64 0] 32)) w.heap.size 32 #[.int .i64 0, .int .i64 0] := Blk.new _ _ _
  have hb1 : Below w.heap.size w (w.alloc (.cells #[.int .i64 0, .int .i64 0] 32)) := (Below.refl _ _).alloc (Nat.le_refl _) _
  have hout : ∀ (W : World) (x y : Int), Blk W w.heap.size 32 #[.int .i64 0, .int .i64 0] → Below w.heap.size w W →
      ((W.setCell ⟨w.heap.size, 0, none⟩ (.int .i64 x)).setCell ⟨w.heap.size, 1, none⟩ (.int .i64 y)).cell? ⟨w.heap.size, 0, none⟩ = some (.int .i64 x) ∧ ((W.setCell ⟨w.heap.size, 0, none⟩ (.int .i64 x)).setCell ⟨w.heap.size, 1, none⟩ (.int .i64 y)).cell? ⟨w.heap.size, 1, none⟩ = some (.int .i64 y) ∧
      Below w.heap.size w ((W.setCell ⟨w.heap.size, 0, none⟩ (.int .i64 x)).setCell ⟨w.heap.size, 1, none⟩ (.int .i64 y)) := by
    intro W x y h hb
    have b2 := (h.set 0 (.int .i64 x)).set 1 (.int .i64 y)
    exact ⟨by simpa using b2.cell 0, by simpa using b2.cell 1, (hb.setCell (p := ⟨w.heap.size, 0, none⟩) (Nat.le_refl _) _).setCell (p := ⟨w.heap.size, 1, none⟩) (Nat.le_refl _) _⟩
  have HOUT := Lib.hid hout
  have HB := Lib.hid (And.intro bR hb1)
  clear hout bR hb1
  by_cases hr : off < 0 ∨ (s.size : Int) < off
  · have hways : off < 0 ∨ (¬ off < 0 ∧ (s.size : Int) < off) := by omega
    have hspec : AtSpec (sb s) off 0 0 5 := .inl ⟨rfl, rfl, rfl, by rw [sb_len]; exact hr⟩
    have HS := Lib.hid hspec
    clear hr hspec
    rcases hways with h1 | ⟨h1, h2⟩
    all_goals
      go_enter Try.func23, Try.ntmps23
      go_wp2
      refine bodyPost_ret (v := .tuple #[.agg #[.int .i64 0, .int .i64 0], .int .i64 5]) (by simp [results, Try.results23, go_sem]) rfl ?_
      exact ⟨0, 0, 5, rfl, HS.out, HB.out.2⟩
  · obtain ⟨i, rfl⟩ : ∃ i : Nat, off = (i : Int) := ⟨off.toNat, by omega⟩
    have hil : i ≤ s.size := by omega
    have h1 : ¬ (i : Int) < 0 := by omega
    have h2 : ¬ (s.size : Int) < (i : Int) := by omega
    have cB := rborders_any s (w.alloc (.cells #[.int .i64 0, .int .i64 0] 32)) hs
    have CB := Lib.hid cB
    have hbl : (bordI (sb s)).length ≤ 200000 := by have := bords_len 0 (sb s); rw [sb_len] at this; simp [bordI]; omega
    have HBL := Lib.hid hbl
    clear cB hr hbl
    by_cases hbd : ((i : Int) ∈ bordI (sb s))
    · obtain ⟨U, hU⟩ := mem_bordI.1 hbd
      obtain ⟨u, hp⟩ := pos_of_bord hU
      have HP := Lib.hid hp
      have HBD := Lib.hid hbd
      have hlf := lf_le (sb s) i
      have hun : unis (sb (s.extract (lf (sb s) i).2 i)) = u := by rw [sb_extract]; exact hp.2.2.unis_take
      have hub : u ≤ 300000 := by rw [← hun]; have := unis_le (sb (s.extract (lf (sb s) i).2 i)); rw [sb_len] at this; have h3 : (s.extract (lf (sb s) i).2 i).size ≤ s.size := by rw [ByteArray.size_extract]; omega
                                  omega
      have HUN := Lib.hid hun
      obtain ⟨⟨L, F⟩, hlF⟩ : ∃ x, lf (sb s) i = x := ⟨_, rfl⟩
      rw [hlF] at hlf
      simp only at hlf
      have HLF := Lib.hid hlF
      clear hp hU hbd hun hlF
      go_enter Try.func23, Try.ntmps23
      go_wp2_with fail
      refine CB.out.mono ?_
      rintro e w2 h2'
      obtain ⟨A2, k2, rfl, row2, b2⟩ := row_of_new h2'
      have cH := has_any A2 k2 (bordI (sb s)) (i : Int) w2 row2.sli HBL.out
      rw [decide_eq_true HBD.out] at cH
      have CH := Lib.hid cH
      have H2 : Hid (Blk w2 w.heap.size 32 #[.int .i64 0, .int .i64 0] ∧ Below w.heap.size w w2) := ⟨HB.out.1.same (b2.block _ HB.out.1.lt), HB.out.2.trans (b2.mono (by simp))⟩
      clear h2' row2 b2 cH CB
      go_wp2_with fail
      refine CH.out.mono ?_
      rintro e w' ⟨rfl, rfl⟩
      go_wp2_with fail
      go_loopw [7, 8, 9] (fun t f q wr => ∃ j : Nat, j ≤ i ∧ t = .int .i64 ((lf (sb s) j).1 : Int) ∧ f = .int .i64 ((lf (sb s) j).2 : Int) ∧ q = .int .i64 (j : Int) ∧ wr = w2) (fun _ _ q _ => i - (intOf q).toNat)
      case atStart => exact ⟨0, by omega, rfl, rfl, rfl, by trivial⟩
      case round =>
        obtain ⟨j, hj, rfl, rfl, rfl, rfl⟩ := hrel
        have hlj := lf_le (sb s) j
        by_cases hlt : j < i
        · have hjs : j < s.size := by omega
          have hg := sb_get s j hjs
          by_cases h10 : ((s[j]'hjs).toNat : Int) = 10
          · have hb10 : (((s[j]'hjs).toNat : Int) == 10) = true := by simp; omega
            have hnx := lf_nl (Z := sb s) (i := j) (by rw [hg]; exact h10)
            have HNX := Lib.hid hnx
            clear hg h10 hnx
            generalize lf (sb s) j = x at *
            go_wp2
            go_roundw
            case rel => exact ⟨j + 1, by omega, by rw [HNX.out]; go_num, by rw [HNX.out]; go_num, by go_num, by trivial⟩
            case measure => simp [intOf]; omega
          · have hb10 : (((s[j]'hjs).toNat : Int) == 10) = false := by simp; omega
            have hnx := lf_no (Z := sb s) (i := j) (by rw [hg]; exact h10)
            have HNX := Lib.hid hnx
            clear hg h10 hnx
            generalize lf (sb s) j = x at *
            go_wp2
            go_roundw
            case rel => exact ⟨j + 1, by omega, by rw [HNX.out], by rw [HNX.out], by go_num, by trivial⟩
            case measure => simp [intOf]; omega
        · obtain rfl : i = j := by omega
          rw [HLF.out] at hlj ⊢
          have hb := HOUT.out _ (L : Int) (u : Int) H2.out.1 H2.out.2
          obtain ⟨k0, k1, hbl2⟩ := hb
          have HBL2 := Lib.hid hbl2
          have f0 := H2.out.1.frozen 0
          have f1 := H2.out.1.frozen 1
          have c0 := H2.out.1.cell 0; have c1 := H2.out.1.cell 1
          simp at c0 c1
          have cU := fun W => runits_any (s.extract F i) W (by rw [ByteArray.size_extract]; omega)
          have hu2 := HUN.out
          rw [HLF.out] at hu2
          simp only at hu2 cU
          rw [hu2] at cU
          have CU := Lib.hid cU
          clear cU hbl2 hu2
          go_wp2_with fail
          refine (CU.out _).mono ?_
          rintro e w' ⟨rfl, rfl⟩
          go_wp2
          refine bodyPost_ret (v := .tuple #[.agg #[.int .i64 (L : Int), .int .i64 (u : Int)], .int .i64 0]) (by simp [results, Try.results23, go_sem, k0, k1]) rfl ?_
          have hP := HP.out
          rw [HLF.out] at hP
          exact ⟨L, u, 0, rfl, .inr (.inr ⟨rfl, i, rfl, hP⟩), HBL2.out⟩
    · have hspec : AtSpec (sb s) (i : Int) 0 0 1 := .inr (.inl ⟨rfl, rfl, rfl, i, rfl, by rw [sb_len]; exact hil, fun h => hbd (mem_bordI.2 h)⟩)
      have HS := Lib.hid hspec
      have HBD := Lib.hid hbd
      clear hbd hspec
      go_enter Try.func23, Try.ntmps23
      go_wp2_with fail
      refine CB.out.mono ?_
      rintro e w2 h2'
      obtain ⟨A2, k2, rfl, row2, b2⟩ := row_of_new h2'
      have cH := has_any A2 k2 (bordI (sb s)) (i : Int) w2 row2.sli HBL.out
      rw [decide_eq_false HBD.out] at cH
      have CH := Lib.hid cH
      have H2 : Hid (Blk w2 w.heap.size 32 #[.int .i64 0, .int .i64 0] ∧ Below w.heap.size w w2) := ⟨HB.out.1.same (b2.block _ HB.out.1.lt), HB.out.2.trans (b2.mono (by simp))⟩
      have f0 := H2.out.1.frozen 0
      have f1 := H2.out.1.frozen 1
      have c0 := H2.out.1.cell 0; have c1 := H2.out.1.cell 1
      simp at c0 c1
      have hb := HOUT.out _ 0 0 H2.out.1 H2.out.2
      obtain ⟨k0, k1, hbl2⟩ := hb
      have HBL2 := Lib.hid hbl2
      clear h2' row2 b2 cH CB hbl2
      go_wp2_with fail
      refine CH.out.mono ?_
      rintro e w' ⟨rfl, rfl⟩
      go_wp2
      refine bodyPost_ret (v := .tuple #[.agg #[.int .i64 0, .int .i64 0], .int .i64 1]) (by simp [results, Try.results23, go_sem, k0, k1]) rfl ?_
      exact ⟨0, 0, 1, rfl, HS.out, HBL2.out⟩

end Go.Proofs.Ythjedecfpedjbaa
