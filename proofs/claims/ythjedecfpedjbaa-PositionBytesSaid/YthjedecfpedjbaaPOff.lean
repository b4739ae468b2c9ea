/- The contract of the reference's Offset. Conditions: texts of at most 100000 bytes. -/
import Derived.Test.YthjedecfpedjbaaPLine
namespace Go.Proofs.Ythjedecfpedjbaa
open Go.RowKit Go.Shelf
set_option linter.unusedVariables false

theorem lf_bord {Z : List Int} {i : Nat} (hi : i ≤ Z.length) : ∃ U, Bord Z (lf Z i).2 U := by
  induction i with
  | zero => exact ⟨0, Bord.zero _⟩
  | succ i ih =>
    by_cases h10 : ab Z i = 10
    · rw [lf_nl h10]
      obtain ⟨U, hU⟩ := nl_bord (by omega) h10
      have hne : Z.drop i ≠ [] := by intro e; have := congrArg List.length e; rw [List.length_drop] at this; simp at this; omega
      have := hU.snoc hne
      rw [chr_ascii (by rw [drop_zero_ab, h10]; decide)] at this
      exact ⟨_, this⟩
    · rw [lf_no h10]; exact ih (by omega)
/-- Offsets in the line that begins at g and ends at t. -/
theorem pos_in_line {Z : List Int} {g t k j u : Nat} (hg : lf Z g = (k, g)) (ht : lf Z t = (k, g)) (htl : t ≤ Z.length) (hj : g + j ≤ t) (h : Bord (Z.drop g) j u) : Pos Z (g + j) k u := by
  obtain ⟨U, hU⟩ := lf_bord (Z := Z) (i := g) (by omega)
  rw [hg] at hU
  have hl : lf Z (g + j) = lf Z g := by
    refine lf_line j ?_
    have m1 := lf_mono Z g j
    obtain ⟨n, rfl⟩ : ∃ n, t = g + j + n := ⟨t - (g + j), by omega⟩
    have m2 := lf_mono Z (g + j) n
    rw [ht] at m2
    rw [hg] at m1 ⊢
    simp only at m1 m2 ⊢
    omega
  refine ⟨⟨_, hU.add h⟩, by rw [hl, hg], ?_⟩
  rw [hl, hg, Nat.add_sub_cancel_left]
  exact h
theorem bord_in_line {Z : List Int} {g t k o u v : Nat} (ht : lf Z t = (k, g)) (he : Eol Z t k v) (h : Pos Z o k u) : g ≤ o ∧ o ≤ t ∧ Bord ((Z.drop g).take (t - g)) (o - g) u := by
  have hs := h.same he.1
  have hb := h.2.2
  have hle := (lf_le Z o).1
  rw [hs, ht] at hb hle
  obtain ⟨E, v', h1, h2, _⟩ := h.eol
  obtain ⟨rfl, _⟩ := h1.det he
  exact ⟨hle, h2, hb.of_take (by omega)⟩
theorem bordI_at {X : List Int} {i : Nat} (h : i < (bordI X).length) : ∃ b u, (bordI X)[i]?.getD 0 = ((b : Nat) : Int) ∧ Bord X b u := by
  have h2 : i < (bords 0 X).length := by simpa [bordI] using h
  obtain ⟨j, u, hb, he⟩ := mem_bords.1 (List.getElem_mem h2)
  exact ⟨j, u, by simp [bordI, h2, he], hb⟩
theorem bordI_has {X : List Int} {j u : Nat} (h : Bord X j u) : ∃ i, i < (bordI X).length ∧ (bordI X)[i]?.getD 0 = ((j : Nat) : Int) := by
  obtain ⟨i, hi, he⟩ := List.mem_iff_getElem.1 (mem_bordI.2 ⟨u, h⟩)
  exact ⟨i, hi, by simp [hi, he]⟩
theorem bordI_len (X : List Int) : (bordI X).length ≤ X.length + 1 := by have := bords_len 0 X; simp [bordI]; omega
/-- What the line that begins at g and ends at t tells of Offset. -/
theorem line_spec {Z : List Int} {g t k v x : Nat} (hgt : g ≤ t) (htl : t ≤ Z.length) (hg : lf Z g = (k, g)) (ht : lf Z t = (k, g)) (he : Eol Z t k v) :
    (v < x → OffSpec Z (k : Int) (x : Int) 0 5) ∧
    (∀ j u, Bord ((Z.drop g).take (t - g)) j u → g + j ≤ t ∧ unis ((Z.drop g).take j) = u ∧ (u = x → OffSpec Z (k : Int) (x : Int) (g + j) 0)) ∧
    (x ≤ v → (∀ j u, Bord ((Z.drop g).take (t - g)) j u → u ≠ x) → OffSpec Z (k : Int) (x : Int) 0 1) := by
  have hbe : Bord (Z.drop g) (t - g) v := by have := he.1.2.2; rwa [ht] at this
  refine ⟨fun hv => .inr (.inr ⟨rfl, rfl, ?_⟩), fun j u hj => ?_, fun hv hno => .inr (.inl ⟨rfl, rfl, k, x, t, v, rfl, rfl, he, hv, ?_⟩)⟩
  · rintro ⟨l', u', E, v', hl, hu, h1, h2⟩
    obtain rfl : k = l' := by omega
    obtain ⟨_, rfl⟩ := he.det h1
    omega
  · have hjl := hj.le
    rw [List.length_take] at hjl
    have hb := hbe.of_take_back hj
    refine ⟨by omega, hb.unis_take, ?_⟩
    rintro rfl
    exact .inl ⟨rfl, k, u, rfl, rfl, pos_in_line hg ht htl (by omega) hb⟩
  · rintro ⟨o, ho⟩
    obtain ⟨h1, h2, h3⟩ := bord_in_line ht he ho
    exact hno _ _ h3 rfl
/-- A call of Offset returns what it should, and what lay lies as it lay. -/
def OffPost (s : ByteArray) (l u : Int) (w : World) (e : Ending) (w' : World) : Prop :=
  ∃ (o : Nat) (er : Int), e = .returned (.tuple #[.int .i64 (o : Int), .int .i64 er]) ∧ OffSpec (sb s) l u o er ∧ Below w.heap.size w w'

set_option maxRecDepth 100000 in
set_option maxHeartbeats 4000000 in
theorem roff_any (s : ByteArray) (l u : Int) (w : World) (hs : s.size ≤ 100000) (hl2 : l ≤ 9223372036854775807) :
    Calls Try.prog 21 #[.string s, .agg #[.int .i64 l, .int .i64 u]] w (OffPost s l u w) := by
  obtain ⟨W1, hW1⟩ : ∃ W, w.alloc (.cells #[.int .i64 l, .int .i64 u] 32) = W := ⟨_, rfl⟩
  have bR : Blk W1 w.heap.size 32 #[.int .i64 l, .int .i64 u] := by rw [← hW1]; exact Blk.new _ _ _
  have hb1 : Below w.heap.size w W1 := by rw [← hW1]; exact (Below.refl _ _).alloc (Nat.le_refl _) _
  have cL := rlines_any s W1 hs
  obtain ⟨nL, hnL⟩ : ∃ n, (lns (sb s)).length = n := ⟨_, rfl⟩
  have hnl2 : nL ≤ 100001 := by have := lnsF_len 0 (sb s); rw [sb_len] at this; rw [← hnL]; simp [lns]; omega
  have CL := Lib.hid cL; have HB := Lib.hid (And.intro bR hb1); have HW := Lib.hid hW1; have HNL := Lib.hid hnL
  clear cL bR hb1 hW1 hnL
  go_enter Try.func21, Try.ntmps21
  go_wp2_with fail
  rw [show w.alloc (.cells #[.int .i64 l, .int .i64 u] 32) = W1 from HW.out]
  refine CL.out.mono ?_
  rintro e w2 h2
  obtain ⟨A2, k2, rfl, row2, b2⟩ := row_of_new h2
  rw [HNL.out] at row2 ⊢
  have bR2 := HB.out.1.same (b2.block _ HB.out.1.lt)
  have c0 := bR2.cell 0; have c1 := bR2.cell 1
  simp at c0 c1
  have hcap := row2.sli.le
  have hmx := row2.sli.mx
  rw [HNL.out] at hcap
  have hRW := HB.out.1.lt
  have H2 : Hid (Row .i64 3 W1.heap.size w2.heap.size w2 A2 nL k2 (lns (sb s)) ∧ Below w.heap.size w w2) := ⟨row2, HB.out.2.trans (b2.mono (by omega))⟩
  clear h2 row2 b2 bR2 CL
  by_cases hbad : l < 0 ∨ u < 0 ∨ (nL : Int) ≤ l
  · have hways : l < 0 ∨ (¬ l < 0 ∧ u < 0) ∨ (¬ l < 0 ∧ ¬ u < 0 ∧ (nL : Int) ≤ l) := by omega
    have hspec : OffSpec (sb s) l u 0 5 := by
      refine .inr (.inr ⟨rfl, rfl, ?_⟩)
      rintro ⟨l', u', E, v, rfl, rfl, he, _⟩
      rcases hbad with h | h | h
      · omega
      · omega
      · exact no_line (by rw [HNL.out]; omega) he.1
    have HS := Lib.hid hspec
    clear hbad hspec
    rcases hways with h1 | ⟨h1, h2⟩ | ⟨h1, h2, h3⟩
    all_goals
      go_wp2
      go_ret2
      exact ⟨0, 5, rfl, HS.out, H2.out.2⟩
  · obtain ⟨k, rfl⟩ : ∃ k : Nat, l = (k : Int) := ⟨l.toNat, by omega⟩
    obtain ⟨x, rfl⟩ : ∃ x : Nat, u = (x : Int) := ⟨u.toNat, by omega⟩
    have hk : k < nL := by omega
    have n1 : ¬ (k : Int) < 0 := by omega
    have n2 : ¬ (x : Int) < 0 := by omega
    have n3 : ¬ (nL : Int) ≤ (k : Int) := by omega
    obtain ⟨g, t, q1, q2, q3, q4, q5, q6, q7, q8⟩ := line_at (Z := sb s) (k := k) (by rw [HNL.out]; exact hk)
    obtain ⟨gA, hA2, _, hgA, hck, _⟩ := H2.out.1.at_ (j := k) hk
    rw [q1] at hck
    subst hA2
    rw [sb_len] at q3
    obtain ⟨v, hv⟩ : ∃ v, unis (((sb s).drop g).take (t - g)) = v := ⟨_, rfl⟩
    rw [hv] at q6
    have cU := fun W => runits_any (s.extract g t) W (by rw [ByteArray.size_extract]; omega)
    rw [sb_extract, hv] at cU
    have CU := Lib.hid cU
    obtain ⟨sp1, sp2, sp3⟩ := line_spec (x := x) q2 (by rw [sb_len]; exact q3) q4 q5 q6
    have cB := fun W => rborders_any (s.extract g t) W (by rw [ByteArray.size_extract]; omega)
    rw [sb_extract] at cB
    obtain ⟨X, hX⟩ : ∃ X, ((sb s).drop g).take (t - g) = X := ⟨_, rfl⟩
    rw [hX] at sp2 sp3 cB
    have hXl : X.length ≤ s.size := by rw [← hX, List.length_take, List.length_drop, sb_len]; omega
    have hsp2 : ∀ j u, Bord X j u → g + j ≤ s.size ∧ unis (sb (s.extract g (g + j))) = u ∧ (u = x → OffSpec (sb s) (k : Int) (x : Int) (g + j) 0) := by
      intro j u hj
      obtain ⟨y1, y2, y3⟩ := sp2 j u hj
      exact ⟨by omega, by rw [sb_extract, Nat.add_sub_cancel_left]; exact y2, y3⟩
    have SP1 := Lib.hid sp1; have SP2 := Lib.hid hsp2; have SP3 := Lib.hid sp3; have CB := Lib.hid cB
    have hvb : v ≤ 300000 := by rw [← hv]; have := unis_le (((sb s).drop g).take (t - g)); rw [hX] at this ⊢; omega
    have hgt : (g : Int) ≤ (t : Int) := by omega
    have hts : (t : Int) ≤ (s.size : Int) := by omega
    clear hbad cU q1 q4 q5 q6 hv sp1 sp2 sp3 hsp2 cB hX
    by_cases hl : k + 1 < nL
    case' pos =>
      obtain ⟨gA', hA2', _, _, hck2, _⟩ := H2.out.1.at_ (j := k + 1) hl
      rw [q7 (by rw [HNL.out]; exact hl)] at hck2
      simp only [Option.some.injEq, Addr.mk.injEq, and_true] at hA2'
      subst hA2'
      have hkl : (k : Int) + 1 < (nL : Int) := by omega
      push_cast at hck2
      clear q7 q8
      go_wp2_with fail
    case' neg =>
      have ht := q8 (by rw [HNL.out]; exact hl)
      rw [sb_len] at ht
      subst ht
      have hkl : ¬ (k : Int) + 1 < (nL : Int) := by omega
      clear q7 q8
      go_wp2_with fail
    all_goals
      go_quiet (first | (go_at_call 15; refine Calls.quiet_of_same ((CU.out _).mono (fun _ _ h => ⟨h.1, h.2.symm⟩))))
      by_cases hxv : v < x
      · have HS := Lib.hid (SP1.out hxv)
        have hxv' : (v : Int) < (x : Int) := by omega
        go_wp2
        go_ret2
        exact ⟨0, 5, rfl, HS.out, below_drewN H2.out.2 _⟩
      · have hxv' : ¬ (v : Int) < (x : Int) := by omega
        go_wp2_with fail
        refine (CB.out _).mono ?_
        rintro e w4 h4
        obtain ⟨A4, k4, rfl, row4, b4⟩ := row_of_new h4
        obtain ⟨nB, hnB⟩ : ∃ n, (bordI X).length = n := ⟨_, rfl⟩
        rw [hnB] at row4 ⊢
        have hnb2 : nB ≤ 100001 := by have := bordI_len X; omega
        have hcap4 := row4.sli.le
        have hmx4 := row4.sli.mx
        rw [hnB] at hcap4
        have d0 := (b4.cell (p := ⟨w.heap.size, 0, none⟩) (by have := H2.out.2.size; have := hgA; show w.heap.size < w2.heap.size; omega)).trans c0
        have d1 := (b4.cell (p := ⟨w.heap.size, 1, none⟩) (by show w.heap.size < w2.heap.size; omega)).trans c1
        have dk := (b4.cell (p := ⟨gA, k, none⟩) (by show gA < w2.heap.size; omega)).trans hck
        have H4 : Hid (Row .i64 3 w2.heap.size w4.heap.size w4 A4 nB k4 (bordI X) ∧ Below w.heap.size w w4) := ⟨row4, (below_drewN H2.out.2 _).trans (b4.mono (by have := H2.out.2.size; show w.heap.size ≤ w2.heap.size; omega))⟩
        have hs4 := b4.size
        have hs4' : w2.heap.size ≤ w4.heap.size := hs4
        have HNB := Lib.hid hnB
        clear h4 row4 b4 c0 c1 hck hs4 hnB
        go_wp2_with fail
        go_loopw [9] (fun q wr => ∃ i : Nat, i ≤ nB ∧ q = .int .i64 (i : Int) ∧ Hid (∀ i', i' < i → ∀ b y : Nat, (bordI X)[i']?.getD 0 = (b : Int) → Bord X b y → y ≠ x) ∧ Hid (Below w4.heap.size w4 wr)) (fun q _ => nB - (intOf q).toNat)
        case atStart => exact ⟨0, Nat.zero_le _, rfl, Lib.hid (fun i' h => by omega), Below.refl _ _⟩
        case round =>
          obtain ⟨i, hi, rfl, HI, HRB⟩ := hrel
          by_cases hlt : i < nB
          · obtain ⟨b, y, hb1, hb2⟩ := bordI_at (X := X) (i := i) (by rw [HNB.out]; exact hlt)
            obtain ⟨hg1, hg2, hg3⟩ := SP2.out b y hb2
            obtain ⟨gB, hAB, _, hgB, hcb, _⟩ := H4.out.1.at_ (j := i) hlt
            rw [hb1] at hcb
            subst hAB
            have e0 := (HRB.out.cell (p := ⟨w.heap.size, 0, none⟩) (by show w.heap.size < w4.heap.size; omega)).trans d0
            have e1 := (HRB.out.cell (p := ⟨w.heap.size, 1, none⟩) (by show w.heap.size < w4.heap.size; omega)).trans d1
            have ek := (HRB.out.cell (p := ⟨gA, k, none⟩) (by show gA < w4.heap.size; omega)).trans dk
            have eb := (HRB.out.cell (p := ⟨gB, i, none⟩) hgB).trans hcb
            have cU2 := fun W => runits_any (s.extract g (g + b)) W (by rw [ByteArray.size_extract]; omega)
            rw [hg2] at cU2
            have CU2 := Lib.hid cU2
            have hwr : IntKind.i64.wrap ((g : Int) + (b : Int)) = (g : Int) + (b : Int) := by simp [IntKind.wrap, IntKind.signed, IntKind.bits]; omega
            have htn : ((g : Int) + (b : Int)).toNat = g + b := by omega
            have hz1 : (g : Int) ≤ (g : Int) + (b : Int) := by omega
            have hz2 : (g : Int) + (b : Int) ≤ (s.size : Int) := by omega
            have hz3 : (0 : Int) ≤ (g : Int) + (b : Int) := by omega
            have hii : (i : Int) < (nB : Int) := by omega
            have HB1 := Lib.hid hb1; have HB2 := Lib.hid hb2; have HG3 := Lib.hid hg3
            clear hcb cU2 hb1 hb2 hg2 hg3 d0 d1 dk
            by_cases hyx : y = x
            · have hq : ((y : Int) == (x : Int)) = true := by simp; omega
              have HS := Lib.hid (HG3.out hyx)
              go_wp2_with fail
              go_quiet (first | (go_at_call 15; refine Calls.quiet_of_same ((CU2.out _).mono (fun _ _ h => ⟨h.1, h.2.symm⟩))))
              go_wp2_with fail
              go_quiet (fail)
              go_wp2
              go_ret2
              exact ⟨g + b, 0, by push_cast; rfl, HS.out, below_drewN (below_drewN (H4.out.2.trans (HRB.out.mono (by omega))) _) _⟩
            · have hq : ((y : Int) == (x : Int)) = false := by simp; omega
              have HI2 : Hid (∀ i', i' < i + 1 → ∀ b y : Nat, (bordI X)[i']?.getD 0 = (b : Int) → Bord X b y → y ≠ x) := by
                intro i' hi' b' y' h1 h2
                by_cases e : i' = i
                · subst e
                  have e1 := HB1.out
                  rw [e1] at h1
                  obtain rfl : b = b' := by omega
                  rw [← HB2.out.det h2]; exact hyx
                · exact HI.out i' (by omega) b' y' h1 h2
              go_wp2_with fail
              go_quiet (first | (go_at_call 15; refine Calls.quiet_of_same ((CU2.out _).mono (fun _ _ h => ⟨h.1, h.2.symm⟩))))
              go_wp2
              go_roundw
              case rel => exact ⟨i + 1, by omega, by go_num, HI2, below_drewN HRB.out _⟩
              case measure => simp [intOf]; omega
          · obtain rfl : nB = i := by omega
            have hno : ∀ j y, Bord X j y → y ≠ x := by
              intro j y hj
              obtain ⟨i', h1, h2⟩ := bordI_has hj
              exact HI.out i' (by rw [← HNB.out]; exact h1) j y h2 hj
            have HS := Lib.hid (SP3.out (by omega) hno)
            clear hno
            go_wp2
            go_ret2
            exact ⟨0, 1, rfl, HS.out, H4.out.2.trans (HRB.out.mono (by omega))⟩

end Go.Proofs.Ythjedecfpedjbaa
