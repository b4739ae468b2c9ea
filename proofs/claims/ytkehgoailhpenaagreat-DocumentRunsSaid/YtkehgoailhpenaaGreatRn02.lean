/- Texts of one claim, put together: PLib, POff, POffP, PEd1, Around, PText, PEx, PEd2, PEd3, PEd4, PEd5, PEd7. Each part says what it proves and under which conditions. -/
import Derived.Test.YtkehgoailhpenaaGreatRn01
import Derived.Deep.RegionHeld3
import Derived.Deep.Slices

/- Contracts of the library's functions that the program calls: Count, LastIndexByte and Cut at the byte 10, walked through their own text. Conditions: texts of at most 100000 bytes. -/
namespace Go.Proofs.YtkehgoailhpenaaGreat
open Go.RowKit Go.Shelf
set_option linter.unusedVariables false

set_option maxRecDepth 100000 in
set_option maxHeartbeats 1000000 in
theorem index_byte (s : ByteArray) (c : UInt8) (w : World) :
    Calls Tryz.prog 123 #[.string s, .int .u8 (c.toNat : Int)] w fun e w' => e = .returned (.int .i64 (Lib.indexByte s.data.toList c)) ∧ w = w' := by
  go_enter Tryz.func123, Tryz.ntmps123
  go_wp2
  rw [run_callFunc_extern Tryz.func127 (by kernel_rfl) (by kernel_rfl) (by kernel_rfl) (e := Extern.BytealgIndexByte.indexByte) (by kernel_rfl), Lib.run_indexByteString]
  simp only [Result.andThen]
  rw [Oper.upon_value]
  go_wp2
  go_ret
  refine ⟨?_, rfl⟩
  simp
set_option maxRecDepth 100000 in
set_option maxHeartbeats 2000000 in
theorem index_one (s : ByteArray) (c : UInt8) (w : World) :
    Calls Tryz.prog 122 #[.string s, .string ⟨#[c]⟩] w fun e w' => e = .returned (.int .i64 (Lib.indexByte s.data.toList c)) ∧ w = w' := by
  go_enter Tryz.func122, Tryz.ntmps122
  go_wp2_with (go_at_call 123; refine (index_byte _ _ _).mono ?_; rintro e w' ⟨rfl, rfl⟩)
  · have h : ([c] == s.toList) = true := by assumption
    go_ret
    refine ⟨?_, rfl⟩
    have e : s.data.toList = [c] := by rw [← Lib.toList_data]; exact (beq_iff_eq.1 h).symm
    rw [e]
    simp [Lib.indexByte]
  · go_ret
    exact ⟨rfl, rfl⟩

/-- Cut at the byte 10: the text before the first one. -/
def CutPost (s : ByteArray) (n : Nat) (w : World) (e : Ending) (w' : World) : Prop :=
  ∃ (t : ByteArray) (b : Bool), e = .returned (.tuple #[.string (s.extract 0 n), .string t, .bool b]) ∧ Below w.heap.size w w'
set_option maxRecDepth 100000 in
set_option maxHeartbeats 2000000 in
theorem cut_lite (s : ByteArray) (n : Nat) (w : World) (hs : s.size ≤ 100000) (h : Fst10 s n) :
    Calls Tryz.prog 119 #[.string s, .string ⟨#[10]⟩] w (CutPost s n w) := by
  rcases fst10_index h with ⟨h1, h2⟩ | ⟨h1, h2⟩
  · have cI := fun W => index_one s 10 W
    rw [h2] at cI
    have CI := Lib.hid cI
    have he : s.extract 0 n = s := by rw [h1]; exact ByteArray.extract_zero_size
    have HE := Lib.hid he
    clear h1 h2 cI he h
    go_enter Tryz.func119, Tryz.ntmps119
    go_wp2_with fail
    refine (CI.out _).mono ?_
    rintro e w' ⟨rfl, rfl⟩
    go_wp2
    go_ret3
    exact ⟨⟨#[]⟩, false, by rw [HE.out]; rfl, Below.refl _ _⟩
  · have cI := fun W => index_one s 10 W
    rw [h2] at cI
    have CI := Lib.hid cI
    have g0 : (0 : Int) ≤ (n : Int) := by omega
    have g1 : (n : Int) ≤ (s.size : Int) := by omega
    have g2 : (n : Int) + 1 ≤ (s.size : Int) := by omega
    have g3 : (0 : Int) ≤ (n : Int) + 1 := by omega
    have hwr : IntKind.i64.wrap ((n : Int) + 1) = (n : Int) + 1 := by simp [IntKind.wrap, IntKind.signed, IntKind.bits]; omega
    have htn : ((n : Int) + 1).toNat = n + 1 := by omega
    clear h2 cI h
    go_enter Tryz.func119, Tryz.ntmps119
    go_wp2_with fail
    refine (CI.out _).mono ?_
    rintro e w' ⟨rfl, rfl⟩
    go_wp2_with fail
    go_quiet (fail)
    go_wp2
    go_ret3
    exact ⟨_, _, rfl, below_drewN (Below.refl _ _) _⟩
set_option maxRecDepth 100000 in
theorem cut_any (s : ByteArray) (n : Nat) (w : World) (hs : s.size ≤ 100000) (h : Fst10 s n) :
    Calls Tryz.prog 110 #[.string s, .string ⟨#[10]⟩] w (CutPost s n w) := by
  go_enter Tryz.func110, Tryz.ntmps110
  go_wp2_with fail
  refine (cut_lite s n _ hs h).mono ?_
  rintro e w' ⟨t, b, rfl, hb⟩
  go_wp2
  go_ret3
  exact ⟨_, _, rfl, hb⟩

end Go.Proofs.YtkehgoailhpenaaGreat

/- The contract of the reference's Offset. Conditions: texts of at most 100000 bytes. -/
namespace Go.Proofs.YtkehgoailhpenaaGreat
open Go.RowKit Go.Shelf
set_option linter.unusedVariables false

theorem lf_bord {Z : List Int} {i : Nat} (hi : i ≤ Z.length) : ∃ U, Bord Z (lf Z i).2 U := by
  induction i with
  | zero => exact ⟨0, Bord.zero _⟩
  | succ i ih =>
    by_cases h10 : ab Z i = 10
    · rw [lf_nl h10]
      obtain ⟨U, hU⟩ := nl_bord (by omega) h10
      have hne : Z.drop i ≠ [] := by intro e; have := congrArg List.length e; rw [List.length_drop] at this; simp at this; omega
      have := hU.snoc hne
      rw [chr_ascii (by rw [drop_zero_ab, h10]; decide)] at this
      exact ⟨_, this⟩
    · rw [lf_no h10]; exact ih (by omega)
/-- Offsets in the line that begins at g and ends at t. -/
theorem pos_in_line {Z : List Int} {g t k j u : Nat} (hg : lf Z g = (k, g)) (ht : lf Z t = (k, g)) (htl : t ≤ Z.length) (hj : g + j ≤ t) (h : Bord (Z.drop g) j u) : Pos Z (g + j) k u := by
  obtain ⟨U, hU⟩ := lf_bord (Z := Z) (i := g) (by omega)
  rw [hg] at hU
  have hl : lf Z (g + j) = lf Z g := by
    refine lf_line j ?_
    have m1 := lf_mono Z g j
    obtain ⟨n, rfl⟩ : ∃ n, t = g + j + n := ⟨t - (g + j), by omega⟩
    have m2 := lf_mono Z (g + j) n
    rw [ht] at m2
    rw [hg] at m1 ⊢
    simp only at m1 m2 ⊢
    omega
  refine ⟨⟨_, hU.add h⟩, by rw [hl, hg], ?_⟩
  rw [hl, hg, Nat.add_sub_cancel_left]
  exact h
theorem bord_in_line {Z : List Int} {g t k o u v : Nat} (ht : lf Z t = (k, g)) (he : Eol Z t k v) (h : Pos Z o k u) : g ≤ o ∧ o ≤ t ∧ Bord ((Z.drop g).take (t - g)) (o - g) u := by
  have hs := h.same he.1
  have hb := h.2.2
  have hle := (lf_le Z o).1
  rw [hs, ht] at hb hle
  obtain ⟨E, v', h1, h2, _⟩ := h.eol
  obtain ⟨rfl, _⟩ := h1.det he
  exact ⟨hle, h2, hb.of_take (by omega)⟩
theorem bordI_at {X : List Int} {i : Nat} (h : i < (bordI X).length) : ∃ b u, (bordI X)[i]?.getD 0 = ((b : Nat) : Int) ∧ Bord X b u := by
  have h2 : i < (bords 0 X).length := by simpa [bordI] using h
  obtain ⟨j, u, hb, he⟩ := mem_bords.1 (List.getElem_mem h2)
  exact ⟨j, u, by simp [bordI, h2, he], hb⟩
theorem bordI_has {X : List Int} {j u : Nat} (h : Bord X j u) : ∃ i, i < (bordI X).length ∧ (bordI X)[i]?.getD 0 = ((j : Nat) : Int) := by
  obtain ⟨i, hi, he⟩ := List.mem_iff_getElem.1 (mem_bordI.2 ⟨u, h⟩)
  exact ⟨i, hi, by simp [hi, he]⟩
theorem bordI_len (X : List Int) : (bordI X).length ≤ X.length + 1 := by have := bords_len 0 X; simp [bordI]; omega
/-- What the line that begins at g and ends at t tells of Offset. -/
theorem line_spec {Z : List Int} {g t k v x : Nat} (hgt : g ≤ t) (htl : t ≤ Z.length) (hg : lf Z g = (k, g)) (ht : lf Z t = (k, g)) (he : Eol Z t k v) :
    (v < x → OffSpec Z (k : Int) (x : Int) 0 5) ∧
    (∀ j u, Bord ((Z.drop g).take (t - g)) j u → g + j ≤ t ∧ unis ((Z.drop g).take j) = u ∧ (u = x → OffSpec Z (k : Int) (x : Int) (g + j) 0)) ∧
    (x ≤ v → (∀ j u, Bord ((Z.drop g).take (t - g)) j u → u ≠ x) → OffSpec Z (k : Int) (x : Int) 0 1) := by
  have hbe : Bord (Z.drop g) (t - g) v := by have := he.1.2.2; rwa [ht] at this
  refine ⟨fun hv => .inr (.inr ⟨rfl, rfl, ?_⟩), fun j u hj => ?_, fun hv hno => .inr (.inl ⟨rfl, rfl, k, x, t, v, rfl, rfl, he, hv, ?_⟩)⟩
  · rintro ⟨l', u', E, v', hl, hu, h1, h2⟩
    obtain rfl : k = l' := by omega
    obtain ⟨_, rfl⟩ := he.det h1
    omega
  · have hjl := hj.le
    rw [List.length_take] at hjl
    have hb := hbe.of_take_back hj
    refine ⟨by omega, hb.unis_take, ?_⟩
    rintro rfl
    exact .inl ⟨rfl, k, u, rfl, rfl, pos_in_line hg ht htl (by omega) hb⟩
  · rintro ⟨o, ho⟩
    obtain ⟨h1, h2, h3⟩ := bord_in_line ht he ho
    exact hno _ _ h3 rfl
/-- A call of Offset returns what it should, and what lay lies as it lay. -/
def OffPost (s : ByteArray) (l u : Int) (w : World) (e : Ending) (w' : World) : Prop :=
  ∃ (o : Nat) (er : Int), e = .returned (.tuple #[.int .i64 (o : Int), .int .i64 er]) ∧ OffSpec (sb s) l u o er ∧ Below w.heap.size w w'

set_option maxRecDepth 100000 in
set_option maxHeartbeats 4000000 in
theorem roff_any (s : ByteArray) (l u : Int) (w : World) (hs : s.size ≤ 100000) (hl2 : l ≤ 9223372036854775807) :
    Calls Tryz.prog 83 #[.string s, .agg #[.int .i64 l, .int .i64 u]] w (OffPost s l u w) := by
  obtain ⟨W1, hW1⟩ : ∃ W, w.alloc (.cells #[.int .i64 l, .int .i64 u] 24) = W := ⟨_, rfl⟩
  have bR : Blk W1 w.heap.size 24 #[.int .i64 l, .int .i64 u] := by rw [← hW1]; exact Blk.new _ _ _
  have hb1 : Below w.heap.size w W1 := by rw [← hW1]; exact (Below.refl _ _).alloc (Nat.le_refl _) _
  have cL := rlines_any s W1 hs
  obtain ⟨nL, hnL⟩ : ∃ n, (lns (sb s)).length = n := ⟨_, rfl⟩
  have hnl2 : nL ≤ 100001 := by have := lnsF_len 0 (sb s); rw [sb_len] at this; rw [← hnL]; simp [lns]; omega
  have CL := Lib.hid cL; have HB := Lib.hid (And.intro bR hb1); have HW := Lib.hid hW1; have HNL := Lib.hid hnL
  clear cL bR hb1 hW1 hnL
  go_enter Tryz.func83, Tryz.ntmps83
  go_wp2_with fail
  rw [show w.alloc (.cells #[.int .i64 l, .int .i64 u] 24) = W1 from HW.out]
  refine CL.out.mono ?_
  rintro e w2 h2
  obtain ⟨A2, k2, rfl, row2, b2⟩ := row_of_new h2
  rw [HNL.out] at row2 ⊢
  have bR2 := HB.out.1.same (b2.block _ HB.out.1.lt)
  have c0 := bR2.cell 0; have c1 := bR2.cell 1
  simp at c0 c1
  have hcap := row2.sli.le
  have hmx := row2.sli.mx
  rw [HNL.out] at hcap
  have hRW := HB.out.1.lt
  have H2 : Hid (Row .i64 3 W1.heap.size w2.heap.size w2 A2 nL k2 (lns (sb s)) ∧ Below w.heap.size w w2) := ⟨row2, HB.out.2.trans (b2.mono (by omega))⟩
  clear h2 row2 b2 bR2 CL
  by_cases hbad : l < 0 ∨ u < 0 ∨ (nL : Int) ≤ l
  · have hways : l < 0 ∨ (¬ l < 0 ∧ u < 0) ∨ (¬ l < 0 ∧ ¬ u < 0 ∧ (nL : Int) ≤ l) := by omega
    have hspec : OffSpec (sb s) l u 0 5 := by
      refine .inr (.inr ⟨rfl, rfl, ?_⟩)
      rintro ⟨l', u', E, v, rfl, rfl, he, _⟩
      rcases hbad with h | h | h
      · omega
      · omega
      · exact no_line (by rw [HNL.out]; omega) he.1
    have HS := Lib.hid hspec
    clear hbad hspec
    rcases hways with h1 | ⟨h1, h2⟩ | ⟨h1, h2, h3⟩
    all_goals
      go_wp2
      go_ret2
      exact ⟨0, 5, rfl, HS.out, H2.out.2⟩
  · obtain ⟨k, rfl⟩ : ∃ k : Nat, l = (k : Int) := ⟨l.toNat, by omega⟩
    obtain ⟨x, rfl⟩ : ∃ x : Nat, u = (x : Int) := ⟨u.toNat, by omega⟩
    have hk : k < nL := by omega
    have n1 : ¬ (k : Int) < 0 := by omega
    have n2 : ¬ (x : Int) < 0 := by omega
    have n3 : ¬ (nL : Int) ≤ (k : Int) := by omega
    obtain ⟨g, t, q1, q2, q3, q4, q5, q6, q7, q8⟩ := line_at (Z := sb s) (k := k) (by rw [HNL.out]; exact hk)
    obtain ⟨gA, hA2, _, hgA, hck, _⟩ := H2.out.1.at_ (j := k) hk
    rw [q1] at hck
    subst hA2
    rw [sb_len] at q3
    obtain ⟨v, hv⟩ : ∃ v, unis (((sb s).drop g).take (t - g)) = v := ⟨_, rfl⟩
    rw [hv] at q6
    have cU := fun W => runits_any (s.extract g t) W (by rw [ByteArray.size_extract]; omega)
    rw [sb_extract, hv] at cU
    have CU := Lib.hid cU
    obtain ⟨sp1, sp2, sp3⟩ := line_spec (x := x) q2 (by rw [sb_len]; exact q3) q4 q5 q6
    have cB := fun W => rborders_any (s.extract g t) W (by rw [ByteArray.size_extract]; omega)
    rw [sb_extract] at cB
    obtain ⟨X, hX⟩ : ∃ X, ((sb s).drop g).take (t - g) = X := ⟨_, rfl⟩
    rw [hX] at sp2 sp3 cB
    have hXl : X.length ≤ s.size := by rw [← hX, List.length_take, List.length_drop, sb_len]; omega
    have hsp2 : ∀ j u, Bord X j u → g + j ≤ s.size ∧ unis (sb (s.extract g (g + j))) = u ∧ (u = x → OffSpec (sb s) (k : Int) (x : Int) (g + j) 0) := by
      intro j u hj
      obtain ⟨y1, y2, y3⟩ := sp2 j u hj
      exact ⟨by omega, by rw [sb_extract, Nat.add_sub_cancel_left]; exact y2, y3⟩
    have SP1 := Lib.hid sp1; have SP2 := Lib.hid hsp2; have SP3 := Lib.hid sp3; have CB := Lib.hid cB
    have hvb : v ≤ 300000 := by rw [← hv]; have := unis_le (((sb s).drop g).take (t - g)); rw [hX] at this ⊢; omega
    have hgt : (g : Int) ≤ (t : Int) := by omega
    have hts : (t : Int) ≤ (s.size : Int) := by omega
    clear hbad cU q1 q4 q5 q6 hv sp1 sp2 sp3 hsp2 cB hX
    by_cases hl : k + 1 < nL
    case' pos =>
      obtain ⟨gA', hA2', _, _, hck2, _⟩ := H2.out.1.at_ (j := k + 1) hl
      rw [q7 (by rw [HNL.out]; exact hl)] at hck2
      simp only [Option.some.injEq, Addr.mk.injEq, and_true] at hA2'
      subst hA2'
      have hkl : (k : Int) + 1 < (nL : Int) := by omega
      push_cast at hck2
      clear q7 q8
      go_wp2_with fail
    case' neg =>
      have ht := q8 (by rw [HNL.out]; exact hl)
      rw [sb_len] at ht
      subst ht
      have hkl : ¬ (k : Int) + 1 < (nL : Int) := by omega
      clear q7 q8
      go_wp2_with fail
    all_goals
      go_quiet (first | (go_at_call 79; refine Calls.quiet_of_same ((CU.out _).mono (fun _ _ h => ⟨h.1, h.2.symm⟩))))
      by_cases hxv : v < x
      · have HS := Lib.hid (SP1.out hxv)
        have hxv' : (v : Int) < (x : Int) := by omega
        go_wp2
        go_ret2
        exact ⟨0, 5, rfl, HS.out, below_drewN H2.out.2 _⟩
      · have hxv' : ¬ (v : Int) < (x : Int) := by omega
        go_wp2_with fail
        refine (CB.out _).mono ?_
        rintro e w4 h4
        obtain ⟨A4, k4, rfl, row4, b4⟩ := row_of_new h4
        obtain ⟨nB, hnB⟩ : ∃ n, (bordI X).length = n := ⟨_, rfl⟩
        rw [hnB] at row4 ⊢
        have hnb2 : nB ≤ 100001 := by have := bordI_len X; omega
        have hcap4 := row4.sli.le
        have hmx4 := row4.sli.mx
        rw [hnB] at hcap4
        have d0 := (b4.cell (p := ⟨w.heap.size, 0, none⟩) (by have := H2.out.2.size; have := hgA; show w.heap.size < w2.heap.size; omega)).trans c0
        have d1 := (b4.cell (p := ⟨w.heap.size, 1, none⟩) (by show w.heap.size < w2.heap.size; omega)).trans c1
        have dk := (b4.cell (p := ⟨gA, k, none⟩) (by show gA < w2.heap.size; omega)).trans hck
        have H4 : Hid (Row .i64 3 w2.heap.size w4.heap.size w4 A4 nB k4 (bordI X) ∧ Below w.heap.size w w4) := ⟨row4, (below_drewN H2.out.2 _).trans (b4.mono (by have := H2.out.2.size; show w.heap.size ≤ w2.heap.size; omega))⟩
        have hs4 := b4.size
        have hs4' : w2.heap.size ≤ w4.heap.size := hs4
        have HNB := Lib.hid hnB
        clear h4 row4 b4 c0 c1 hck hs4 hnB
        go_wp2_with fail
        go_loopw [9] (fun q wr => ∃ i : Nat, i ≤ nB ∧ q = .int .i64 (i : Int) ∧ Hid (∀ i', i' < i → ∀ b y : Nat, (bordI X)[i']?.getD 0 = (b : Int) → Bord X b y → y ≠ x) ∧ Hid (Below w4.heap.size w4 wr)) (fun q _ => nB - (intOf q).toNat)
        case atStart => exact ⟨0, Nat.zero_le _, rfl, Lib.hid (fun i' h => by omega), Below.refl _ _⟩
        case round =>
          obtain ⟨i, hi, rfl, HI, HRB⟩ := hrel
          by_cases hlt : i < nB
          · obtain ⟨b, y, hb1, hb2⟩ := bordI_at (X := X) (i := i) (by rw [HNB.out]; exact hlt)
            obtain ⟨hg1, hg2, hg3⟩ := SP2.out b y hb2
            obtain ⟨gB, hAB, _, hgB, hcb, _⟩ := H4.out.1.at_ (j := i) hlt
            rw [hb1] at hcb
            subst hAB
            have e0 := (HRB.out.cell (p := ⟨w.heap.size, 0, none⟩) (by show w.heap.size < w4.heap.size; omega)).trans d0
            have e1 := (HRB.out.cell (p := ⟨w.heap.size, 1, none⟩) (by show w.heap.size < w4.heap.size; omega)).trans d1
            have ek := (HRB.out.cell (p := ⟨gA, k, none⟩) (by show gA < w4.heap.size; omega)).trans dk
            have eb := (HRB.out.cell (p := ⟨gB, i, none⟩) hgB).trans hcb
            have cU2 := fun W => runits_any (s.extract g (g + b)) W (by rw [ByteArray.size_extract]; omega)
            rw [hg2] at cU2
            have CU2 := Lib.hid cU2
            have hwr : IntKind.i64.wrap ((g : Int) + (b : Int)) = (g : Int) + (b : Int) := by simp [IntKind.wrap, IntKind.signed, IntKind.bits]; omega
            have htn : ((g : Int) + (b : Int)).toNat = g + b := by omega
            have hz1 : (g : Int) ≤ (g : Int) + (b : Int) := by omega
            have hz2 : (g : Int) + (b : Int) ≤ (s.size : Int) := by omega
            have hz3 : (0 : Int) ≤ (g : Int) + (b : Int) := by omega
            have hii : (i : Int) < (nB : Int) := by omega
            have HB1 := Lib.hid hb1; have HB2 := Lib.hid hb2; have HG3 := Lib.hid hg3
            clear hcb cU2 hb1 hb2 hg2 hg3 d0 d1 dk
            by_cases hyx : y = x
            · have hq : ((y : Int) == (x : Int)) = true := by simp; omega
              have HS := Lib.hid (HG3.out hyx)
              go_wp2_with fail
              go_quiet (first | (go_at_call 79; refine Calls.quiet_of_same ((CU2.out _).mono (fun _ _ h => ⟨h.1, h.2.symm⟩))))
              go_wp2_with fail
              go_quiet (fail)
              go_wp2
              go_ret2
              exact ⟨g + b, 0, by push_cast; rfl, HS.out, below_drewN (below_drewN (H4.out.2.trans (HRB.out.mono (by omega))) _) _⟩
            · have hq : ((y : Int) == (x : Int)) = false := by simp; omega
              have HI2 : Hid (∀ i', i' < i + 1 → ∀ b y : Nat, (bordI X)[i']?.getD 0 = (b : Int) → Bord X b y → y ≠ x) := by
                intro i' hi' b' y' h1 h2
                by_cases e : i' = i
                · subst e
                  have e1 := HB1.out
                  rw [e1] at h1
                  obtain rfl : b = b' := by omega
                  rw [← HB2.out.det h2]; exact hyx
                · exact HI.out i' (by omega) b' y' h1 h2
              go_wp2_with fail
              go_quiet (first | (go_at_call 79; refine Calls.quiet_of_same ((CU2.out _).mono (fun _ _ h => ⟨h.1, h.2.symm⟩))))
              go_wp2
              go_roundw
              case rel => exact ⟨i + 1, by omega, by go_num, HI2, below_drewN HRB.out _⟩
              case measure => simp [intOf]; omega
          · obtain rfl : nB = i := by omega
            have hno : ∀ j y, Bord X j y → y ≠ x := by
              intro j y hj
              obtain ⟨i', h1, h2⟩ := bordI_has hj
              exact HI.out i' (by rw [← HNB.out]; exact h1) j y h2 hj
            have HS := Lib.hid (SP3.out (by omega) hno)
            clear hno
            go_wp2
            go_ret2
            exact ⟨0, 1, rfl, HS.out, H4.out.2.trans (HRB.out.mono (by omega))⟩

end Go.Proofs.YtkehgoailhpenaaGreat

/- The contract of the program's Offset. Conditions: texts of at most 100000 bytes. -/
namespace Go.Proofs.YtkehgoailhpenaaGreat
open Go.RowKit Go.Shelf
set_option linter.unusedVariables false

set_option maxRecDepth 100000 in
set_option maxHeartbeats 2000000 in
theorem poff_any (s : ByteArray) (l u : Int) (w : World) (hs : s.size ≤ 100000) (hl2 : -9223372036854775808 ≤ l ∧ l ≤ 9223372036854775807) (hu2 : -9223372036854775808 ≤ u ∧ u ≤ 9223372036854775807) :
    Calls Tryz.prog 94 #[.string s, .agg #[.int .i64 l, .int .i64 u]] w (OffPost s l u w) := by
  obtain ⟨W1, hW1⟩ : ∃ W, w.alloc (.cells #[.int .i64 l, .int .i64 u] 24) = W := ⟨_, rfl⟩
  have bR : Blk W1 w.heap.size 24 #[.int .i64 l, .int .i64 u] := by rw [← hW1]; exact Blk.new _ _ _
  have hb1 : Below w.heap.size w W1 := by rw [← hW1]; exact (Below.refl _ _).alloc (Nat.le_refl _) _
  have cL := plines_any s W1 hs
  obtain ⟨nL, hnL⟩ : ∃ n, (lns (sb s)).length = n := ⟨_, rfl⟩
  have hnl2 : nL ≤ 100001 := by have := lnsF_len 0 (sb s); rw [sb_len] at this; rw [← hnL]; simp [lns]; omega
  have CL := Lib.hid cL; have HB := Lib.hid (And.intro bR hb1); have HW := Lib.hid hW1; have HNL := Lib.hid hnL
  clear cL bR hb1 hW1 hnL
  go_enter Tryz.func94, Tryz.ntmps94
  go_wp2_with fail
  rw [show w.alloc (.cells #[.int .i64 l, .int .i64 u] 24) = W1 from HW.out]
  refine CL.out.mono ?_
  rintro e w2 h2
  obtain ⟨A2, k2, rfl, row2, b2⟩ := row_of_new h2
  rw [HNL.out] at row2 ⊢
  obtain ⟨X, hX⟩ : ∃ X, w.heap.size = X := ⟨_, rfl⟩
  have hcell : ∀ W, Below w2.heap.size w2 W → W.cell? ⟨X, 0, none⟩ = some (.int .i64 l) ∧ W.cell? ⟨X, 1, none⟩ = some (.int .i64 u) := by
    intro W hW
    have h1 := HB.out.1.same (b2.block _ HB.out.1.lt)
    rw [hX] at h1
    have h2 := h1.same (hW.block X h1.lt)
    exact ⟨by simpa using h2.cell 0, by simpa using h2.cell 1⟩
  obtain ⟨c0, c1⟩ := hcell w2 (Below.refl _ _)
  have hcap := row2.sli.le
  have hmx := row2.sli.mx
  rw [HNL.out] at hcap
  have hRW := HB.out.1.lt
  have hbX : Below X w w2 := by rw [← hX]; exact HB.out.2.trans (b2.mono (by omega))
  have H2 : Hid (Row .i64 3 W1.heap.size w2.heap.size w2 A2 nL k2 (lns (sb s)) ∧ Below X w w2) := ⟨row2, hbX⟩
  have HX := Lib.hid hX; have HC := Lib.hid hcell
  rw [HX.out]
  clear h2 row2 b2 CL hbX hX hcell
  by_cases hbad : l < 0 ∨ (nL : Int) ≤ l
  · have hways : l < 0 ∨ (¬ l < 0 ∧ (nL : Int) ≤ l) := by omega
    have hspec : OffSpec (sb s) l u 0 5 := by
      refine .inr (.inr ⟨rfl, rfl, ?_⟩)
      rintro ⟨l', u', E, v, rfl, rfl, he, _⟩
      rcases hbad with h | h
      · omega
      · exact no_line (by rw [HNL.out]; omega) he.1
    have HS := Lib.hid hspec
    clear hbad hspec
    rcases hways with h1 | ⟨h1, h3⟩
    all_goals
      go_wp2
      go_ret2
      exact ⟨0, 5, rfl, HS.out, by rw [HX.out]; exact H2.out.2⟩
  · obtain ⟨k, rfl⟩ : ∃ k : Nat, l = (k : Int) := ⟨l.toNat, by omega⟩
    have hk : k < nL := by omega
    have n1 : ¬ (k : Int) < 0 := by omega
    have n3 : ¬ (nL : Int) ≤ (k : Int) := by omega
    obtain ⟨g, t, q1, q2, q3, q4, q5, q6, _, _⟩ := line_at (Z := sb s) (k := k) (by rw [HNL.out]; exact hk)
    obtain ⟨gA, hA2, _, hgA, hck, _⟩ := H2.out.1.at_ (j := k) hk
    rw [q1] at hck
    subst hA2
    rw [sb_len] at q3
    have cC := fun W => cut_any (s.extract g s.size) (t - g) W (by rw [ByteArray.size_extract]; omega) (fst10_line q2 q3 q4 q5 q6)
    obtain ⟨T, hT⟩ : ∃ T, s.extract g s.size = T := ⟨_, rfl⟩
    obtain ⟨M, hM⟩ : ∃ M, T.extract 0 (t - g) = M := ⟨_, rfl⟩
    have hMe : M = s.extract g t := by rw [← hM, ← hT]; exact extract_line s q2 q3
    have hMs : M.size ≤ 100000 := by rw [hMe, ByteArray.size_extract]; omega
    obtain ⟨v, hv⟩ : ∃ v, unis (((sb s).drop g).take (t - g)) = v := ⟨_, rfl⟩
    rw [hv] at q6
    have hsb : sb M = ((sb s).drop g).take (t - g) := by rw [hMe, sb_extract]
    have cU := fun W => punits_any M W hMs
    rw [hsb, hv] at cU
    rw [hT] at cC
    unfold CutPost at cC
    rw [hM] at cC
    have HT := Lib.hid hT
    have hvb : v ≤ 300000 := by rw [← hv, ← hsb]; have := unis_le (sb M); rw [sb_len] at this; omega
    have hgs : (g : Int) ≤ (s.size : Int) := by omega
    have CC := Lib.hid cC
    have K1 : Hid (∀ W, Below w2.heap.size w2 W → Calls Tryz.prog 111 #[.string M] W fun e w' => e = .returned (.int .i64 (v : Int)) ∧ Below w2.heap.size w2 w' ∧ w'.cell? ⟨X, 0, none⟩ = some (.int .i64 (k : Int)) ∧ w'.cell? ⟨X, 1, none⟩ = some (.int .i64 u)) := by
      intro W hW
      refine (cU W).mono ?_
      rintro e w' ⟨rfl, hb⟩
      have hbb := hW.trans (hb.mono hW.size)
      exact ⟨rfl, hbb, HC.out _ hbb⟩
    clear hT cC cU
    by_cases hu : u < 0
    · have hspec : OffSpec (sb s) (k : Int) u 0 5 := .inr (.inr ⟨rfl, rfl, by rintro ⟨l', u', E, v', _, hu', _, _⟩; omega⟩)
      have HS := Lib.hid hspec
      clear hspec q1 q4 q5 q6 hv hM hMe hsb
      go_wp2_with fail
      rw [show s.extract g s.size = T from HT.out]
      refine (CC.out _).mono ?_
      rintro e w3 ⟨t3, b3, rfl, bb3⟩
      have hd := HC.out w3 bb3
      obtain ⟨d0, d1⟩ := hd
      have B3 := Lib.hid bb3
      clear bb3 c0 c1 hck
      go_wp2_with fail
      go_quiet (fail)
      go_wp2
      go_ret2
      exact ⟨0, 5, rfl, HS.out, by rw [HX.out]; exact below_drewN (H2.out.2.trans (B3.out.mono (by have := H2.out.2.size; have := HX.out; omega))) _⟩
    · obtain ⟨x, rfl⟩ : ∃ x : Nat, u = (x : Int) := ⟨u.toNat, by omega⟩
      have n2 : ¬ (x : Int) < 0 := by omega
      obtain ⟨sp1, sp2, sp3⟩ := line_spec (x := x) q2 (by rw [sb_len]; exact q3) q4 q5 q6
      rw [← hsb] at sp2 sp3
      have cS := fun W => skip_any M x W hMs (by omega)
      have SP1 := Lib.hid sp1; have SP2 := Lib.hid sp2; have SP3 := Lib.hid sp3; have CS := Lib.hid cS
      clear hu q1 q4 q5 q6 hv hM hMe hsb sp1 sp2 sp3 cS
      go_wp2_with fail
      rw [show s.extract g s.size = T from HT.out]
      refine (CC.out _).mono ?_
      rintro e w3 ⟨t3, b3, rfl, bb3⟩
      have hd := HC.out w3 bb3
      obtain ⟨d0, d1⟩ := hd
      have B3 := Lib.hid bb3
      have b0 : Below w2.heap.size w2 w3.drew := bb3.drew
      clear bb3 c0 c1 hck
      by_cases hxv : v < x
      · have HS := Lib.hid (SP1.out hxv)
        have hxv' : (v : Int) < (x : Int) := by omega
        go_wp2_with fail
        go_region_held3 (fun w' => w'.cell? ⟨X, 1, none⟩ = some (.int .i64 (x : Int))) (first | exact e1 | exact d1)
          (first | (go_at_call 111; refine (K1.out _ b0).mono ?_; rintro e wA ⟨rfl, bA, e0, e1⟩))
        all_goals
          have BA := Lib.hid bA
          clear bA
          go_wp2
          go_ret2
          exact ⟨0, 5, rfl, HS.out, by rw [HX.out]; exact H2.out.2.trans ((BA.out.mono (by have := H2.out.2.size; have := HX.out; omega)))⟩
      · have hxv' : ¬ (v : Int) < (x : Int) := by omega
        go_wp2_with fail
        go_region_held3 (fun w' => w'.cell? ⟨X, 1, none⟩ = some (.int .i64 (x : Int))) (first | exact e1 | exact d1)
          (first | (go_at_call 111; refine (K1.out _ b0).mono ?_; rintro e wA ⟨rfl, bA, e0, e1⟩))
        all_goals
          have BA := Lib.hid bA
          clear bA
          go_wp2_with fail
          refine (CS.out _).mono ?_
          rintro e w5 ⟨n, b, rfl, hsk, b5⟩
          have B5 : Hid (Below X w w5) := H2.out.2.trans ((BA.out.mono (by have := H2.out.2.size; have := HX.out; omega)).trans (b5.mono (by have := BA.out.size; have := H2.out.2.size; have := HX.out; omega)))
          clear b5
          cases b with
          | true =>
            obtain ⟨y1, y2, y3⟩ := SP2.out n x (hsk.2.1 rfl)
            have HS := Lib.hid (y3 rfl)
            clear y2 y3 hsk
            go_wp2
            go_ret2
            exact ⟨g + n, 0, by push_cast; rfl, HS.out, by rw [HX.out]; exact B5.out⟩
          | false =>
            have HS := Lib.hid (SP3.out (by omega) (fun j y hj hy => hsk.2.2 rfl ⟨j, by rw [← hy]; exact hj⟩))
            clear hsk
            go_wp2
            go_ret2
            exact ⟨0, 1, rfl, HS.out, by rw [HX.out]; exact B5.out⟩

end Go.Proofs.YtkehgoailhpenaaGreat

/- The contract of the program's conversion of the two positions of an edit. Conditions: texts of at most 100000 bytes. -/
namespace Go.Proofs.YtkehgoailhpenaaGreat
open Go.RowKit Go.Shelf
set_option linter.unusedVariables false

/-- A number of 64 bits. -/
def I64n (n : Int) : Prop := -9223372036854775808 ≤ n ∧ n ≤ 9223372036854775807
set_option maxRecDepth 100000 in
set_option maxHeartbeats 1000000 in
theorem one_pos (s : ByteArray) (Bs : Nat) (l u : Int) (o : Nat) (er : Int) (w : World) (hs : s.size ≤ 100000) (hl : I64n l) (hu : I64n u) (hbs : Boxed w Bs 9 (.string s)) (h : OffSpec (sb s) l u o er) :
    Calls Tryz.prog 93 #[.agg #[.int .i64 l, .int .i64 u], .pointer (some ⟨Bs, 0, none⟩)] w fun e w' => e = .returned (.tuple #[.int .i64 (o : Int), .int .i64 er]) ∧ Below w.heap.size w w' := by
  have c2 := (hbs.alloc (.cells #[.int .i64 l, .int .i64 u] 24)).cell
  have hb0 : Below w.heap.size w (w.alloc (.cells #[.int .i64 l, .int .i64 u] 24)) := (Below.refl _ _).alloc (Nat.le_refl _) _
  have C := Lib.hid (fun W => poff_any s l u W hs hl hu)
  have HH := Lib.hid h; have HB0 := Lib.hid hb0
  clear h hb0 hbs
  go_enter Tryz.func93, Tryz.ntmps93
  go_wp2_with fail
  refine (C.out _).mono ?_
  rintro e w' ⟨o', er', rfl, hsp, hb⟩
  obtain ⟨rfl, rfl⟩ := HH.out.det hsp
  have H1 : Hid (Below w.heap.size w w') := HB0.out.trans (hb.mono (by simp))
  clear hsp hb
  go_wp2
  go_ret2
  exact ⟨rfl, H1.out⟩

set_option maxRecDepth 100000 in
set_option maxHeartbeats 2000000 in
theorem two_pos (s : ByteArray) (Q Bs : Nat) (l u : Nat → Int) (o : Nat → Nat) (er : Nat → Int) (w : World) (hs : s.size ≤ 100000) (hl : ∀ k, I64n (l k) ∧ I64n (u k))
    (hq : Blk w Q 24 #[.int .i64 (l 0), .int .i64 (u 0), .int .i64 (l 1), .int .i64 (u 1)]) (hbs : Boxed w Bs 9 (.string s)) (h : ∀ k, k < 2 → OffSpec (sb s) (l k) (u k) (o k) (er k)) :
    Calls Tryz.prog 92 #[.slice (some ⟨Q, 0, none⟩) 2 2, .func (.func 93) #[] #[.pointer (some ⟨Bs, 0, none⟩)]] w fun e w' => Below w.heap.size w w' ∧
      ((∃ k, k < 2 ∧ er k ≠ 0 ∧ (∀ j, j < k → er j = 0) ∧ e = .returned (.tuple #[.slice none 0 0, .int .i64 (er k)])) ∨
       (er 0 = 0 ∧ er 1 = 0 ∧ ∃ g, e = .returned (.tuple #[.slice (some ⟨g, 0, none⟩) 2 2, .int .i64 0]) ∧ w'.cell? ⟨g, 0, none⟩ = some (.int .i64 (o 0 : Int)) ∧ w'.cell? ⟨g, 1, none⟩ = some (.int .i64 (o 1 : Int)))) := by
  obtain ⟨i3, hi3, hy0, hy1, hy2⟩ := info_parts info3
  obtain ⟨B, hB⟩ : ∃ B, w.heap.size = B := ⟨_, rfl⟩
  have hQB : Q < B := by rw [← hB]; exact hq.lt
  have hBB : Bs < B := by rw [← hB]; exact hbs.lt
  have hcell : ∀ k, k < 2 → ∀ W, Below B w W → W.cell? ⟨Q, k * 2, none⟩ = some (.int .i64 (l k)) ∧ W.cell? ⟨Q, k * 2 + 1, none⟩ = some (.int .i64 (u k)) ∧ Boxed W Bs 9 (.string s) := by
    intro k hk W hW
    have h1 := hq.same (hW.block Q hQB)
    have h2 : Boxed W Bs 9 (.string s) := (hW.block Bs hBB).trans hbs
    have : k = 0 ∨ k = 1 := by omega
    rcases this with rfl | rfl
    · exact ⟨by simpa using h1.cell 0, by simpa using h1.cell 1, h2⟩
    · exact ⟨by simpa using h1.cell 2, by simpa using h1.cell 3, h2⟩
  have HC := Lib.hid hcell; have HB := Lib.hid hB; have HS := Lib.hid h; have HL := Lib.hid hl
  clear hcell hB h hl hq hbs
  go_enter Tryz.func92, Tryz.ntmps92
  go_wp2_with (at_make; refine wpList_make_full _ rfl _ _ 22 rfl w.heap.size 3 i3 (.int .i64 0) 1 Tryz.underlying22 hi3 hy0 hy1 .i64 .i64 _ _ 2 rfl rfl rfl rfl (by rw [hy2]; omega) (by unfold maxLen; omega) (Nat.le_refl _) ?_; intro w1 hown1 hgrow1)
  have H1 : Hid (Row .i64 3 B w1.heap.size w1 (some ⟨B, 0, none⟩) 2 2 [0, 0] ∧ Below B w w1) := by
    rw [HB.out, show (madeCells (Value.int IntKind.i64 0).cells (2 * 1)).toList = List.map (Value.int .i64) [0, 0] from toList_madeCells_one _ 2] at hown1
    exact ⟨row_of_own hown1, (Below.refl _ _).grown hgrow1 (by rw [HB.out]; exact Nat.le_refl _) (fun k e => by cases e)⟩
  rw [HB.out]
  clear hown1 hgrow1
  go_loopw [16] (fun q wr => ∃ (k : Nat) (xs : List Int), k ≤ 2 ∧ q = .int .i64 (k : Int) ∧ Hid (∀ j, j < k → er j = 0 ∧ xs[j]?.getD 0 = (o j : Int)) ∧ Hid (Row .i64 3 B w1.heap.size wr (some ⟨B, 0, none⟩) 2 2 xs ∧ Below B w wr)) (fun q _ => 2 - (intOf q).toNat)
  case atStart => exact ⟨0, [0, 0], by omega, rfl, Lib.hid (fun j h => by omega), H1⟩
  case round =>
    obtain ⟨k, xs, hk, rfl, HI, HR⟩ := hrel
    by_cases hlt : k < 2
    · obtain ⟨c0, c1, hbx⟩ := HC.out k hlt wr HR.out.2
      have hkk : (k : Int) < 2 := by omega
      have hsz : w1.heap.size ≤ wr.heap.size := HR.out.1.sz
      have hBr : B ≤ wr.heap.size := by have := HR.out.2.size; have := HB.out; omega
      obtain ⟨V, hV⟩ : ∃ V, wr.alloc (.cells #[.int .i64 (l k), .int .i64 (u k)] 24) = V := ⟨_, rfl⟩
      have hbV : Boxed V Bs 9 (.string s) := by rw [← hV]; exact hbx.alloc _
      have cP := one_pos s Bs (l k) (u k) (o k) (er k) V hs (HL.out k).1 (HL.out k).2 hbV (HS.out k hlt)
      rw [← hV] at cP
      have CP := Lib.hid cP
      clear cP hbV hbx hV
      go_wp2_with fail
      refine CP.out.mono ?_
      rintro e w4 ⟨rfl, b4⟩
      have HB4 : Hid (Below wr.heap.size wr w4) := ((Below.refl _ _).alloc (Nat.le_refl _) _).trans (b4.mono (by simp))
      have H4 : Hid (Below B w w4) := HR.out.2.trans (HB4.out.mono hBr)
      have hrow := HR.out.1.below HB4.out hsz
      obtain ⟨g', hA', _, _, hck, hfz, hst⟩ := hrow.at_ (j := k) hlt
      simp only [Option.some.injEq, Addr.mk.injEq, and_true] at hA'
      subst hA'
      have HST := Lib.hid (hst (o k : Int))
      clear b4 hrow hst
      by_cases he : er k = 0
      · have hq : (er k != 0) = false := by simp [he]
        have HE := Lib.hid he
        have HI2 : Hid (∀ j, j < k + 1 → er j = 0 ∧ (xs.set k (o k : Int))[j]?.getD 0 = (o j : Int)) := by
          intro j hj
          by_cases hjk : j = k
          · subst hjk
            have hlen := HR.out.1.len
            exact ⟨HE.out, by rw [List.getElem?_set_self (by omega)]; rfl⟩
          · obtain ⟨h1, h2⟩ := HI.out j (by omega)
            exact ⟨h1, by rw [List.getElem?_set_ne (by omega)]; exact h2⟩
        have H5 : Hid (Row .i64 3 B w1.heap.size (w4.setCell ⟨B, k, none⟩ (.int .i64 (o k : Int))) (some ⟨B, 0, none⟩) 2 2 (xs.set k (o k : Int)) ∧ Below B w (w4.setCell ⟨B, k, none⟩ (.int .i64 (o k : Int)))) :=
          ⟨HST.out.1, H4.out.setCell (p := ⟨B, k, none⟩) (Nat.le_refl _) _⟩
        clear he
        go_wp2
        go_roundw
        case rel => exact ⟨k + 1, _, by omega, by go_num, HI2, H5⟩
        case measure => simp [intOf]; omega
      · have hq : (er k != 0) = true := by simp [he]
        have HE := Lib.hid he
        clear he
        go_wp2
        go_ret2
        exact ⟨by rw [HB.out]; exact H4.out, .inl ⟨k, hlt, HE.out, fun j hj => (HI.out j hj).1, rfl⟩⟩
    · obtain rfl : 2 = k := by omega
      obtain ⟨g0, hA0, _, _, d0, _⟩ := HR.out.1.at_ (j := 0) (by omega)
      obtain ⟨g1, hA1, _, _, d1, _⟩ := HR.out.1.at_ (j := 1) (by omega)
      simp only [Option.some.injEq, Addr.mk.injEq, and_true] at hA0 hA1
      subst hA0 hA1
      rw [(HI.out 0 (by omega)).2] at d0
      rw [(HI.out 1 (by omega)).2] at d1
      have HD := Lib.hid (And.intro d0 d1)
      clear d0 d1
      go_wp2
      go_ret2
      exact ⟨by rw [HB.out]; exact HR.out.2, .inr ⟨(HI.out 0 (by omega)).1, (HI.out 1 (by omega)).1, B, rfl, HD.out.1, HD.out.2⟩⟩

end Go.Proofs.YtkehgoailhpenaaGreat

/- Around hands back an index. Conditions: 1 to 2^42. -/
namespace Go.Proofs.YtkehgoailhpenaaGreat
open Go.RowKit Go.Shelf

/-- Around hands back an index below m. -/
def Index (m : Nat) (w : World) (e : Ending) (w' : World) : Prop := ∃ k : Nat, k < m ∧ e = .returned (.int .i64 (k : Int)) ∧ w = w'
theorem around_any (x : Int) (m : Nat) (w : World) (h1 : -9223372036854775808 ≤ x) (h2 : x ≤ 9223372036854775807) (hm : 1 ≤ m) (hm2 : m ≤ 4398046511104) :
    Calls Tryz.prog 11 #[.int .i64 x, .int .i64 (m : Int)] w (Index m w) := by
  have hm0 : ¬ (m : Int) = 0 := by omega
  by_cases h : x < 0
  · have hq : -(x + 1).tmod (m : Int) = (-(x + 1)) % (m : Int) := by
      rw [← Int.neg_tmod, Int.tmod_eq_emod_of_nonneg (by omega)]
    have h3 := Int.emod_nonneg (-(x + 1)) hm0
    have h4 := Int.emod_lt_of_pos (-(x + 1)) (show (0 : Int) < m by omega)
    have HQ := Lib.hid hq
    have H3 := Lib.hid h3
    have H4 := Lib.hid h4
    clear hq h3 h4
    go_enter Tryz.func11, Tryz.ntmps11
    go_wp2
    go_ret
    refine ⟨((-(x + 1)) % (m : Int)).toNat, by have := H3.out; have := H4.out; omega, ?_, rfl⟩
    rw [Int.toNat_of_nonneg H3.out, ← HQ.out]
    rfl
  · have h3 := Int.emod_nonneg x hm0
    have h4 := Int.emod_lt_of_pos x (show (0 : Int) < m by omega)
    have H3 := Lib.hid h3
    have H4 := Lib.hid h4
    clear h3 h4
    go_enter Tryz.func11, Tryz.ntmps11
    go_wp2
    go_ret
    refine ⟨(x % (m : Int)).toNat, by have := H3.out; have := H4.out; omega, ?_, rfl⟩
    rw [Int.toNat_of_nonneg H3.out]
    rfl

end Go.Proofs.YtkehgoailhpenaaGreat

/- The contract of the reference's Text: a text of whole characters, of at most 96 bytes. It has no conditions. -/
namespace Go.Proofs.YtkehgoailhpenaaGreat
open Go.RowKit Go.Shelf
set_option linter.unusedVariables false

/-- The text consists of whole characters: no byte of it could begin a character together with what follows. -/
inductive Whl : List Int → Prop
  | nil : Whl []
  | cons {Z : List Int} : Z ≠ [] → ((chr Z).1 ≠ 1 ∨ ab Z 0 < 128) → Whl (Z.drop (chr Z).1) → Whl Z
theorem ab_append {A B : List Int} {j : Nat} (h : j < A.length) : ab (A ++ B) j = ab A j := by unfold ab; rw [List.getElem?_append_left h]
theorem bt_append {A B : List Int} {j : Nat} {lo hi : Int} (h : bt A j lo hi = true) : bt (A ++ B) j lo hi = true := by
  have h1 := bt_true h
  unfold bt
  rw [ab_append h1.1, List.length_append]
  simp only [decide_eq_true_eq]
  exact ⟨by omega, h1.2⟩
theorem chr_append {A B : List Int} (hA : A ≠ []) (h : (chr A).1 ≠ 1 ∨ ab A 0 < 128) : chr (A ++ B) = chr A := by
  have h0 : ab (A ++ B) 0 = ab A 0 := ab_append (List.length_pos_iff.2 hA)
  rcases h with h | h
  · have hc : chr A = chr A := rfl
    conv at hc => rhs; unfold chr
    conv => lhs; unfold chr
    rw [h0]
    split at hc
    · rename_i k
      rw [if_pos ⟨k.1, k.2.1, bt_append k.2.2⟩, hc]
    · split at hc
      · rename_i k
        rw [if_neg (fun x => by omega), if_pos ⟨k.1, k.2.1, bt_append k.2.2.1, bt_append k.2.2.2⟩, hc]
      · split at hc
        · rename_i k
          rw [if_neg (fun x => by omega), if_neg (fun x => by omega), if_pos ⟨k.1, k.2.1, bt_append k.2.2.1, bt_append k.2.2.2.1, bt_append k.2.2.2.2⟩, hc]
        · rw [hc] at h; exact absurd rfl h
  · rw [chr_ascii h, chr_ascii (by rw [h0]; exact h)]
theorem Whl.append {A B : List Int} (h : Whl A) (k : Whl B) : Whl (A ++ B) := by
  induction h with
  | nil => exact k
  | @cons Z hz hw _ ih =>
    have hc := chr_append (B := B) hz hw
    have hl := chr_le hz
    refine Whl.cons (by simp [hz]) ?_ ?_
    · rw [hc, ab_append (List.length_pos_iff.2 hz)]; exact hw
    · rw [hc, List.drop_append_of_le_length hl]; exact ih
theorem Bord.append {A B : List Int} {i u : Nat} (h : Bord A i u) (w : Whl A) : Bord (A ++ B) i u := by
  induction h with
  | zero => exact Bord.zero _
  | @step Z i u hz h0 ih =>
    cases w with
    | nil => exact absurd rfl hz
    | cons _ hw hr =>
      have hc := chr_append (B := B) hz hw
      have hl := chr_le hz
      have := Bord.step (Z := Z ++ B) (i := i) (u := u) (by simp [hz]) (by rw [hc, List.drop_append_of_le_length hl]; exact ih hr)
      rwa [hc] at this
/-- The units of texts that are joined. -/
theorem Bord.join {A B : List Int} {j v : Nat} (w : Whl A) (h : Bord B j v) : Bord (A ++ B) (A.length + j) (unis A + v) := by
  refine ((Bord.full A).append w).add ?_
  rw [List.drop_left]; exact h

/-- The parts that texts are made of. -/
def prts : List ByteArray := [⟨#[97]⟩, ⟨#[98]⟩, ⟨#[32]⟩, ⟨#[10]⟩, ⟨#[10]⟩, ⟨#[195, 169]⟩, ⟨#[195, 159]⟩, ⟨#[226, 130, 172]⟩, ⟨#[232, 170, 158]⟩, ⟨#[240, 159, 152, 128]⟩, ⟨#[240, 157, 132, 158]⟩, ⟨#[120, 49]⟩, ⟨#[13, 10]⟩, ⟨#[40]⟩, ⟨#[34]⟩]
/-- Whole characters, as a test. -/
def whlB : Nat → List Int → Bool
  | 0, Z => Z.isEmpty
  | n + 1, Z => Z.isEmpty || ((decide ((chr Z).1 ≠ 1) || decide (ab Z 0 < 128)) && whlB n (Z.drop (chr Z).1))
theorem whl_of {n : Nat} : ∀ {Z : List Int}, whlB n Z = true → Whl Z := by
  induction n with
  | zero => intro Z h; have : Z = [] := by simpa [whlB] using h
            subst this; exact Whl.nil
  | succ n ih =>
    intro Z h
    by_cases hz : Z = []
    · subst hz; exact Whl.nil
    · have hz2 : Z.isEmpty = false := by cases Z with
        | nil => exact absurd rfl hz
        | cons _ _ => rfl
      simp only [whlB, hz2, Bool.false_or, Bool.and_eq_true, Bool.or_eq_true, decide_eq_true_eq] at h
      exact Whl.cons hz h.1 (ih h.2)
theorem prts_ok : ∀ p ∈ prts, p.size ≤ 4 ∧ Whl (sb p) := by
  have h : (prts.all fun p => decide (p.size ≤ 4) && whlB 5 (sb p)) = true := by decide +kernel
  intro p hp
  have := List.all_eq_true.1 h p hp
  simp only [Bool.and_eq_true, decide_eq_true_eq] at this
  exact ⟨this.1, whl_of this.2⟩
theorem sb_append (s t : ByteArray) : sb (s ++ t) = sb s ++ sb t := by unfold sb; simp

set_option maxRecDepth 100000 in
set_option maxHeartbeats 2000000 in
theorem rtext_any (a : Option Addr) (cap : Nat) (ls : List Int) (w : World) (h : Sli .i64 w a cap ls) (hi : ∀ n ∈ ls, -9223372036854775808 ≤ n ∧ n ≤ 9223372036854775807) :
    Calls Tryz.prog 29 #[.slice a ls.length cap] w fun e w' => ∃ s, e = .returned (.string s) ∧ s.size ≤ 96 ∧ Whl (sb s) ∧ Below w.heap.size w w' := by
  obtain ⟨n, hn⟩ : ∃ n, ls.length = n := ⟨_, rfl⟩
  obtain ⟨B, hB⟩ : ∃ B, w.heap.size = B := ⟨_, rfl⟩
  have hcore : ∃ bb off, (n = 0 ∨ (a = some ⟨bb, off, none⟩ ∧ bb < B)) ∧ ∀ j, j < n → w.cell? ⟨bb, off + j, none⟩ = some (.int .i64 (ls[j]?.getD 0)) := by
    rcases h.cells with rfl | ⟨bb, off, ha, hlt, hcb⟩
    · exact ⟨0, 0, .inl (by simpa using hn.symm), fun j hj => absurd hj (by simp at hn; omega)⟩
    · exact ⟨bb, off, .inr ⟨ha, by omega⟩, fun j hj => hcb j (by omega)⟩
  obtain ⟨bb, off, hab, hcb⟩ := hcore
  have hle := h.le
  have hmx := h.mx
  rw [hn] at hle ⊢
  have hat : ∀ k : Nat, -9223372036854775808 ≤ ls[k]?.getD 0 ∧ ls[k]?.getD 0 ≤ 9223372036854775807 := by
    intro k
    cases hk : ls[k]? with
    | none => simp
    | some x => exact hi x (List.mem_of_getElem? hk)
  obtain ⟨W1, hW1⟩ : ∃ W, w.alloc (.cells (prts.map Value.string).toArray 9) = W := ⟨_, rfl⟩
  have hblk : ∀ q, q < 15 → ∃ p, W1.cell? ⟨B, q, none⟩ = some (.string p) ∧ p.size ≤ 4 ∧ Whl (sb p) := by
    intro q hq
    have hq2 : q < prts.length := hq
    refine ⟨prts[q], ?_, prts_ok _ (List.getElem_mem hq2)⟩
    rw [← hW1, ← hB]
    have bk : Blk (w.alloc (.cells (prts.map Value.string).toArray 9)) w.heap.size 9 (prts.map Value.string).toArray := Blk.new _ _ _
    rw [bk.cell q]
    simp [hq2]
  have hb1 : Below B w W1 := by rw [← hW1, ← hB]; exact (Below.refl _ _).alloc (Nat.le_refl _) _
  have hs1 : B < W1.heap.size := by rw [← hW1, ← hB]; simp
  have HAB := Lib.hid hab; have HCB := Lib.hid hcb; have HI := Lib.hid hat; have HB := Lib.hid hB; have HBLK := Lib.hid hblk; have HB1 := Lib.hid hb1; have HW := Lib.hid hW1
  clear h hi hn hab hcb hB hat hblk hb1 hW1
  go_enter Tryz.func29, Tryz.ntmps29
  go_wp2_with fail
  rw [show w.alloc (.cells #[.string ⟨#[97]⟩, .string ⟨#[98]⟩, .string ⟨#[32]⟩, .string ⟨#[10]⟩, .string ⟨#[10]⟩, .string ⟨#[195, 169]⟩, .string ⟨#[195, 159]⟩, .string ⟨#[226, 130, 172]⟩, .string ⟨#[232, 170, 158]⟩, .string ⟨#[240, 159, 152, 128]⟩, .string ⟨#[240, 157, 132, 158]⟩, .string ⟨#[120, 49]⟩, .string ⟨#[13, 10]⟩, .string ⟨#[40]⟩, .string ⟨#[34]⟩] 9) = W1 from HW.out, HB.out]
  go_loopw [4, 5] (fun t q wr => ∃ (i : Nat) (s : ByteArray), i ≤ n ∧ i ≤ 24 ∧ s.size ≤ 4 * i ∧ q = .int .i64 (i : Int) ∧ t = .string s ∧ Hid (Whl (sb s)) ∧ wr = W1) (fun _ q _ => 24 - (intOf q).toNat)
  case atStart => exact ⟨0, ⟨#[]⟩, by omega, by omega, Nat.le_refl _, rfl, rfl, Whl.nil, by trivial⟩
  case round =>
    obtain ⟨i, s, hi, hi24, hss, rfl, rfl, HWH, rfl⟩ := hrel
    have hways : (i < n ∧ i < 24) ∨ ¬ i < n ∨ (i < n ∧ ¬ i < 24) := by omega
    rcases hways with ⟨h1, h2⟩ | h1 | ⟨h1, h2⟩
    case inl =>
      obtain ⟨ha, hbb⟩ := HAB.out.resolve_left (by omega)
      subst ha
      have hck := (HB1.out.cell (p := ⟨bb, off + i, none⟩) hbb).trans (HCB.out i h1)
      have hx := HI.out i
      generalize ls[i]?.getD 0 = x at hck hx
      obtain ⟨hx1, hx2⟩ := hx
      go_wp2_with fail
      refine (around_any x 15 _ hx1 hx2 (by omega) (by omega)).mono ?_
      rintro e w' ⟨q, hq, rfl, rfl⟩
      obtain ⟨p, hp1, hp2, hp3⟩ := HBLK.out q hq
      have HWH2 : Hid (Whl (sb (s ++ p))) := Lib.hid (by rw [sb_append]; exact HWH.out.append hp3)
      have hsp : (s ++ p).size ≤ 4 * (i + 1) := by rw [ByteArray.size_append]; omega
      have hsum : s.size + p.size ≤ 9223372036854775807 := by omega
      clear hp3
      go_wp2
      go_roundw
      case rel => exact ⟨i + 1, _, by omega, by omega, hsp, by go_num, rfl, HWH2, by trivial⟩
      case measure => simp [intOf]; omega
    all_goals
      go_wp2
      go_ret
      exact ⟨s, rfl, by omega, HWH.out, by rw [HB.out]; exact HB1.out⟩

end Go.Proofs.YtkehgoailhpenaaGreat

/- The chapter's examples, in the words of the specification. It has no conditions. -/
namespace Go.Proofs.YtkehgoailhpenaaGreat
open Go.RowKit
set_option linter.unusedVariables false

/-- Whole characters, as a test. -/
def bordB : Nat → List Int → Nat → Nat → Bool
  | 0, _, i, u => decide (i = 0 ∧ u = 0)
  | n + 1, Z, i, u => decide (i = 0 ∧ u = 0) || (!Z.isEmpty && decide ((chr Z).1 ≤ i ∧ (chr Z).2 ≤ u) && bordB n (Z.drop (chr Z).1) (i - (chr Z).1) (u - (chr Z).2))
theorem bord_of {n : Nat} : ∀ {Z : List Int} {i u : Nat}, bordB n Z i u = true → Bord Z i u := by
  induction n with
  | zero => intro Z i u h; have : i = 0 ∧ u = 0 := by simpa [bordB] using h
            obtain ⟨rfl, rfl⟩ := this; exact Bord.zero _
  | succ n ih =>
    intro Z i u h
    simp only [bordB, Bool.or_eq_true, Bool.and_eq_true, decide_eq_true_eq, Bool.not_eq_true'] at h
    rcases h with ⟨rfl, rfl⟩ | ⟨⟨h1, h2, h3⟩, h4⟩
    · exact Bord.zero _
    · have := Bord.step (Z := Z) (by rintro rfl; simp at h1) (ih h4)
      rwa [show (chr Z).1 + (i - (chr Z).1) = i by omega, show (chr Z).2 + (u - (chr Z).2) = u by omega] at this
abbrev exB : ByteArray := ⟨#[97, 240, 159, 152, 128, 10, 226, 130, 172, 98]⟩
def exZ : List Int := [97, 240, 159, 152, 128, 10, 226, 130, 172, 98]
theorem ex_sb : sb exB = exZ := by decide +kernel
theorem ex_units : unis (sb exB) = 6 := by
  rw [ex_sb]
  have h : Bord exZ 10 6 := bord_of (n := 12) (by decide +kernel)
  have := h.unis_take
  rwa [show exZ.take 10 = exZ by decide] at this
theorem ex_p5 : Pos exZ 5 0 3 := ⟨⟨3, bord_of (n := 12) (by decide +kernel)⟩, by decide +kernel, by rw [show (lf exZ 5).2 = 0 by decide +kernel]; exact bord_of (n := 12) (by decide +kernel)⟩
theorem ex_at5 : AtSpec (sb exB) 5 0 3 0 := by rw [ex_sb]; exact .inr (.inr ⟨rfl, 5, rfl, ex_p5⟩)
theorem ex_at9 : AtSpec (sb exB) 9 1 1 0 := by
  rw [ex_sb]
  exact .inr (.inr ⟨rfl, 9, rfl, ⟨⟨5, bord_of (n := 12) (by decide +kernel)⟩, by decide +kernel, by rw [show (lf exZ 9).2 = 6 by decide +kernel]; exact bord_of (n := 12) (by decide +kernel)⟩⟩)
theorem ex_b1 : Bord exZ 1 1 := bord_of (n := 12) (by decide +kernel)
theorem ex_c1 : (chr (exZ.drop 1)).1 = 4 := by decide +kernel
theorem ex_at2 : AtSpec (sb exB) 2 0 0 1 := by
  rw [ex_sb]
  refine .inr (.inl ⟨rfl, rfl, rfl, 2, rfl, by decide, ?_⟩)
  rintro ⟨U, hU⟩
  have := ex_b1.next hU (by decide)
  rw [ex_c1] at this; omega
theorem ex_off12 : OffSpec (sb exB) 1 2 10 0 := by
  rw [ex_sb]
  exact .inl ⟨rfl, 1, 2, rfl, rfl, ⟨⟨6, bord_of (n := 12) (by decide +kernel)⟩, by decide +kernel, by rw [show (lf exZ 10).2 = 6 by decide +kernel]; exact bord_of (n := 12) (by decide +kernel)⟩⟩
theorem ex_eol : Eol exZ 5 0 3 := ⟨ex_p5, .inr (by decide +kernel)⟩
theorem ex_off02 : OffSpec (sb exB) 0 2 0 1 := by
  rw [ex_sb]
  refine .inr (.inl ⟨rfl, rfl, 0, 2, 5, 3, rfl, rfl, ex_eol, by decide, ?_⟩)
  rintro ⟨o, ho⟩
  have hs := ho.same ex_p5
  have h0 : lf exZ 5 = (0, 0) := by decide +kernel
  have hb := ho.2.2
  rw [hs, h0] at hb
  simp only [List.drop_zero, Nat.sub_zero] at hb
  rcases Nat.lt_trichotomy o 1 with h | h | h
  · have := hb.lt ex_b1 h; omega
  · subst h; have := hb.det ex_b1; omega
  · have := ex_b1.next hb h
    rw [ex_c1] at this
    have h5 : Bord exZ 5 3 := bord_of (n := 12) (by decide +kernel)
    rcases Nat.lt_or_ge 5 o with h2 | h2
    · have := h5.lt hb h2; omega
    · obtain rfl : o = 5 := by omega
      have := hb.det h5; omega
theorem ex_off04 : OffSpec (sb exB) 0 4 0 5 := by
  rw [ex_sb]
  refine .inr (.inr ⟨rfl, rfl, ?_⟩)
  rintro ⟨l', u', E, v, hl, hu, he, hv⟩
  obtain rfl : l' = 0 := by omega
  obtain ⟨_, rfl⟩ := ex_eol.det he
  omega

end Go.Proofs.YtkehgoailhpenaaGreat

/- The contract of the program's conversion of one edit. Conditions: texts of at most 100000 bytes. -/
namespace Go.Proofs.YtkehgoailhpenaaGreat
open Go.RowKit Go.Shelf
set_option linter.unusedVariables false

theorem off_total (Z : List Int) (l u : Int) : ∃ o e, OffSpec Z l u o e := by
  by_cases h1 : ∃ o l' u' : Nat, l = l' ∧ u = u' ∧ Pos Z o l' u'
  · obtain ⟨o, l', u', a, b, c⟩ := h1
    exact ⟨o, 0, .inl ⟨rfl, l', u', a, b, c⟩⟩
  · by_cases h2 : ∃ l' u' E v : Nat, l = l' ∧ u = u' ∧ Eol Z E l' v ∧ u' ≤ v
    · obtain ⟨l', u', E, v, a, b, c, d⟩ := h2
      exact ⟨0, 1, .inr (.inl ⟨rfl, rfl, l', u', E, v, a, b, c, d, fun ⟨o, ho⟩ => h1 ⟨o, l', u', a, b, ho⟩⟩)⟩
    · exact ⟨0, 5, .inr (.inr ⟨rfl, rfl, h2⟩)⟩
theorem off_le {Z : List Int} {l u : Int} {o : Nat} {e : Int} (h : OffSpec Z l u o e) : o ≤ Z.length := by
  rcases h with ⟨_, _, _, _, _, h⟩ | ⟨_, rfl, _⟩ | ⟨_, rfl, _⟩
  · exact h.lt
  · exact Nat.zero_le _
  · exact Nat.zero_le _
/-- An edit by positions, and an edit by offsets. -/
structure PE where
  l1 : Int
  u1 : Int
  l2 : Int
  u2 : Int
  t : ByteArray
structure Ed where
  f : Nat
  o : Nat
  t : ByteArray
def Ed.zero : Ed := ⟨0, 0, ⟨#[]⟩⟩
def PE.vals (p : PE) : List Value := [.int .i64 p.l1, .int .i64 p.u1, .int .i64 p.l2, .int .i64 p.u2, .string p.t]
def Ed.vals (d : Ed) : List Value := [.int .i64 (d.f : Int), .int .i64 (d.o : Int), .string d.t]
def PE.fit (p : PE) : Prop := I64n p.l1 ∧ I64n p.u1 ∧ I64n p.l2 ∧ I64n p.u2
/-- What an edit by positions becomes. -/
def EdS (Z : List Int) (p : PE) (d : Ed) (er : Int) : Prop :=
  ∃ o1 e1 o2 e2, OffSpec Z p.l1 p.u1 o1 e1 ∧ OffSpec Z p.l2 p.u2 o2 e2 ∧
    ((e1 ≠ 0 ∧ er = e1 ∧ d = Ed.zero) ∨ (e1 = 0 ∧ e2 ≠ 0 ∧ er = e2 ∧ d = Ed.zero) ∨ (e1 = 0 ∧ e2 = 0 ∧ o2 < o1 ∧ er = 1 ∧ d = Ed.zero) ∨ (e1 = 0 ∧ e2 = 0 ∧ o1 ≤ o2 ∧ er = 0 ∧ d = ⟨o1, o2, p.t⟩))
theorem EdS.det {Z : List Int} {p : PE} {d d' : Ed} {er er' : Int} (h : EdS Z p d er) (k : EdS Z p d' er') : d = d' ∧ er = er' := by
  obtain ⟨o1, e1, o2, e2, a1, a2, h⟩ := h
  obtain ⟨o3, e3, o4, e4, b1, b2, k⟩ := k
  obtain ⟨rfl, rfl⟩ := a1.det b1
  obtain ⟨rfl, rfl⟩ := a2.det b2
  rcases h with ⟨h1, rfl, rfl⟩ | ⟨h1, h2, rfl, rfl⟩ | ⟨h1, h2, h3, rfl, rfl⟩ | ⟨h1, h2, h3, rfl, rfl⟩ <;> rcases k with ⟨k1, rfl, rfl⟩ | ⟨k1, k2, rfl, rfl⟩ | ⟨k1, k2, k3, rfl, rfl⟩ | ⟨k1, k2, k3, rfl, rfl⟩ <;> first | exact ⟨rfl, rfl⟩ | omega
theorem ed_total (Z : List Int) (p : PE) : ∃ d er, EdS Z p d er := by
  obtain ⟨o1, e1, h1⟩ := off_total Z p.l1 p.u1
  obtain ⟨o2, e2, h2⟩ := off_total Z p.l2 p.u2
  by_cases a : e1 = 0
  · by_cases b : e2 = 0
    · by_cases c : o2 < o1
      · exact ⟨_, _, o1, e1, o2, e2, h1, h2, .inr (.inr (.inl ⟨a, b, c, rfl, rfl⟩))⟩
      · exact ⟨_, _, o1, e1, o2, e2, h1, h2, .inr (.inr (.inr ⟨a, b, by omega, rfl, rfl⟩))⟩
    · exact ⟨_, _, o1, e1, o2, e2, h1, h2, .inr (.inl ⟨a, b, rfl, rfl⟩)⟩
  · exact ⟨_, _, o1, e1, o2, e2, h1, h2, .inl ⟨a, rfl, rfl⟩⟩

set_option maxRecDepth 100000 in
set_option maxHeartbeats 2000000 in
theorem inb_any (s : ByteArray) (p : PE) (d : Ed) (er : Int) (w : World) (hs : s.size ≤ 100000) (hp : p.fit) (h : EdS (sb s) p d er) :
    Calls Tryz.prog 82 #[.string s, .agg p.vals.toArray] w fun e w' => e = .returned (.tuple #[.agg d.vals.toArray, .int .i64 er]) ∧ Below w.heap.size w w' := by
  obtain ⟨l1, u1, l2, u2, t⟩ := p
  obtain ⟨hp1, hp2, hp3, hp4⟩ := hp
  obtain ⟨o1, e1, o2, e2, h1, h2, h⟩ := h
  simp only [PE.vals] at h1 h2 ⊢
  have hl1 := off_le h1
  have hl2 := off_le h2
  rw [sb_len] at hl1 hl2
  have cT := fun W Q Bs => two_pos s Q Bs (fun k => if k = 0 then l1 else l2) (fun k => if k = 0 then u1 else u2) (fun k => if k = 0 then o1 else o2) (fun k => if k = 0 then e1 else e2) W hs (fun k => by by_cases h : k = 0 <;> simp [h, hp1, hp2, hp3, hp4])
  simp only [if_pos, Nat.one_ne_zero, if_false] at cT
  have cT2 : ∀ W Q Bs, Blk W Q 24 #[.int .i64 l1, .int .i64 u1, .int .i64 l2, .int .i64 u2] → Boxed W Bs 9 (.string s) →
      Calls Tryz.prog 92 #[.slice (some ⟨Q, 0, none⟩) 2 2, .func (.func 93) #[] #[.pointer (some ⟨Bs, 0, none⟩)]] W fun e w' => Below W.heap.size W w' ∧
        ((e1 ≠ 0 ∧ e = .returned (.tuple #[.slice none 0 0, .int .i64 e1])) ∨ (e1 = 0 ∧ e2 ≠ 0 ∧ e = .returned (.tuple #[.slice none 0 0, .int .i64 e2])) ∨
         (e1 = 0 ∧ e2 = 0 ∧ ∃ g, e = .returned (.tuple #[.slice (some ⟨g, 0, none⟩) 2 2, .int .i64 0]) ∧ w'.cell? ⟨g, 0, none⟩ = some (.int .i64 (o1 : Int)) ∧ w'.cell? ⟨g, 1, none⟩ = some (.int .i64 (o2 : Int)))) := by
    intro W Q Bs a b
    refine (cT W Q Bs a b (fun k hk => ?_)).mono ?_
    · by_cases hk0 : k = 0
      · simp only [if_pos hk0]; exact h1
      · simp only [if_neg hk0]; exact h2
    · rintro e w' ⟨hb, ⟨k, hk, he, hj, rfl⟩ | ⟨ha, hb2, hg⟩⟩
      · refine ⟨hb, ?_⟩
        by_cases hk0 : k = 0
        · simp only [if_pos hk0] at he ⊢; exact .inl ⟨he, by trivial⟩
        · simp only [if_neg hk0] at he ⊢
          have h0 : e1 = 0 := by have := hj 0 (by omega); simpa using this
          exact .inr (.inl ⟨h0, he, by trivial⟩)
      · exact ⟨hb, .inr (.inr ⟨ha, hb2, hg⟩)⟩
  obtain ⟨P, hP⟩ : ∃ P, w.heap.size = P := ⟨_, rfl⟩
  obtain ⟨W3, hW3⟩ : ∃ W, ((w.alloc (.cells #[.string s] 9)).alloc (.cells #[.int .i64 l1, .int .i64 u1, .int .i64 l2, .int .i64 u2, .string t] 78)).alloc (.cells #[.int .i64 0, .int .i64 0, .string ⟨#[]⟩] 84) = W := ⟨_, rfl⟩
  have b1 : Boxed W3 P 9 (.string s) := by rw [← hW3, ← hP]; exact ((Boxed.new _ _ _).alloc _).alloc _
  have b2 : Blk W3 (P + 1) 78 #[.int .i64 l1, .int .i64 u1, .int .i64 l2, .int .i64 u2, .string t] := by
    rw [← hW3, ← hP]
    have := (Blk.new (w.alloc (.cells #[.string s] 9)) 78 #[.int .i64 l1, .int .i64 u1, .int .i64 l2, .int .i64 u2, .string t]).alloc (.cells #[.int .i64 0, .int .i64 0, .string ⟨#[]⟩] 84)
    simpa using this
  have b3 : Blk W3 (P + 1 + 1) 84 #[.int .i64 0, .int .i64 0, .string ⟨#[]⟩] := by
    rw [← hW3, ← hP]
    have := Blk.new ((w.alloc (.cells #[.string s] 9)).alloc (.cells #[.int .i64 l1, .int .i64 u1, .int .i64 l2, .int .i64 u2, .string t] 78)) 84 #[.int .i64 0, .int .i64 0, .string ⟨#[]⟩]
    simpa using this
  have s3 : W3.heap.size = P + 1 + 1 + 1 := by rw [← hW3, ← hP]; simp
  have hb3 : Below P w W3 := by rw [← hW3, ← hP]; exact (((Below.refl _ _).alloc (Nat.le_refl _) _).alloc (by simp) _).alloc (by simp; omega) _
  have C := Lib.hid (cT2 (W3.alloc (.cells #[.int .i64 l1, .int .i64 u1, .int .i64 l2, .int .i64 u2] 24)) (P + 1 + 1 + 1) P (by rw [← s3]; exact Blk.new _ _ _) (b1.alloc _))
  have HP := Lib.hid hP; have HW3 := Lib.hid hW3; have HB2 := Lib.hid b2; have HB3 := Lib.hid b3; have HBB := Lib.hid hb3; have HS3 := Lib.hid s3; have HH := Lib.hid h
  clear cT cT2 h1 h2 h hP hW3 b1 b2 b3 s3 hb3
  go_enter Tryz.func82, Tryz.ntmps82
  go_wp2_with fail
  rw [HP.out, show ((w.alloc (.cells #[.string s] 9)).alloc (.cells #[.int .i64 l1, .int .i64 u1, .int .i64 l2, .int .i64 u2, .string t] 78)).alloc (.cells #[.int .i64 0, .int .i64 0, .string ⟨#[]⟩] 84) = W3 from HW3.out]
  refine C.out.mono ?_
  rintro e w5 ⟨b5, hway⟩
  have hb5 : Below (P + 1 + 1 + 1) W3 w5 := ((Below.refl _ _).alloc (by rw [HS3.out]; exact Nat.le_refl _) _).trans (b5.mono (by simp [HS3.out]))
  have e2' := HB2.out.same (hb5.block (P + 1) (by omega))
  have e3' := HB3.out.same (hb5.block (P + 1 + 1) (by omega))
  have H5 : Hid (Below P w w5) := HBB.out.trans (hb5.mono (by omega))
  have ct : w5.cell? ⟨P + 1, 4, none⟩ = some (.string t) := by simpa using e2'.cell 4
  have c0 : w5.cell? ⟨P + 1 + 1, 0, none⟩ = some (.int .i64 0) := by simpa using e3'.cell 0
  have c1 : w5.cell? ⟨P + 1 + 1, 1, none⟩ = some (.int .i64 0) := by simpa using e3'.cell 1
  have c2 : w5.cell? ⟨P + 1 + 1, 2, none⟩ = some (.string ⟨#[]⟩) := by simpa using e3'.cell 2
  have f0 := e3'.frozen 0; have f1 := e3'.frozen 1; have f2 := e3'.frozen 2
  have hout : ∀ (W : World) (x y : Int) (z : ByteArray), Blk W (P + 1 + 1) 84 #[.int .i64 0, .int .i64 0, .string ⟨#[]⟩] → Below P w W →
      (((W.setCell ⟨P + 1 + 1, 0, none⟩ (.int .i64 x)).setCell ⟨P + 1 + 1, 1, none⟩ (.int .i64 y)).setCell ⟨P + 1 + 1, 2, none⟩ (.string z)).cell? ⟨P + 1 + 1, 0, none⟩ = some (.int .i64 x) ∧
      (((W.setCell ⟨P + 1 + 1, 0, none⟩ (.int .i64 x)).setCell ⟨P + 1 + 1, 1, none⟩ (.int .i64 y)).setCell ⟨P + 1 + 1, 2, none⟩ (.string z)).cell? ⟨P + 1 + 1, 1, none⟩ = some (.int .i64 y) ∧
      (((W.setCell ⟨P + 1 + 1, 0, none⟩ (.int .i64 x)).setCell ⟨P + 1 + 1, 1, none⟩ (.int .i64 y)).setCell ⟨P + 1 + 1, 2, none⟩ (.string z)).cell? ⟨P + 1 + 1, 2, none⟩ = some (.string z) ∧
      Below P w (((W.setCell ⟨P + 1 + 1, 0, none⟩ (.int .i64 x)).setCell ⟨P + 1 + 1, 1, none⟩ (.int .i64 y)).setCell ⟨P + 1 + 1, 2, none⟩ (.string z)) := by
    intro W x y z h hb
    have b2 := ((h.set 0 (.int .i64 x)).set 1 (.int .i64 y)).set 2 (.string z)
    exact ⟨by simpa using b2.cell 0, by simpa using b2.cell 1, by simpa using b2.cell 2, ((hb.setCell (p := ⟨P + 1 + 1, 0, none⟩) (by show P ≤ P + 1 + 1; omega) _).setCell (p := ⟨P + 1 + 1, 1, none⟩) (by show P ≤ P + 1 + 1; omega) _).setCell (p := ⟨P + 1 + 1, 2, none⟩) (by show P ≤ P + 1 + 1; omega) _⟩
  have HE3 := Lib.hid e3'
  have HOUT := Lib.hid hout
  clear b5 hb5 e2' e3' hout C
  rcases hway with ⟨he, rfl⟩ | ⟨he, he2, rfl⟩ | ⟨he, he2, g, rfl, d0, d1⟩
  case inl =>
    have hres : er = e1 ∧ d = Ed.zero := by
      rcases HH.out with ⟨_, a, b⟩ | ⟨a, _⟩ | ⟨a, _⟩ | ⟨a, _⟩
      · exact ⟨a, b⟩
      all_goals exact absurd a he
    obtain ⟨rfl, rfl⟩ := hres
    have hq : (er != 0) = true := by simp [he]
    obtain ⟨k0, k1, k2, hbl⟩ := HOUT.out w5 0 0 ⟨#[]⟩ HE3.out H5.out
    have HBL := Lib.hid hbl
    clear he hbl
    go_wp2
    refine bodyPost_ret (v := .tuple #[.agg #[.int .i64 0, .int .i64 0, .string ⟨#[]⟩], .int .i64 er]) (by simp [results, Tryz.results82, go_sem, k0, k1, k2]) rfl ?_
    exact ⟨rfl, by rw [HP.out]; exact HBL.out⟩
  case inr.inl =>
    have hres : er = e2 ∧ d = Ed.zero := by
      rcases HH.out with ⟨a, _⟩ | ⟨_, _, a, b⟩ | ⟨_, a, _⟩ | ⟨_, a, _⟩
      · exact absurd he a
      · exact ⟨a, b⟩
      all_goals exact absurd a he2
    obtain ⟨rfl, rfl⟩ := hres
    have hq : (er != 0) = true := by simp [he2]
    obtain ⟨k0, k1, k2, hbl⟩ := HOUT.out w5 0 0 ⟨#[]⟩ HE3.out H5.out
    have HBL := Lib.hid hbl
    clear he he2 hbl
    go_wp2
    refine bodyPost_ret (v := .tuple #[.agg #[.int .i64 0, .int .i64 0, .string ⟨#[]⟩], .int .i64 er]) (by simp [results, Tryz.results82, go_sem, k0, k1, k2]) rfl ?_
    exact ⟨rfl, by rw [HP.out]; exact HBL.out⟩
  case inr.inr =>
    by_cases hlt : o2 < o1
    · have hres : er = 1 ∧ d = Ed.zero := by
        rcases HH.out with ⟨a, _⟩ | ⟨_, a, _⟩ | ⟨_, _, _, a, b⟩ | ⟨_, _, a, _⟩
        · exact absurd he a
        · exact absurd he2 a
        · exact ⟨a, b⟩
        · omega
      obtain ⟨rfl, rfl⟩ := hres
      have hlt2 : (o2 : Int) < (o1 : Int) := by omega
      have hk := fun n => HOUT.out (w5.drewN n) 0 0 ⟨#[]⟩ (HE3.out.drewN n) (below_drewN H5.out n)
      have k0 := fun n => (hk n).1
      have k1 := fun n => (hk n).2.1
      have k2 := fun n => (hk n).2.2.1
      have HBL := Lib.hid (fun n => (hk n).2.2.2)
      clear he he2 hk hlt
      go_wp2_with fail
      go_quiet (fail)
      go_wp2
      refine bodyPost_ret (v := .tuple #[.agg #[.int .i64 0, .int .i64 0, .string ⟨#[]⟩], .int .i64 1]) (by simp [results, Tryz.results82, go_sem, k0, k1, k2]) rfl ?_
      exact ⟨rfl, by rw [HP.out]; exact HBL.out _⟩
    · have hres : er = 0 ∧ d = ⟨o1, o2, t⟩ := by
        rcases HH.out with ⟨a, _⟩ | ⟨_, a, _⟩ | ⟨_, _, a, _⟩ | ⟨_, _, _, a, b⟩
        · exact absurd he a
        · exact absurd he2 a
        · omega
        · exact ⟨a, b⟩
      obtain ⟨rfl, rfl⟩ := hres
      have hlt2 : ¬ (o2 : Int) < (o1 : Int) := by omega
      have hk := fun n => HOUT.out (w5.drewN n) (o1 : Int) (o2 : Int) t (HE3.out.drewN n) (below_drewN H5.out n)
      have k0 := fun n => (hk n).1
      have k1 := fun n => (hk n).2.1
      have k2 := fun n => (hk n).2.2.1
      have HBL := Lib.hid (fun n => (hk n).2.2.2)
      clear he he2 hk hlt
      go_wp2_with fail
      go_quiet (fail)
      go_wp2
      refine bodyPost_ret (v := .tuple #[.agg #[.int .i64 (o1 : Int), .int .i64 (o2 : Int), .string t], .int .i64 0]) (by simp [results, Tryz.results82, go_sem, k0, k1, k2]) rfl ?_
      exact ⟨rfl, by rw [HP.out]; exact HBL.out _⟩

end Go.Proofs.YtkehgoailhpenaaGreat

/- The contract of the program's Bytes. Conditions: texts of at most 100000 bytes. -/
namespace Go.Proofs.YtkehgoailhpenaaGreat
open Go.RowKit Go.Shelf
set_option linter.unusedVariables false

set_option maxRecDepth 100000 in
set_option maxHeartbeats 1000000 in
theorem one_ed (s : ByteArray) (Bs : Nat) (p : PE) (d : Ed) (er : Int) (w : World) (hs : s.size ≤ 100000) (hp : p.fit) (hbs : Boxed w Bs 9 (.string s)) (h : EdS (sb s) p d er) :
    Calls Tryz.prog 81 #[.agg p.vals.toArray, .pointer (some ⟨Bs, 0, none⟩)] w fun e w' => e = .returned (.tuple #[.agg d.vals.toArray, .int .i64 er]) ∧ Below w.heap.size w w' := by
  have C0 := fun W => inb_any s p d er W hs hp h
  obtain ⟨l1, u1, l2, u2, t⟩ := p
  obtain ⟨df, dO, dt⟩ := d
  simp only [PE.vals, Ed.vals] at C0 ⊢
  obtain ⟨P, hP⟩ : ∃ P, w.heap.size = P := ⟨_, rfl⟩
  obtain ⟨W2, hW2⟩ : ∃ W, (w.alloc (.cells #[.int .i64 l1, .int .i64 u1, .int .i64 l2, .int .i64 u2, .string t] 78)).alloc (.cells #[.int .i64 0, .int .i64 0, .string ⟨#[]⟩] 84) = W := ⟨_, rfl⟩
  have c0 := ((hbs.alloc (.cells #[.int .i64 l1, .int .i64 u1, .int .i64 l2, .int .i64 u2, .string t] 78)).alloc (.cells #[.int .i64 0, .int .i64 0, .string ⟨#[]⟩] 84)).cell
  have b3 : Blk W2 (P + 1) 84 #[.int .i64 0, .int .i64 0, .string ⟨#[]⟩] := by
    rw [← hW2, ← hP]
    have := Blk.new (w.alloc (.cells #[.int .i64 l1, .int .i64 u1, .int .i64 l2, .int .i64 u2, .string t] 78)) 84 #[.int .i64 0, .int .i64 0, .string ⟨#[]⟩]
    simpa using this
  have s2 : W2.heap.size = P + 1 + 1 := by rw [← hW2, ← hP]; simp
  have hb2 : Below P w W2 := by rw [← hW2, ← hP]; exact ((Below.refl _ _).alloc (Nat.le_refl _) _).alloc (by simp) _
  have HP := Lib.hid hP; have HW2 := Lib.hid hW2; have HB3 := Lib.hid b3; have HS2 := Lib.hid s2; have HBB := Lib.hid hb2; have C := Lib.hid C0
  clear C0 hP hW2 b3 s2 hb2 h hbs
  go_enter Tryz.func81, Tryz.ntmps81
  go_wp2_with fail
  rw [HP.out, show (w.alloc (.cells #[.int .i64 l1, .int .i64 u1, .int .i64 l2, .int .i64 u2, .string t] 78)).alloc (.cells #[.int .i64 0, .int .i64 0, .string ⟨#[]⟩] 84) = W2 from HW2.out]
  refine (C.out _).mono ?_
  rintro e w5 ⟨rfl, hb⟩
  have e3' := HB3.out.same (hb.block (P + 1) (by rw [HS2.out]; omega))
  have H5 : Below P w w5 := HBB.out.trans (hb.mono (by rw [HS2.out]; omega))
  have c0 : w5.cell? ⟨P + 1, 0, none⟩ = some (.int .i64 0) := by simpa using e3'.cell 0
  have c1 : w5.cell? ⟨P + 1, 1, none⟩ = some (.int .i64 0) := by simpa using e3'.cell 1
  have c2 : w5.cell? ⟨P + 1, 2, none⟩ = some (.string ⟨#[]⟩) := by simpa using e3'.cell 2
  have f0 := e3'.frozen 0; have f1 := e3'.frozen 1; have f2 := e3'.frozen 2
  have b2 := ((e3'.set 0 (.int .i64 (df : Int))).set 1 (.int .i64 (dO : Int))).set 2 (.string dt)
  have k0 : (((w5.setCell ⟨P + 1, 0, none⟩ (.int .i64 (df : Int))).setCell ⟨P + 1, 1, none⟩ (.int .i64 (dO : Int))).setCell ⟨P + 1, 2, none⟩ (.string dt)).cell? ⟨P + 1, 0, none⟩ = some (.int .i64 (df : Int)) := by simpa using b2.cell 0
  have k1 : (((w5.setCell ⟨P + 1, 0, none⟩ (.int .i64 (df : Int))).setCell ⟨P + 1, 1, none⟩ (.int .i64 (dO : Int))).setCell ⟨P + 1, 2, none⟩ (.string dt)).cell? ⟨P + 1, 1, none⟩ = some (.int .i64 (dO : Int)) := by simpa using b2.cell 1
  have k2 : (((w5.setCell ⟨P + 1, 0, none⟩ (.int .i64 (df : Int))).setCell ⟨P + 1, 1, none⟩ (.int .i64 (dO : Int))).setCell ⟨P + 1, 2, none⟩ (.string dt)).cell? ⟨P + 1, 2, none⟩ = some (.string dt) := by simpa using b2.cell 2
  have HF := Lib.hid (((H5.setCell (p := ⟨P + 1, 0, none⟩) (by show P ≤ P + 1; omega) (.int .i64 (df : Int))).setCell (p := ⟨P + 1, 1, none⟩) (by show P ≤ P + 1; omega) (.int .i64 (dO : Int))).setCell (p := ⟨P + 1, 2, none⟩) (by show P ≤ P + 1; omega) (.string dt))
  clear hb e3' H5 b2 C
  go_wp2
  refine bodyPost_ret (v := .tuple #[.agg #[.int .i64 (df : Int), .int .i64 (dO : Int), .string dt], .int .i64 er]) (by simp [results, Tryz.results81, go_sem, k0, k1, k2]) rfl ?_
  exact ⟨rfl, by rw [HP.out]; exact HF.out⟩

/-- A slice of n edits by positions lies in memory, below block B. -/
def PCells (B : Nat) (w : World) (a : Option Addr) (n : Nat) (es : Nat → PE) : Prop :=
  n = 0 ∨ ∃ b off, a = some ⟨b, off, none⟩ ∧ b < B ∧ ∀ k, k < n → ∀ i, i < 5 → w.cell? ⟨b, off + k * 5 + i, none⟩ = (es k).vals[i]?
/-- A slice of n edits by offsets lies at the head of a block below B. -/
def ECells (B : Nat) (w : World) (a : Option Addr) (n : Nat) (ds : Nat → Ed) : Prop :=
  n = 0 ∨ ∃ g, a = some ⟨g, 0, none⟩ ∧ g < B ∧ ∀ k, k < n → ∀ i, i < 3 → w.cell? ⟨g, k * 3 + i, none⟩ = (ds k).vals[i]?
/-- The first error of n. -/
def FirstE (n : Nat) (ers : Nat → Int) (er : Int) : Prop := ∃ k, k < n ∧ ers k = er ∧ er ≠ 0 ∧ ∀ j, j < k → ers j = 0
theorem FirstE.det {n : Nat} {ers : Nat → Int} {a b : Int} (h : FirstE n ers a) (k : FirstE n ers b) : a = b := by
  obtain ⟨i, h1, h2, h3, h4⟩ := h
  obtain ⟨j, k1, k2, k3, k4⟩ := k
  rcases Nat.lt_trichotomy i j with h | rfl | h
  · exact absurd (k4 i h) (by rw [h2]; exact h3)
  · rw [← h2, k2]
  · exact absurd (h4 j h) (by rw [k2]; exact k3)
/-- What Bytes returns: the edits, or the first error. -/
def EdsPost (n : Nat) (ds : Nat → Ed) (ers : Nat → Int) (w : World) (e : Ending) (w' : World) : Prop := Below w.heap.size w w' ∧
  ((∃ er, FirstE n ers er ∧ e = .returned (.tuple #[.slice none 0 0, .int .i64 er])) ∨
   ((∀ k, k < n → ers k = 0) ∧ ∃ a cap, e = .returned (.tuple #[.slice a n cap, .int .i64 0]) ∧ n ≤ cap ∧ cap ≤ 9223372036854775807 ∧ ECells w'.heap.size w' a n ds))

/-- .. and the new list lies in a new block. -/
def EdsPostF (n : Nat) (ds : Nat → Ed) (ers : Nat → Int) (w : World) (e : Ending) (w' : World) : Prop := Below w.heap.size w w' ∧
  ((∃ er, FirstE n ers er ∧ e = .returned (.tuple #[.slice none 0 0, .int .i64 er])) ∨
   ((∀ k, k < n → ers k = 0) ∧ ∃ a cap, e = .returned (.tuple #[.slice a n cap, .int .i64 0]) ∧ n ≤ cap ∧ cap ≤ 9223372036854775807 ∧ ECells w'.heap.size w' a n ds ∧ ∀ b off, a = some ⟨b, off, none⟩ → w.heap.size ≤ b))
theorem EdsPostF.eds {n : Nat} {ds : Nat → Ed} {ers : Nat → Int} {w : World} {e : Ending} {w' : World} (h : EdsPostF n ds ers w e w') : EdsPost n ds ers w e w' := by
  obtain ⟨h1, h2 | ⟨h3, a, cap, h4, h5, h6, h7, _⟩⟩ := h
  · exact ⟨h1, .inl h2⟩
  · exact ⟨h1, .inr ⟨h3, a, cap, h4, h5, h6, h7⟩⟩

theorem infoE : (Tryz.prog.info? 84).map (fun i => (i.zero, i.size, i.bytes)) = some (some (.agg #[.int .i64 0, .int .i64 0, .string ⟨#[]⟩]), 3, 32) := by kernel_rfl
set_option maxRecDepth 100000 in
set_option maxHeartbeats 4000000 in
theorem conv_edsF (s : ByteArray) (Bs : Nat) (a : Option Addr) (n cap : Nat) (es : Nat → PE) (ds : Nat → Ed) (ers : Nat → Int) (w : World) (hs : s.size ≤ 100000) (hn : n ≤ 64) (hcap : n ≤ cap) (hfit : ∀ k, k < n → (es k).fit) (hc : PCells w.heap.size w a n es) (hbs : Boxed w Bs 9 (.string s)) (h : ∀ k, k < n → EdS (sb s) (es k) (ds k) (ers k)) :
    Calls Tryz.prog 80 #[.slice a n cap, .func (.func 81) #[] #[.pointer (some ⟨Bs, 0, none⟩)]] w (EdsPostF n ds ers w) := by
  obtain ⟨i3, hi3, hy0, hy1, hy2⟩ := info_parts infoE
  obtain ⟨B, hB⟩ : ∃ B, w.heap.size = B := ⟨_, rfl⟩
  rw [hB] at hc
  have hBB : Bs < B := by rw [← hB]; exact hbs.lt
  have hcore : ∃ b off, (n = 0 ∨ (a = some ⟨b, off, none⟩ ∧ b < B)) ∧ ∀ k, k < n → ∀ W, Below B w W → Boxed W Bs 9 (.string s) ∧ W.cell? ⟨b, off + k * 5, none⟩ = some (.int .i64 (es k).l1) ∧ W.cell? ⟨b, off + k * 5 + 1, none⟩ = some (.int .i64 (es k).u1) ∧ W.cell? ⟨b, off + k * 5 + 2, none⟩ = some (.int .i64 (es k).l2) ∧ W.cell? ⟨b, off + k * 5 + 3, none⟩ = some (.int .i64 (es k).u2) ∧ W.cell? ⟨b, off + k * 5 + 4, none⟩ = some (.string (es k).t) := by
    rcases hc with h0 | ⟨b, off, ha, hb, hcc⟩
    · exact ⟨0, 0, .inl h0, fun k hk => by omega⟩
    · refine ⟨b, off, .inr ⟨ha, hb⟩, fun k hk W hW => ⟨(hW.block Bs hBB).trans hbs, ?_, ?_, ?_, ?_, ?_⟩⟩
      · exact (hW.cell (p := ⟨b, off + k * 5, none⟩) hb).trans (hcc k hk 0 (by omega))
      · exact (hW.cell (p := ⟨b, off + k * 5 + 1, none⟩) hb).trans (hcc k hk 1 (by omega))
      · exact (hW.cell (p := ⟨b, off + k * 5 + 2, none⟩) hb).trans (hcc k hk 2 (by omega))
      · exact (hW.cell (p := ⟨b, off + k * 5 + 3, none⟩) hb).trans (hcc k hk 3 (by omega))
      · exact (hW.cell (p := ⟨b, off + k * 5 + 4, none⟩) hb).trans (hcc k hk 4 (by omega))
  obtain ⟨b, off, hab, hcell⟩ := hcore
  have HAB := Lib.hid hab; have HC := Lib.hid hcell; have HB := Lib.hid hB; have HS := Lib.hid h; have HF := Lib.hid hfit
  clear hc hab hcell hB h hbs hfit
  go_enter Tryz.func80, Tryz.ntmps80
  go_wp2_with (at_make; refine wpList_make_full _ rfl _ _ 38 rfl w.heap.size 84 i3 (.agg #[.int .i64 0, .int .i64 0, .string ⟨#[]⟩]) 3 Tryz.underlying38 hi3 hy0 hy1 .i64 .i64 _ _ n rfl rfl rfl rfl (by rw [hy2]; omega) (by unfold maxLen; omega) (Nat.le_refl _) ?_; intro w1 hown1 hgrow1)
  have H1 : Hid ((∃ cur : Array Value, Blk w1 B 84 cur ∧ cur.size = n * 3) ∧ Below B w w1) := by
    rw [HB.out] at hown1
    refine ⟨?_, (Below.refl _ _).grown hgrow1 (by rw [HB.out]; exact Nat.le_refl _) (fun k e => by cases e)⟩
    rcases hown1.2 with ⟨h0, _⟩ | ⟨g, cp, cur, hv, _, hg, _, _, hsz, _⟩
    · cases h0
    · simp only [Value.slice.injEq, Option.some.injEq, Addr.mk.injEq, and_true, true_and] at hv
      obtain ⟨rfl, rfl⟩ := hv
      exact ⟨cur, hg, hsz⟩
  rw [HB.out]
  clear hown1 hgrow1
  go_loopw [16] (fun q wr => ∃ (k : Nat) (cur : Array Value), k ≤ n ∧ q = .int .i64 (k : Int) ∧ cur.size = n * 3 ∧ Hid (∀ j, j < k → ers j = 0 ∧ ∀ i, i < 3 → cur[j * 3 + i]? = (ds j).vals[i]?) ∧ Hid (Blk wr B 84 cur) ∧ Hid (Below B w wr)) (fun q _ => n - (intOf q).toNat)
  case atStart =>
    obtain ⟨⟨cur, h1, h2⟩, h3⟩ := H1.out
    exact ⟨0, cur, by omega, rfl, h2, Lib.hid (fun j h => by omega), h1, h3⟩
  case round =>
    obtain ⟨k, cur, hk, rfl, hcs, HI, HM, HR⟩ := hrel
    by_cases hlt : k < n
    · obtain ⟨ha, hbB⟩ := HAB.out.resolve_left (by omega)
      subst ha
      obtain ⟨hbx, c0, c1, c2, c3, c4⟩ := HC.out k hlt wr HR.out
      have hkk : (k : Int) < (n : Int) := by omega
      have hBr : B < wr.heap.size := HM.out.lt
      obtain ⟨V, hV⟩ : ∃ V, wr.alloc (.cells #[.int .i64 (es k).l1, .int .i64 (es k).u1, .int .i64 (es k).l2, .int .i64 (es k).u2, .string (es k).t] 78) = V := ⟨_, rfl⟩
      have hbV : Boxed V Bs 9 (.string s) := by rw [← hV]; exact hbx.alloc _
      have cP := one_ed s Bs (es k) (ds k) (ers k) V hs (HF.out k hlt) hbV (HS.out k hlt)
      rw [← hV] at cP
      simp only [PE.vals, Ed.vals] at cP
      have CP := Lib.hid cP
      clear cP hbV hbx hV
      go_wp2_with fail
      refine CP.out.mono ?_
      rintro e w4 ⟨rfl, b4⟩
      have hb4 : Below wr.heap.size wr w4 := ((Below.refl _ _).alloc (Nat.le_refl _) _).trans (b4.mono (by simp))
      have hs4 := hb4.size
      have h5 : Below B w (w4.alloc (.cells #[.int .i64 ((ds k).f : Int), .int .i64 ((ds k).o : Int), .string (ds k).t] 84)) := (HR.out.trans (hb4.mono (by omega))).alloc (by omega) _
      have h4 : Below B w w4 := HR.out.trans (hb4.mono (by omega))
      have hM4 := (HM.out.same (hb4.block B hBr)).alloc (.cells #[.int .i64 ((ds k).f : Int), .int .i64 ((ds k).o : Int), .string (ds k).t] 84)
      have hci : ∀ i, i < 3 → ∃ v, (w4.alloc (.cells #[.int .i64 ((ds k).f : Int), .int .i64 ((ds k).o : Int), .string (ds k).t] 84)).cell? ⟨B, k * 3 + i, none⟩ = some v := by
        intro i hi
        rw [hM4.cell]
        exact ⟨cur[k * 3 + i]'(by omega), Array.getElem?_eq_getElem (by omega)⟩
      obtain ⟨v0, m0⟩ := hci 0 (by omega)
      obtain ⟨v1, m1⟩ := hci 1 (by omega)
      obtain ⟨v2, m2⟩ := hci 2 (by omega)
      rw [Nat.add_zero] at m0
      have f0 := hM4.frozen (k * 3); have f1 := hM4.frozen (k * 3 + 1); have f2 := hM4.frozen (k * 3 + 2)
      have HM4 := Lib.hid hM4; have H5 := Lib.hid h5; have H4 := Lib.hid h4
      clear b4 hb4 h5 h4 hM4 hci
      by_cases he : ers k = 0
      · have hq : (ers k != 0) = false := by simp [he]
        have HE := Lib.hid he
        obtain ⟨cur2, hcur2⟩ : ∃ c, ((cur.setIfInBounds (k * 3) (.int .i64 ((ds k).f : Int))).setIfInBounds (k * 3 + 1) (.int .i64 ((ds k).o : Int))).setIfInBounds (k * 3 + 2) (.string (ds k).t) = c := ⟨_, rfl⟩
        have hcs2 : cur2.size = n * 3 := by rw [← hcur2]; simp [hcs]
        have HI2 : Hid (∀ j, j < k + 1 → ers j = 0 ∧ ∀ i, i < 3 → cur2[j * 3 + i]? = (ds j).vals[i]?) := by
          intro j hj
          refine ⟨?_, fun i hi => ?_⟩
          · by_cases hjk : j = k
            · subst hjk; exact HE.out
            · exact (HI.out j (by omega)).1
          · rw [← hcur2]
            by_cases hjk : j = k
            · subst hjk
              have : i = 0 ∨ i = 1 ∨ i = 2 := by omega
              rcases this with rfl | rfl | rfl
              · simp [Array.getElem?_setIfInBounds, Ed.vals, hcs]; omega
              · simp [Array.getElem?_setIfInBounds, Ed.vals, hcs]; omega
              · simp [Array.getElem?_setIfInBounds, Ed.vals, hcs]; omega
            · rw [Array.getElem?_setIfInBounds_ne (by omega), Array.getElem?_setIfInBounds_ne (by omega), Array.getElem?_setIfInBounds_ne (by omega)]
              exact (HI.out j (by omega)).2 i hi
        have HM2 := Lib.hid (((HM4.out.set (k * 3) (.int .i64 ((ds k).f : Int))).set (k * 3 + 1) (.int .i64 ((ds k).o : Int))).set (k * 3 + 2) (.string (ds k).t))
        rw [hcur2] at HM2
        have HR2 := Lib.hid (((H5.out.setCell (p := ⟨B, k * 3, none⟩) (Nat.le_refl _) (.int .i64 ((ds k).f : Int))).setCell (p := ⟨B, k * 3 + 1, none⟩) (Nat.le_refl _) (.int .i64 ((ds k).o : Int))).setCell (p := ⟨B, k * 3 + 2, none⟩) (Nat.le_refl _) (.string (ds k).t))
        clear he hcur2
        go_wp2
        go_roundw
        case rel => exact ⟨k + 1, cur2, by omega, by go_num, hcs2, HI2, HM2, HR2⟩
        case measure => simp [intOf]; omega
      · have hq : (ers k != 0) = true := by simp [he]
        have HE := Lib.hid he
        clear he
        go_wp2
        go_ret2
        exact ⟨by rw [HB.out]; exact H5.out, .inl ⟨ers k, ⟨k, hlt, rfl, HE.out, fun j hj => (HI.out j hj).1⟩, rfl⟩⟩
    · obtain rfl : n = k := by omega
      have HE : Hid (ECells wr.heap.size wr (some ⟨B, 0, none⟩) n ds) := by
        refine .inr ⟨B, rfl, HM.out.lt, fun j hj i hi => ?_⟩
        rw [HM.out.cell]
        exact (HI.out j hj).2 i hi
      go_wp2
      go_ret2
      exact ⟨by rw [HB.out]; exact HR.out, .inr ⟨fun j hj => (HI.out j hj).1, some ⟨B, 0, none⟩, n, rfl, Nat.le_refl _, by omega, HE.out, fun b off hb => by cases hb; rw [HB.out]; exact Nat.le_refl _⟩⟩

theorem conv_eds (s : ByteArray) (Bs : Nat) (a : Option Addr) (n cap : Nat) (es : Nat → PE) (ds : Nat → Ed) (ers : Nat → Int) (w : World) (hs : s.size ≤ 100000) (hn : n ≤ 64) (hcap : n ≤ cap) (hfit : ∀ k, k < n → (es k).fit) (hc : PCells w.heap.size w a n es) (hbs : Boxed w Bs 9 (.string s)) (h : ∀ k, k < n → EdS (sb s) (es k) (ds k) (ers k)) :
    Calls Tryz.prog 80 #[.slice a n cap, .func (.func 81) #[] #[.pointer (some ⟨Bs, 0, none⟩)]] w (EdsPost n ds ers w) :=
  (conv_edsF s Bs a n cap es ds ers w hs hn hcap hfit hc hbs h).mono fun _ _ h => h.eds

end Go.Proofs.YtkehgoailhpenaaGreat

/- The contracts of Bytes, the program's and the reference's. Conditions: texts of at most 100000 bytes, lists of at most 1000 edits. -/
namespace Go.Proofs.YtkehgoailhpenaaGreat
open Go.RowKit Go.Shelf
set_option linter.unusedVariables false

theorem PCells.below {B : Nat} {w w' : World} {a : Option Addr} {n : Nat} {es : Nat → PE} (h : PCells B w a n es) (hb : Below B w w') : PCells B w' a n es := by
  rcases h with h | ⟨b, off, ha, hlt, hc⟩
  · exact .inl h
  · exact .inr ⟨b, off, ha, hlt, fun k hk i hi => (hb.cell (p := ⟨b, off + k * 5 + i, none⟩) hlt).trans (hc k hk i hi)⟩
theorem PCells.mono {B B' : Nat} {w : World} {a : Option Addr} {n : Nat} {es : Nat → PE} (h : PCells B w a n es) (hb : B ≤ B') : PCells B' w a n es := by
  rcases h with h | ⟨b, off, ha, hlt, hc⟩
  · exact .inl h
  · exact .inr ⟨b, off, ha, by omega, hc⟩
theorem ECells.below {B : Nat} {w w' : World} {a : Option Addr} {n : Nat} {ds : Nat → Ed} (h : ECells B w a n ds) (hb : Below B w w') : ECells B w' a n ds := by
  rcases h with h | ⟨g, ha, hlt, hc⟩
  · exact .inl h
  · exact .inr ⟨g, ha, hlt, fun k hk i hi => (hb.cell (p := ⟨g, k * 3 + i, none⟩) hlt).trans (hc k hk i hi)⟩
theorem ECells.mono {B B' : Nat} {w : World} {a : Option Addr} {n : Nat} {ds : Nat → Ed} (h : ECells B w a n ds) (hb : B ≤ B') : ECells B' w a n ds := by
  rcases h with h | ⟨g, ha, hlt, hc⟩
  · exact .inl h
  · exact .inr ⟨g, ha, by omega, hc⟩
/-- What a call of Bytes returns. -/
def BytesPost (n : Nat) (ds : Nat → Ed) (ers : Nat → Int) (w : World) (e : Ending) (w' : World) : Prop :=
  (64 < n ∧ Below w.heap.size w w' ∧ e = .returned (.tuple #[.slice none 0 0, .int .i64 4])) ∨ (n ≤ 64 ∧ EdsPost n ds ers w e w')

set_option maxRecDepth 100000 in
set_option maxHeartbeats 1000000 in
theorem pbytes_any (s : ByteArray) (a : Option Addr) (n cap : Nat) (es : Nat → PE) (ds : Nat → Ed) (ers : Nat → Int) (w : World) (hs : s.size ≤ 100000) (hn : n ≤ 1000) (hcap : n ≤ cap) (hfit : ∀ k, k < n → (es k).fit) (hc : PCells w.heap.size w a n es) (h : ∀ k, k < n → EdS (sb s) (es k) (ds k) (ers k)) :
    Calls Tryz.prog 65 #[.string s, .slice a n cap] w (BytesPost n ds ers w) := by
  obtain ⟨W1, hW1⟩ : ∃ W, w.alloc (.cells #[.string s] 9) = W := ⟨_, rfl⟩
  have hb1 : Below w.heap.size w W1 := by rw [← hW1]; exact (Below.refl _ _).alloc (Nat.le_refl _) _
  have hx1 : Boxed W1 w.heap.size 9 (.string s) := by rw [← hW1]; exact Boxed.new _ _ _
  have HB1 := Lib.hid hb1; have HW1 := Lib.hid hW1
  by_cases hlim : 64 < n
  · have hl2 : (64 : Int) < (n : Int) := by omega
    clear hW1 hx1 hb1 h hc hfit
    go_enter Tryz.func65, Tryz.ntmps65
    go_wp2
    go_ret2
    exact .inl ⟨hlim, by rw [show w.alloc (.cells #[.string s] 9) = W1 from HW1.out]; exact HB1.out, rfl⟩
  · have hl2 : ¬ (64 : Int) < (n : Int) := by omega
    have C := Lib.hid (conv_eds s w.heap.size a n cap es ds ers W1 hs (by omega) hcap hfit ((hc.below hb1).mono hb1.size) hx1 h)
    clear hW1 hx1 hb1 h hc hfit
    go_enter Tryz.func65, Tryz.ntmps65
    go_wp2_with fail
    rw [show w.alloc (.cells #[.string s] 9) = W1 from HW1.out]
    refine C.out.mono ?_
    rintro e w2 ⟨hb, hway⟩
    have H2 := Lib.hid (HB1.out.trans (hb.mono HB1.out.size))
    clear hb
    rcases hway with ⟨er, hf, rfl⟩ | ⟨hz, a2, c2, rfl, hc2⟩
    · have HF := Lib.hid hf
      clear hf
      go_wp2
      go_ret2
      exact .inr ⟨by omega, H2.out, .inl ⟨er, HF.out, rfl⟩⟩
    · have HF := Lib.hid (And.intro hz hc2)
      clear hz hc2
      go_wp2
      go_ret2
      exact .inr ⟨by omega, H2.out, .inr ⟨HF.out.1, a2, c2, rfl, HF.out.2⟩⟩

theorem roff_at {s : ByteArray} {l u : Int} {o : Nat} {er : Int} (w : World) (hs : s.size ≤ 100000) (h1 : I64n l) (h : OffSpec (sb s) l u o er) :
    Calls Tryz.prog 83 #[.string s, .agg #[.int .i64 l, .int .i64 u]] w fun e w' => e = .returned (.tuple #[.int .i64 (o : Int), .int .i64 er]) ∧ Below w.heap.size w w' := by
  refine (roff_any s l u w hs h1.2).mono ?_
  rintro e w' ⟨o', er', rfl, hsp, hb⟩
  obtain ⟨rfl, rfl⟩ := hsp.det h
  exact ⟨rfl, hb⟩
/-- The values of the first k edits. -/
def dvals (ds : Nat → Ed) (k : Nat) : List Value := (List.range k).flatMap fun j => (ds j).vals
theorem dvals_succ (ds : Nat → Ed) (k : Nat) : dvals ds (k + 1) = dvals ds k ++ (ds k).vals := by unfold dvals; rw [List.range_succ]; simp
theorem dvals_len (ds : Nat → Ed) (k : Nat) : (dvals ds k).length = k * 3 := by
  induction k with
  | zero => rfl
  | succ k ih => rw [dvals_succ, List.length_append, ih]; simp [Ed.vals]; omega
theorem dvals_get (ds : Nat → Ed) (n k i : Nat) (hk : k < n) (hi : i < 3) : (dvals ds n)[k * 3 + i]? = (ds k).vals[i]? := by
  induction n with
  | zero => omega
  | succ n ih =>
    rw [dvals_succ]
    by_cases h : k = n
    · subst h
      rw [List.getElem?_append_right (by rw [dvals_len]; omega), dvals_len]
      congr 1; omega
    · rw [List.getElem?_append_left (by rw [dvals_len]; omega)]
      exact ih (by omega)
theorem cells_new (w : World) (xs : List Value) (t : TypeId) : ∀ j u, xs[j]? = some u → (w.alloc (.cells xs.toArray t)).cell? ((⟨w.heap.size, 0, none⟩ : Addr).add j) = some u := by
  intro j u h
  have := (Blk.new w t xs.toArray).cell j
  rw [List.getElem?_toArray, h] at this
  rw [← this]
  congr 1
  by_cases h0 : j = 0 <;> simp [Addr.add, h0]

set_option maxRecDepth 100000 in
set_option maxHeartbeats 4000000 in
theorem rbytes_any (s : ByteArray) (a : Option Addr) (n cap : Nat) (es : Nat → PE) (ds : Nat → Ed) (ers : Nat → Int) (w : World) (hs : s.size ≤ 100000) (hn : n ≤ 1000) (hcap : n ≤ cap) (hfit : ∀ k, k < n → (es k).fit) (hc : PCells w.heap.size w a n es) (h : ∀ k, k < n → EdS (sb s) (es k) (ds k) (ers k)) :
    Calls Tryz.prog 66 #[.string s, .slice a n cap] w (BytesPost n ds ers w) := by
  obtain ⟨i3, hi3, hy0, hy1, hy2⟩ := info_parts infoE
  by_cases hlim : 64 < n
  · have hl2 : (64 : Int) < (n : Int) := by omega
    clear h hc hfit
    go_enter Tryz.func66, Tryz.ntmps66
    go_wp2
    go_ret2
    exact .inl ⟨hlim, Below.refl _ _, rfl⟩
  · have hl2 : ¬ (64 : Int) < (n : Int) := by omega
    obtain ⟨B, hB⟩ : ∃ B, w.heap.size = B := ⟨_, rfl⟩
    rw [hB] at hc
    have hcore : ∃ b off, (n = 0 ∨ (a = some ⟨b, off, none⟩ ∧ b < B)) ∧ ∀ k, k < n → ∀ W, Below B w W → W.cell? ⟨b, off + k * 5, none⟩ = some (.int .i64 (es k).l1) ∧ W.cell? ⟨b, off + k * 5 + 1, none⟩ = some (.int .i64 (es k).u1) ∧ W.cell? ⟨b, off + k * 5 + 2, none⟩ = some (.int .i64 (es k).l2) ∧ W.cell? ⟨b, off + k * 5 + 2 + 1, none⟩ = some (.int .i64 (es k).u2) ∧ W.cell? ⟨b, off + k * 5 + 4, none⟩ = some (.string (es k).t) := by
      rcases hc with h0 | ⟨b, off, ha, hb, hcc⟩
      · exact ⟨0, 0, .inl h0, fun k hk => by omega⟩
      · refine ⟨b, off, .inr ⟨ha, hb⟩, fun k hk W hW => ⟨?_, ?_, ?_, ?_, ?_⟩⟩
        · exact (hW.cell (p := ⟨b, off + k * 5, none⟩) hb).trans (hcc k hk 0 (by omega))
        · exact (hW.cell (p := ⟨b, off + k * 5 + 1, none⟩) hb).trans (hcc k hk 1 (by omega))
        · exact (hW.cell (p := ⟨b, off + k * 5 + 2, none⟩) hb).trans (hcc k hk 2 (by omega))
        · exact (hW.cell (p := ⟨b, off + k * 5 + 2 + 1, none⟩) hb).trans (hcc k hk 3 (by omega))
        · exact (hW.cell (p := ⟨b, off + k * 5 + 4, none⟩) hb).trans (hcc k hk 4 (by omega))
    obtain ⟨b, off, hab, hcell⟩ := hcore
    have HAB := Lib.hid hab; have HC := Lib.hid hcell; have HB := Lib.hid hB; have HS := Lib.hid h; have HF := Lib.hid hfit
    have H0 : Hid (w.ownsRow B 84 3 (.slice none 0 0) 0 (dvals ds 0)) := World.ownsRow_nil _ _ _ _
    clear hc hab hcell hB h hfit
    go_enter Tryz.func66, Tryz.ntmps66
    go_wp2_with fail
    go_loopw [6, 7] (fun v q wr => ∃ (k : Nat) (ov : Value), k ≤ n ∧ q = .int .i64 (k : Int) ∧ v = ov ∧ Hid (∀ j, j < k → ers j = 0) ∧ Hid (wr.ownsRow B 84 3 ov k (dvals ds k)) ∧ Hid (Below B w wr)) (fun _ q _ => n - (intOf q).toNat)
    case atStart => exact ⟨0, _, by omega, rfl, rfl, Lib.hid (fun j h => by omega), H0, Below.refl _ _⟩
    case round =>
      obtain ⟨k, ov, hk, rfl, rfl, HI, HO, HR⟩ := hrel
      by_cases hlt : k < n
      · obtain ⟨ha, hbB⟩ := HAB.out.resolve_left (by omega)
        subst ha
        obtain ⟨c0, c1, _, _, _⟩ := HC.out k hlt wr HR.out
        have hkk : (k : Int) < (n : Int) := by omega
        have hBr : B ≤ wr.heap.size := by have := HR.out.size; have := HB.out; omega
        obtain ⟨o1, e1, o2, e2, h1, h2, hway⟩ := HS.out k hlt
        obtain ⟨fit1, fit2, fit3, fit4⟩ := HF.out k hlt
        have ho1 := off_le h1
        have ho2 := off_le h2
        rw [sb_len] at ho1 ho2
        have C1 := Lib.hid (fun W => roff_at W hs fit1 h1)
        have C2 := Lib.hid (fun W => roff_at W hs fit3 h2)
        have HW := Lib.hid hway
        clear h1 h2 hway fit1 fit2 fit3 fit4
        go_wp2_with fail
        refine (C1.out _).mono ?_
        rintro e w4 ⟨rfl, b4⟩
        have HB4 := Lib.hid b4
        have H4 := Lib.hid (HR.out.trans (b4.mono hBr))
        obtain ⟨_, _, c2, c3, _⟩ := HC.out k hlt w4 H4.out
        have hB4 : B ≤ w4.heap.size := by have := H4.out.size; have := HB.out; omega
        clear b4 c0 c1
        by_cases he1 : e1 = 0
        · have hq1 : (e1 != 0) = false := by simp [he1]
          have HE1 := Lib.hid he1
          clear he1
          go_wp2_with fail
          refine (C2.out _).mono ?_
          rintro e w5 ⟨rfl, b5⟩
          have HB5 := Lib.hid (HB4.out.trans (b5.mono HB4.out.size))
          have H5 := Lib.hid (H4.out.trans (b5.mono hB4))
          obtain ⟨_, _, _, _, c4⟩ := HC.out k hlt w5 H5.out
          have hB5 : B ≤ w5.heap.size := by have := H5.out.size; have := HB.out; omega
          clear b5 c2 c3
          by_cases he2 : e2 = 0
          · have hq2 : (e2 != 0) = false := by simp [he2]
            have HE2 := Lib.hid he2
            clear he2
            by_cases hlo : o2 < o1
            · have hlo2 : (o2 : Int) < (o1 : Int) := by omega
              have her : ers k = 1 := by
                rcases HW.out with ⟨x, _⟩ | ⟨_, x, _⟩ | ⟨_, _, _, x, _⟩ | ⟨_, _, x, _⟩
                · exact absurd HE1.out x
                · exact absurd HE2.out x
                · exact x
                · omega
              have HER := Lib.hid her
              clear her
              go_wp2
              go_ret2
              exact .inr ⟨by omega, by rw [HB.out]; exact H5.out, .inl ⟨1, ⟨k, hlt, HER.out, by decide, HI.out⟩, rfl⟩⟩
            · have hlo2 : ¬ (o2 : Int) < (o1 : Int) := by omega
              have hres : ers k = 0 ∧ ds k = ⟨o1, o2, (es k).t⟩ := by
                rcases HW.out with ⟨x, _⟩ | ⟨_, x, _⟩ | ⟨_, _, x, _⟩ | ⟨_, _, _, x, y⟩
                · exact absurd HE1.out x
                · exact absurd HE2.out x
                · omega
                · exact ⟨x, y⟩
              have HI2 : Hid (∀ j, j < k + 1 → ers j = 0) := by
                intro j hj
                by_cases hjk : j = k
                · subst hjk; exact hres.1
                · exact HI.out j (by omega)
              have hdv : dvals ds (k + 1) = dvals ds k ++ [.int .i64 (o1 : Int), .int .i64 (o2 : Int), .string (es k).t] := by rw [dvals_succ, hres.2]; rfl
              have HDV := Lib.hid hdv
              have HO5 := Lib.hid (own_same HO.out (fun g hg => HB5.out.block g (HO.out.lt g hg).2))
              clear hres hdv
              go_wp2_with (at_builtin; refine wpList_append_own _ rfl _ _ 38 rfl B 84 i3 (.agg #[.int .i64 0, .int .i64 0, .string ⟨#[]⟩]) 3 32 Tryz.underlying38 hi3 hy0 hy1 hy2 rfl (by decide) u6 k (dvals ds k) rfl (HO5.out.alloc _) ⟨w5.heap.size, 0, none⟩ 1 1 [.int .i64 (o1 : Int), .int .i64 (o2 : Int), .string (es k).t] rfl rfl (cells_new _ [.int .i64 (o1 : Int), .int .i64 (o2 : Int), .string (es k).t] _) (fun x hx => by simp at hx; rcases hx with rfl | rfl | rfl <;> rfl) (by unfold maxLen; omega) (by omega) (by simp; omega) ?_; intro v' w6 hown6 hgrow6 _)
              have HO6 : Hid (w6.ownsRow B 84 3 v' (k + 1) (dvals ds (k + 1))) := by rw [HDV.out]; exact hown6
              have H6 : Hid (Below B w w6) := H5.out.trans (((Below.refl _ _).alloc hB5 _).grown hgrow6 (by simp; omega) (fun g eg => (HO5.out.lt g eg).1))
              clear hown6 hgrow6
              go_wp2
              go_roundw
              case rel => exact ⟨k + 1, _, by omega, by go_num, rfl, HI2, HO6, H6⟩
              case measure => simp [intOf]; omega
          · have hq2 : (e2 != 0) = true := by simp [he2]
            have her : ers k = e2 := by
              rcases HW.out with ⟨x, _⟩ | ⟨_, _, x, _⟩ | ⟨_, x, _⟩ | ⟨_, x, _⟩
              · exact absurd HE1.out x
              · exact x
              all_goals exact absurd x he2
            have HER := Lib.hid (And.intro her he2)
            clear her he2
            go_wp2
            go_ret2
            exact .inr ⟨by omega, by rw [HB.out]; exact H5.out, .inl ⟨e2, ⟨k, hlt, HER.out.1, HER.out.2, HI.out⟩, rfl⟩⟩
        · have hq1 : (e1 != 0) = true := by simp [he1]
          have her : ers k = e1 := by
            rcases HW.out with ⟨_, x, _⟩ | ⟨x, _⟩ | ⟨x, _⟩ | ⟨x, _⟩
            · exact x
            all_goals exact absurd x he1
          have HER := Lib.hid (And.intro her he1)
          clear her he1
          go_wp2
          go_ret2
          exact .inr ⟨by omega, by rw [HB.out]; exact H4.out, .inl ⟨e1, ⟨k, hlt, HER.out.1, HER.out.2, HI.out⟩, rfl⟩⟩
      · obtain rfl : n = k := by omega
        have hown := HO.out
        obtain ⟨A8, k8, hv8⟩ := own_slice hown
        subst hv8
        have hE : n ≤ k8 ∧ k8 ≤ 9223372036854775807 ∧ ECells wr.heap.size wr A8 n ds := by
          rcases hown.2 with ⟨hv, h0⟩ | ⟨g, cp, cur, hv, _, hg, h1, h2, _, _⟩
          · simp only [Value.slice.injEq] at hv
            obtain ⟨rfl, _, rfl⟩ := hv
            exact ⟨by omega, by omega, .inl h0⟩
          · simp only [Value.slice.injEq, true_and] at hv
            obtain ⟨rfl, rfl⟩ := hv
            refine ⟨h1, by unfold maxLen at h2; omega, .inr ⟨g, rfl, (Array.getElem?_eq_some_iff.1 hg).1, fun j hj i hi => ?_⟩⟩
            rw [hown.cellAt (j * 3 + i) (by omega)]
            exact dvals_get ds n j i hj hi
        have HE := Lib.hid hE
        clear hown hE
        go_wp2
        go_ret2
        exact .inr ⟨by omega, by rw [HB.out]; exact HR.out, .inr ⟨HI.out, A8, k8, rfl, HE.out⟩⟩

end Go.Proofs.YtkehgoailhpenaaGreat

/- The contract of SameEdits at two lists of the same edits. Conditions: lists of at most 1000 edits. -/
namespace Go.Proofs.YtkehgoailhpenaaGreat
open Go.RowKit Go.Shelf
set_option linter.unusedVariables false


end Go.Proofs.YtkehgoailhpenaaGreat

/- Slices of edits that come in, and what the two calls of Bytes have in common. It has no conditions. -/
namespace Go.Proofs.YtkehgoailhpenaaGreat
open Go.RowKit Go.Shelf Go.ChangeShapes
set_option linter.unusedVariables false

theorem i64n_of_wf {x : Int} (h : (Lit.int .i64 x).wf = true) : I64n x := by
  simp only [Lit.wf, IntKind.min, IntKind.max, IntKind.signed, IntKind.bits, Bool.and_eq_true] at h
  simp at h; exact ⟨by omega, by omega⟩
theorem open_pos {H : Type} {enc : TypeId × Value → H} {w : World} {base : Nat} {spare : Nat → Bool} {held : Bool} {fuel : Nat} {v0 v1 : Value} {x : DataW H × List MemPlace} (h : DataW.trod enc Tryz.prog w base spare held fuel 24 [v0, v1] = some x) :
    ∃ l u, v0 = .int .i64 l ∧ v1 = .int .i64 u ∧ I64n l ∧ I64n u := by
  obtain ⟨y0, y1, m, _, _, hy0, hy1⟩ := trod_struct2 Tryz.underlying24 h
  have c1 : Tryz.prog.cellsOf 3 = 1 := by kernel_rfl
  simp only [c1, List.drop_zero, List.take_succ_cons, List.take_zero, List.drop_succ_cons] at hy0 hy1
  obtain ⟨l, e0, _, w0⟩ := DataW.trod_int Tryz.underlying3 hy0
  obtain ⟨u, e1, _, w1⟩ := DataW.trod_int Tryz.underlying3 hy1
  simp only [List.cons.injEq, and_true] at e0 e1
  exact ⟨l, u, e0, e1, i64n_of_wf w0, i64n_of_wf w1⟩
set_option maxRecDepth 100000 in
theorem open_ed {H : Type} {enc : TypeId × Value → H} {w : World} {base : Nat} {spare : Nat → Bool} {held : Bool} {fuel : Nat} {cs : List Value} {x : DataW H × List MemPlace} (h : DataW.trod enc Tryz.prog w base spare held fuel 78 cs = some x) :
    ∃ p : PE, cs = p.vals ∧ p.fit := by
  obtain ⟨xs, n, _, _, hlen, hxl, hf⟩ := DataW.trod_struct Tryz.underlying78 h
  have c5 : Tryz.prog.cellsOf 78 = 5 := by kernel_rfl
  have c2 : Tryz.prog.cellsOf 24 = 2 := by kernel_rfl
  have c1 : Tryz.prog.cellsOf 9 = 1 := by kernel_rfl
  rw [c5] at hlen
  match cs, hlen with
  | [v0, v1, v2, v3, v4], _ =>
    match xs, hxl with
    | [z0, z1, z2], _ =>
      have g0 := hf 0 _ rfl
      have g1 := hf 1 _ rfl
      have g2 := hf 2 _ rfl
      simp [c2, c1] at g0 g1 g2
      obtain ⟨l1, u1, rfl, rfl, a1, a2⟩ := open_pos g0
      obtain ⟨l2, u2, rfl, rfl, a3, a4⟩ := open_pos g1
      obtain ⟨t, e, _, _⟩ := DataW.trod_string Tryz.underlying9 g2
      simp only [List.cons.injEq, and_true] at e
      subst e
      exact ⟨⟨l1, u1, l2, u2, t⟩, rfl, a1, a2, a3, a4⟩
theorem add_add' (b off x y : Nat) : ((⟨b, off, none⟩ : Addr).add x).add y = ⟨b, off + x + y, none⟩ := by
  by_cases hx : x = 0 <;> by_cases hy : y = 0 <;> simp [Addr.add, hx, hy]
/-- A slice of edits that came in. -/
theorem open_eds {H : Type} {enc : TypeId × Value → H} {W : World} {fuel : Nat} {a : Option Addr} {len cap : Nat} {x : DataW H × List MemPlace} (h : DataW.trod enc Tryz.prog W 0 (fun _ => true) true fuel 45 [.slice a len cap] = some x) :
    len ≤ cap ∧ cap ≤ 9223372036854775807 ∧ (a = none → cap = 0) ∧ ∃ es : Nat → PE, PCells W.heap.size W a len es ∧ ∀ k, k < len → (es k).fit := by
  have c5 : Tryz.prog.cellsOf 78 = 5 := by kernel_rfl
  rcases Deep.open_slice Tryz.underlying45 h with ⟨hcs, _⟩ | ⟨ad, l, c, m, n, D, Pl, hcs, _, hl, hm, hmm, _, hx⟩
  · simp only [List.cons.injEq, Value.slice.injEq, and_true] at hcs
    obtain ⟨rfl, rfl, rfl⟩ := hcs
    exact ⟨Nat.le_refl _, by omega, fun _ => rfl, fun _ => ⟨0, 0, 0, 0, ⟨#[]⟩⟩, .inl rfl, fun k hk => by omega⟩
  · simp only [List.cons.injEq, Value.slice.injEq, and_true] at hcs
    obtain ⟨rfl, rfl, rfl⟩ := hcs
    have hlm : len ≤ m := by rw [hmm]; simp; exact hl
    rw [c5] at hx
    have each : ∀ k, k < len → ∃ p : PE, p.fit ∧ ∀ i, i < 5 → W.cell? ((ad.add (k * 5)).add i) = p.vals[i]? := by
      intro k hk
      obtain ⟨cs', h1, h2⟩ := hx k (by omega)
      obtain ⟨_, _, hcell⟩ := World.cells?_some h1
      obtain ⟨p, rfl, hp⟩ := open_ed h2
      exact ⟨p, hp, hcell⟩
    refine ⟨hl, by unfold maxLen at hm; omega, (fun h => by cases h), fun k => if hk : k < len then (each k hk).choose else ⟨0, 0, 0, 0, ⟨#[]⟩⟩, ?_, fun k hk => by simp only [dif_pos hk]; exact (each k hk).choose_spec.1⟩
    by_cases h0 : len = 0
    · exact .inl h0
    · obtain ⟨b, off, spot⟩ := ad
      have hc0 := (each 0 (by omega)).choose_spec.2 0 (by omega)
      have hspot : spot = none := by simpa [Addr.add] using World.cell?_spot hc0
      subst hspot
      have hlt : b < W.heap.size := by
        have := World.block_lt_of_cell? W _ hc0
        simpa [Addr.add] using this
      refine .inr ⟨b, off, rfl, hlt, fun k hk i hi => ?_⟩
      have h1 := (each k hk).choose_spec.2 i hi
      simp only [dif_pos hk]
      rw [add_add'] at h1
      exact h1

/-- What the frame of a law tells of a slice of edits that came in. -/
def IsEds (w : World) (a : Option Addr) (len cap : Nat) : Prop :=
  len ≤ cap ∧ cap ≤ 9223372036854775807 ∧ (a = none → cap = 0) ∧ ∃ es : Nat → PE, PCells w.heap.size w a len es ∧ ∀ k, k < len → (es k).fit
/-- The values of the first k edits by positions. -/
def pvals (es : Nat → PE) (k : Nat) : List Value := (List.range k).flatMap fun j => (es j).vals
theorem pvals_succ (es : Nat → PE) (k : Nat) : pvals es (k + 1) = pvals es k ++ (es k).vals := by unfold pvals; rw [List.range_succ]; simp
theorem pvals_len (es : Nat → PE) (k : Nat) : (pvals es k).length = k * 5 := by
  induction k with
  | zero => rfl
  | succ k ih => rw [pvals_succ, List.length_append, ih]; simp [PE.vals]; omega
theorem pvals_get (es : Nat → PE) (n k i : Nat) (hk : k < n) (hi : i < 5) : (pvals es n)[k * 5 + i]? = (es k).vals[i]? := by
  induction n with
  | zero => omega
  | succ n ih =>
    rw [pvals_succ]
    by_cases h : k = n
    · subst h
      rw [List.getElem?_append_right (by rw [pvals_len]; omega), pvals_len]
      congr 1; omega
    · rw [List.getElem?_append_left (by rw [pvals_len]; omega)]
      exact ih (by omega)
theorem pvals_congr {es fs : Nat → PE} (n : Nat) (h : ∀ k, k < n → es k = fs k) : pvals es n = pvals fs n := by
  induction n with
  | zero => rfl
  | succ n ih => rw [pvals_succ, pvals_succ, ih (fun k hk => h k (by omega)), h n (by omega)]
/-- The cells of a slice of edits, one after another. -/
theorem pcells_get {B : Nat} {w : World} {b off n : Nat} {es : Nat → PE} (h : ∀ k, k < n → ∀ i, i < 5 → w.cell? ⟨b, off + k * 5 + i, none⟩ = (es k).vals[i]?) (m : Nat) (hm : m ≤ n) :
    ∀ j u, (pvals es m)[j]? = some u → w.cell? ((⟨b, off, none⟩ : Addr).add j) = some u := by
  intro j u hj
  have hlt : j < m * 5 := by have := (List.getElem?_eq_some_iff.1 hj).1; rwa [pvals_len] at this
  have h1 := h (j / 5) (by omega) (j % 5) (by omega)
  have h2 := pvals_get es m (j / 5) (j % 5) (by omega) (by omega)
  rw [show j / 5 * 5 + j % 5 = j by omega, hj] at h2
  rw [← h2] at h1
  rw [← h1]
  congr 1
  by_cases hz : j = 0
  · subst hz; simp [Addr.add]
  · simp [Addr.add, hz]; omega
theorem pcells_of_own {w : World} {B n : Nat} {ov : Value} {es : Nat → PE} (h : w.ownsRow B 78 5 ov n (pvals es n)) :
    ∃ A cap, ov = .slice A n cap ∧ n ≤ cap ∧ cap ≤ 9223372036854775807 ∧ PCells w.heap.size w A n es ∧ ((A = none ∧ n = 0 ∧ cap = 0) ∨ ∃ g, A = some ⟨g, 0, none⟩ ∧ B ≤ g ∧ g < w.heap.size) := by
  rcases h.2 with ⟨rfl, h0⟩ | ⟨g, cp, cur, rfl, hB, hg, h1, h2, _, _⟩
  · subst h0
    exact ⟨none, 0, rfl, Nat.le_refl _, by omega, .inl rfl, .inl ⟨rfl, rfl, rfl⟩⟩
  · have hlt := (Array.getElem?_eq_some_iff.1 hg).1
    refine ⟨some ⟨g, 0, none⟩, cp, rfl, h1, by unfold maxLen at h2; omega, .inr ⟨g, 0, rfl, hlt, fun k hk i hi => ?_⟩, .inr ⟨g, rfl, hB, hlt⟩⟩
    rw [Nat.zero_add, h.cellAt (k * 5 + i) (by omega)]
    exact pvals_get es n k i hk hi

/-- What is determined of a call of Bytes: how many edits, and the error. -/
def Det (n : Nat) (ers : Nat → Int) (m : Nat) (er : Int) : Prop :=
  (64 < n ∧ m = 0 ∧ er = 4) ∨ (n ≤ 64 ∧ FirstE n ers er ∧ m = 0) ∨ (n ≤ 64 ∧ (∀ k, k < n → ers k = 0) ∧ m = n ∧ er = 0)
theorem Det.det {n : Nat} {ers : Nat → Int} {m m' : Nat} {er er' : Int} (h : Det n ers m er) (k : Det n ers m' er') : m = m' ∧ er = er' := by
  rcases h with ⟨h1, rfl, rfl⟩ | ⟨h1, h2, rfl⟩ | ⟨h1, h2, rfl, rfl⟩ <;> rcases k with ⟨k1, rfl, rfl⟩ | ⟨k1, k2, rfl⟩ | ⟨k1, k2, rfl, rfl⟩
  · exact ⟨rfl, rfl⟩
  · omega
  · omega
  · omega
  · exact ⟨rfl, h2.det k2⟩
  · obtain ⟨i, a, b, c, _⟩ := h2
    exact absurd (k2 i a) (by rw [b]; exact c)
  · omega
  · obtain ⟨i, a, b, c, _⟩ := k2
    exact absurd (h2 i a) (by rw [b]; exact c)
  · exact ⟨rfl, rfl⟩
theorem bytes_one {n : Nat} {ds : Nat → Ed} {ers : Nat → Int} {w : World} {e : Ending} {w' : World} (h : BytesPost n ds ers w e w') :
    ∃ m er a cap, e = .returned (.tuple #[.slice a m cap, .int .i64 er]) ∧ m ≤ cap ∧ cap ≤ 9223372036854775807 ∧ ECells w'.heap.size w' a m ds ∧ Det n ers m er ∧ Below w.heap.size w w' := by
  rcases h with ⟨h1, hb, rfl⟩ | ⟨h1, hb, ⟨er, hf, rfl⟩ | ⟨hz, a, cap, rfl, h2, h3, h4⟩⟩
  · exact ⟨0, 4, none, 0, rfl, Nat.le_refl _, by omega, .inl rfl, .inl ⟨h1, rfl, rfl⟩, hb⟩
  · exact ⟨0, er, none, 0, rfl, Nat.le_refl _, by omega, .inl rfl, .inr (.inl ⟨h1, hf, rfl⟩), hb⟩
  · exact ⟨n, 0, a, cap, rfl, h2, h3, h4, .inr (.inr ⟨h1, hz, rfl, rfl⟩), hb⟩

end Go.Proofs.YtkehgoailhpenaaGreat
