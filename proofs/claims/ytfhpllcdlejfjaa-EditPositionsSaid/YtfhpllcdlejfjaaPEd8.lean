/- PEd8, with the texts that only it needs in front of it: POffP, PEd1, PEx, PEd2, PEd3, PEd4, PEd5, PEd7. It has no conditions. -/
import Derived.Test.YtfhpllcdlejfjaaPUn
import Derived.Test.YtfhpllcdlejfjaaPLib
import Derived.Test.YtfhpllcdlejfjaaPOff
import Derived.Test.YtfhpllcdlejfjaaPText
import Derived.Deep.Slices

/- The contract of the program's Offset. Conditions: texts of at most 100000 bytes. -/
namespace Go.Proofs.Ytfhpllcdlejfjaa
open Go.RowKit Go.Shelf
set_option linter.unusedVariables false

set_option maxRecDepth 100000 in
set_option maxHeartbeats 2000000 in
theorem poff_any (s : ByteArray) (l u : Int) (w : World) (hs : s.size ≤ 100000) (hl2 : -9223372036854775808 ≤ l ∧ l ≤ 9223372036854775807) (hu2 : -9223372036854775808 ≤ u ∧ u ≤ 9223372036854775807) :
    Calls Try.prog 76 #[.string s, .agg #[.int .i64 l, .int .i64 u]] w (OffPost s l u w) := by
  obtain ⟨W1, hW1⟩ : ∃ W, w.alloc (.cells #[.int .i64 l, .int .i64 u] 54) = W := ⟨_, rfl⟩
  have bR : Blk W1 w.heap.size 54 #[.int .i64 l, .int .i64 u] := by rw [← hW1]; exact Blk.new _ _ _
  have hb1 : Below w.heap.size w W1 := by rw [← hW1]; exact (Below.refl _ _).alloc (Nat.le_refl _) _
  have cL := plines_any s W1 hs
  obtain ⟨nL, hnL⟩ : ∃ n, (lns (sb s)).length = n := ⟨_, rfl⟩
  have hnl2 : nL ≤ 100001 := by have := lnsF_len 0 (sb s); rw [sb_len] at this; rw [← hnL]; simp [lns]; omega
  have CL := Lib.hid cL; have HB := Lib.hid (And.intro bR hb1); have HW := Lib.hid hW1; have HNL := Lib.hid hnL
  clear cL bR hb1 hW1 hnL
  go_enter Try.func76, Try.ntmps76
  go_wp2_with fail
  rw [show w.alloc (.cells #[.int .i64 l, .int .i64 u] 54) = W1 from HW.out]
  refine CL.out.mono ?_
  rintro e w2 h2
  obtain ⟨A2, k2, rfl, row2, b2⟩ := row_of_new h2
  rw [HNL.out] at row2 ⊢
  obtain ⟨X, hX⟩ : ∃ X, w.heap.size = X := ⟨_, rfl⟩
  have hcell : ∀ W, Below w2.heap.size w2 W → W.cell? ⟨X, 0, none⟩ = some (.int .i64 l) ∧ W.cell? ⟨X, 1, none⟩ = some (.int .i64 u) := by
    intro W hW
    have h1 := HB.out.1.same (b2.block _ HB.out.1.lt)
    rw [hX] at h1
    have h2 := h1.same (hW.block X h1.lt)
    exact ⟨by simpa using h2.cell 0, by simpa using h2.cell 1⟩
  obtain ⟨c0, c1⟩ := hcell w2 (Below.refl _ _)
  have hcap := row2.sli.le
  have hmx := row2.sli.mx
  rw [HNL.out] at hcap
  have hRW := HB.out.1.lt
  have hbX : Below X w w2 := by rw [← hX]; exact HB.out.2.trans (b2.mono (by omega))
  have H2 : Hid (Row .i64 3 W1.heap.size w2.heap.size w2 A2 nL k2 (lns (sb s)) ∧ Below X w w2) := ⟨row2, hbX⟩
  have HX := Lib.hid hX; have HC := Lib.hid hcell
  rw [HX.out]
  clear h2 row2 b2 CL hbX hX hcell
  by_cases hbad : l < 0 ∨ (nL : Int) ≤ l
  · have hways : l < 0 ∨ (¬ l < 0 ∧ (nL : Int) ≤ l) := by omega
    have hspec : OffSpec (sb s) l u 0 5 := by
      refine .inr (.inr ⟨rfl, rfl, ?_⟩)
      rintro ⟨l', u', E, v, rfl, rfl, he, _⟩
      rcases hbad with h | h
      · omega
      · exact no_line (by rw [HNL.out]; omega) he.1
    have HS := Lib.hid hspec
    clear hbad hspec
    rcases hways with h1 | ⟨h1, h3⟩
    all_goals
      go_wp2
      go_ret2
      exact ⟨0, 5, rfl, HS.out, by rw [HX.out]; exact H2.out.2⟩
  · obtain ⟨k, rfl⟩ : ∃ k : Nat, l = (k : Int) := ⟨l.toNat, by omega⟩
    have hk : k < nL := by omega
    have n1 : ¬ (k : Int) < 0 := by omega
    have n3 : ¬ (nL : Int) ≤ (k : Int) := by omega
    obtain ⟨g, t, q1, q2, q3, q4, q5, q6, _, _⟩ := line_at (Z := sb s) (k := k) (by rw [HNL.out]; exact hk)
    obtain ⟨gA, hA2, _, hgA, hck, _⟩ := H2.out.1.at_ (j := k) hk
    rw [q1] at hck
    subst hA2
    rw [sb_len] at q3
    have cC := fun W => cut_any (s.extract g s.size) (t - g) W (by rw [ByteArray.size_extract]; omega) (fst10_line q2 q3 q4 q5 q6)
    obtain ⟨T, hT⟩ : ∃ T, s.extract g s.size = T := ⟨_, rfl⟩
    obtain ⟨M, hM⟩ : ∃ M, T.extract 0 (t - g) = M := ⟨_, rfl⟩
    have hMe : M = s.extract g t := by rw [← hM, ← hT]; exact extract_line s q2 q3
    have hMs : M.size ≤ 100000 := by rw [hMe, ByteArray.size_extract]; omega
    obtain ⟨v, hv⟩ : ∃ v, unis (((sb s).drop g).take (t - g)) = v := ⟨_, rfl⟩
    rw [hv] at q6
    have hsb : sb M = ((sb s).drop g).take (t - g) := by rw [hMe, sb_extract]
    have cU := fun W => punits_any M W hMs
    rw [hsb, hv] at cU
    rw [hT] at cC
    unfold CutPost at cC
    rw [hM] at cC
    have HT := Lib.hid hT
    have hvb : v ≤ 300000 := by rw [← hv, ← hsb]; have := unis_le (sb M); rw [sb_len] at this; omega
    have hgs : (g : Int) ≤ (s.size : Int) := by omega
    have CC := Lib.hid cC
    have K1 : Hid (∀ W, Below w2.heap.size w2 W → Calls Try.prog 55 #[.string M] W fun e w' => e = .returned (.int .i64 (v : Int)) ∧ Below w2.heap.size w2 w' ∧ w'.cell? ⟨X, 0, none⟩ = some (.int .i64 (k : Int)) ∧ w'.cell? ⟨X, 1, none⟩ = some (.int .i64 u)) := by
      intro W hW
      refine (cU W).mono ?_
      rintro e w' ⟨rfl, hb⟩
      have hbb := hW.trans (hb.mono hW.size)
      exact ⟨rfl, hbb, HC.out _ hbb⟩
    clear hT cC cU
    by_cases hu : u < 0
    · have hspec : OffSpec (sb s) (k : Int) u 0 5 := .inr (.inr ⟨rfl, rfl, by rintro ⟨l', u', E, v', _, hu', _, _⟩; omega⟩)
      have HS := Lib.hid hspec
      clear hspec q1 q4 q5 q6 hv hM hMe hsb
      go_wp2_with fail
      rw [show s.extract g s.size = T from HT.out]
      refine (CC.out _).mono ?_
      rintro e w3 ⟨t3, b3, rfl, bb3⟩
      have hd := HC.out w3 bb3
      obtain ⟨d0, d1⟩ := hd
      have B3 := Lib.hid bb3
      clear bb3 c0 c1 hck
      go_wp2_with fail
      go_quiet (fail)
      go_wp2
      go_ret2
      exact ⟨0, 5, rfl, HS.out, by rw [HX.out]; exact below_drewN (H2.out.2.trans (B3.out.mono (by have := H2.out.2.size; have := HX.out; omega))) _⟩
    · obtain ⟨x, rfl⟩ : ∃ x : Nat, u = (x : Int) := ⟨u.toNat, by omega⟩
      have n2 : ¬ (x : Int) < 0 := by omega
      obtain ⟨sp1, sp2, sp3⟩ := line_spec (x := x) q2 (by rw [sb_len]; exact q3) q4 q5 q6
      rw [← hsb] at sp2 sp3
      have cS := fun W => skip_any M x W hMs (by omega)
      have SP1 := Lib.hid sp1; have SP2 := Lib.hid sp2; have SP3 := Lib.hid sp3; have CS := Lib.hid cS
      clear hu q1 q4 q5 q6 hv hM hMe hsb sp1 sp2 sp3 cS
      go_wp2_with fail
      rw [show s.extract g s.size = T from HT.out]
      refine (CC.out _).mono ?_
      rintro e w3 ⟨t3, b3, rfl, bb3⟩
      have hd := HC.out w3 bb3
      obtain ⟨d0, d1⟩ := hd
      have B3 := Lib.hid bb3
      have b0 : Below w2.heap.size w2 w3.drew := bb3.drew
      clear bb3 c0 c1 hck
      by_cases hxv : v < x
      · have HS := Lib.hid (SP1.out hxv)
        have hxv' : (v : Int) < (x : Int) := by omega
        go_wp2_with fail
        go_region_held3 (fun w' => w'.cell? ⟨X, 1, none⟩ = some (.int .i64 (x : Int))) (first | exact e1 | exact d1)
          (first | (go_at_call 55; refine (K1.out _ b0).mono ?_; rintro e wA ⟨rfl, bA, e0, e1⟩))
        all_goals
          have BA := Lib.hid bA
          clear bA
          go_wp2
          go_ret2
          exact ⟨0, 5, rfl, HS.out, by rw [HX.out]; exact H2.out.2.trans ((BA.out.mono (by have := H2.out.2.size; have := HX.out; omega)))⟩
      · have hxv' : ¬ (v : Int) < (x : Int) := by omega
        go_wp2_with fail
        go_region_held3 (fun w' => w'.cell? ⟨X, 1, none⟩ = some (.int .i64 (x : Int))) (first | exact e1 | exact d1)
          (first | (go_at_call 55; refine (K1.out _ b0).mono ?_; rintro e wA ⟨rfl, bA, e0, e1⟩))
        all_goals
          have BA := Lib.hid bA
          clear bA
          go_wp2_with fail
          refine (CS.out _).mono ?_
          rintro e w5 ⟨n, b, rfl, hsk, b5⟩
          have B5 : Hid (Below X w w5) := H2.out.2.trans ((BA.out.mono (by have := H2.out.2.size; have := HX.out; omega)).trans (b5.mono (by have := BA.out.size; have := H2.out.2.size; have := HX.out; omega)))
          clear b5
          cases b with
          | true =>
            obtain ⟨y1, y2, y3⟩ := SP2.out n x (hsk.2.1 rfl)
            have HS := Lib.hid (y3 rfl)
            clear y2 y3 hsk
            go_wp2
            go_ret2
            exact ⟨g + n, 0, by push_cast; rfl, HS.out, by rw [HX.out]; exact B5.out⟩
          | false =>
            have HS := Lib.hid (SP3.out (by omega) (fun j y hj hy => hsk.2.2 rfl ⟨j, by rw [← hy]; exact hj⟩))
            clear hsk
            go_wp2
            go_ret2
            exact ⟨0, 1, rfl, HS.out, by rw [HX.out]; exact B5.out⟩

end Go.Proofs.Ytfhpllcdlejfjaa

/- The contract of the program's conversion of the two positions of an edit. Conditions: texts of at most 100000 bytes. -/
namespace Go.Proofs.Ytfhpllcdlejfjaa
open Go.RowKit Go.Shelf
set_option linter.unusedVariables false

/-- A number of 64 bits. -/
def I64n (n : Int) : Prop := -9223372036854775808 ≤ n ∧ n ≤ 9223372036854775807
set_option maxRecDepth 100000 in
set_option maxHeartbeats 1000000 in
theorem one_pos (s : ByteArray) (Bs : Nat) (l u : Int) (o : Nat) (er : Int) (w : World) (hs : s.size ≤ 100000) (hl : I64n l) (hu : I64n u) (hbs : Boxed w Bs 9 (.string s)) (h : OffSpec (sb s) l u o er) :
    Calls Try.prog 75 #[.agg #[.int .i64 l, .int .i64 u], .pointer (some ⟨Bs, 0, none⟩)] w fun e w' => e = .returned (.tuple #[.int .i64 (o : Int), .int .i64 er]) ∧ Below w.heap.size w w' := by
  have c2 := (hbs.alloc (.cells #[.int .i64 l, .int .i64 u] 54)).cell
  have hb0 : Below w.heap.size w (w.alloc (.cells #[.int .i64 l, .int .i64 u] 54)) := (Below.refl _ _).alloc (Nat.le_refl _) _
  have C := Lib.hid (fun W => poff_any s l u W hs hl hu)
  have HH := Lib.hid h; have HB0 := Lib.hid hb0
  clear h hb0 hbs
  go_enter Try.func75, Try.ntmps75
  go_wp2_with fail
  refine (C.out _).mono ?_
  rintro e w' ⟨o', er', rfl, hsp, hb⟩
  obtain ⟨rfl, rfl⟩ := HH.out.det hsp
  have H1 : Hid (Below w.heap.size w w') := HB0.out.trans (hb.mono (by simp))
  clear hsp hb
  go_wp2
  go_ret2
  exact ⟨rfl, H1.out⟩

set_option maxRecDepth 100000 in
set_option maxHeartbeats 2000000 in
theorem two_pos (s : ByteArray) (Q Bs : Nat) (l u : Nat → Int) (o : Nat → Nat) (er : Nat → Int) (w : World) (hs : s.size ≤ 100000) (hl : ∀ k, I64n (l k) ∧ I64n (u k))
    (hq : Blk w Q 54 #[.int .i64 (l 0), .int .i64 (u 0), .int .i64 (l 1), .int .i64 (u 1)]) (hbs : Boxed w Bs 9 (.string s)) (h : ∀ k, k < 2 → OffSpec (sb s) (l k) (u k) (o k) (er k)) :
    Calls Try.prog 74 #[.slice (some ⟨Q, 0, none⟩) 2 2, .func (.func 75) #[] #[.pointer (some ⟨Bs, 0, none⟩)]] w fun e w' => Below w.heap.size w w' ∧
      ((∃ k, k < 2 ∧ er k ≠ 0 ∧ (∀ j, j < k → er j = 0) ∧ e = .returned (.tuple #[.slice none 0 0, .int .i64 (er k)])) ∨
       (er 0 = 0 ∧ er 1 = 0 ∧ ∃ g, e = .returned (.tuple #[.slice (some ⟨g, 0, none⟩) 2 2, .int .i64 0]) ∧ w'.cell? ⟨g, 0, none⟩ = some (.int .i64 (o 0 : Int)) ∧ w'.cell? ⟨g, 1, none⟩ = some (.int .i64 (o 1 : Int)))) := by
  obtain ⟨i3, hi3, hy0, hy1, hy2⟩ := info_parts info3
  obtain ⟨B, hB⟩ : ∃ B, w.heap.size = B := ⟨_, rfl⟩
  have hQB : Q < B := by rw [← hB]; exact hq.lt
  have hBB : Bs < B := by rw [← hB]; exact hbs.lt
  have hcell : ∀ k, k < 2 → ∀ W, Below B w W → W.cell? ⟨Q, k * 2, none⟩ = some (.int .i64 (l k)) ∧ W.cell? ⟨Q, k * 2 + 1, none⟩ = some (.int .i64 (u k)) ∧ Boxed W Bs 9 (.string s) := by
    intro k hk W hW
    have h1 := hq.same (hW.block Q hQB)
    have h2 : Boxed W Bs 9 (.string s) := (hW.block Bs hBB).trans hbs
    have : k = 0 ∨ k = 1 := by omega
    rcases this with rfl | rfl
    · exact ⟨by simpa using h1.cell 0, by simpa using h1.cell 1, h2⟩
    · exact ⟨by simpa using h1.cell 2, by simpa using h1.cell 3, h2⟩
  have HC := Lib.hid hcell; have HB := Lib.hid hB; have HS := Lib.hid h; have HL := Lib.hid hl
  clear hcell hB h hl hq hbs
  go_enter Try.func74, Try.ntmps74
  go_wp2_with (at_make; refine wpList_make_full _ rfl _ _ 23 rfl w.heap.size 3 i3 (.int .i64 0) 1 Try.underlying23 hi3 hy0 hy1 .i64 .i64 _ _ 2 rfl rfl rfl rfl (by rw [hy2]; omega) (by unfold maxLen; omega) (Nat.le_refl _) ?_; intro w1 hown1 hgrow1)
  have H1 : Hid (Row .i64 3 B w1.heap.size w1 (some ⟨B, 0, none⟩) 2 2 [0, 0] ∧ Below B w w1) := by
    rw [HB.out, show (madeCells (Value.int IntKind.i64 0).cells (2 * 1)).toList = List.map (Value.int .i64) [0, 0] from toList_madeCells_one _ 2] at hown1
    exact ⟨row_of_own hown1, (Below.refl _ _).grown hgrow1 (by rw [HB.out]; exact Nat.le_refl _) (fun k e => by cases e)⟩
  rw [HB.out]
  clear hown1 hgrow1
  go_loopw [16] (fun q wr => ∃ (k : Nat) (xs : List Int), k ≤ 2 ∧ q = .int .i64 (k : Int) ∧ Hid (∀ j, j < k → er j = 0 ∧ xs[j]?.getD 0 = (o j : Int)) ∧ Hid (Row .i64 3 B w1.heap.size wr (some ⟨B, 0, none⟩) 2 2 xs ∧ Below B w wr)) (fun q _ => 2 - (intOf q).toNat)
  case atStart => exact ⟨0, [0, 0], by omega, rfl, Lib.hid (fun j h => by omega), H1⟩
  case round =>
    obtain ⟨k, xs, hk, rfl, HI, HR⟩ := hrel
    by_cases hlt : k < 2
    · obtain ⟨c0, c1, hbx⟩ := HC.out k hlt wr HR.out.2
      have hkk : (k : Int) < 2 := by omega
      have hsz : w1.heap.size ≤ wr.heap.size := HR.out.1.sz
      have hBr : B ≤ wr.heap.size := by have := HR.out.2.size; have := HB.out; omega
      obtain ⟨V, hV⟩ : ∃ V, wr.alloc (.cells #[.int .i64 (l k), .int .i64 (u k)] 54) = V := ⟨_, rfl⟩
      have hbV : Boxed V Bs 9 (.string s) := by rw [← hV]; exact hbx.alloc _
      have cP := one_pos s Bs (l k) (u k) (o k) (er k) V hs (HL.out k).1 (HL.out k).2 hbV (HS.out k hlt)
      rw [← hV] at cP
      have CP := Lib.hid cP
      clear cP hbV hbx hV
      go_wp2_with fail
      refine CP.out.mono ?_
      rintro e w4 ⟨rfl, b4⟩
      have HB4 : Hid (Below wr.heap.size wr w4) := ((Below.refl _ _).alloc (Nat.le_refl _) _).trans (b4.mono (by simp))
      have H4 : Hid (Below B w w4) := HR.out.2.trans (HB4.out.mono hBr)
      have hrow := HR.out.1.below HB4.out hsz
      obtain ⟨g', hA', _, _, hck, hfz, hst⟩ := hrow.at_ (j := k) hlt
      simp only [Option.some.injEq, Addr.mk.injEq, and_true] at hA'
      subst hA'
      have HST := Lib.hid (hst (o k : Int))
      clear b4 hrow hst
      by_cases he : er k = 0
      · have hq : (er k != 0) = false := by simp [he]
        have HE := Lib.hid he
        have HI2 : Hid (∀ j, j < k + 1 → er j = 0 ∧ (xs.set k (o k : Int))[j]?.getD 0 = (o j : Int)) := by
          intro j hj
          by_cases hjk : j = k
          · subst hjk
            have hlen := HR.out.1.len
            exact ⟨HE.out, by rw [List.getElem?_set_self (by omega)]; rfl⟩
          · obtain ⟨h1, h2⟩ := HI.out j (by omega)
            exact ⟨h1, by rw [List.getElem?_set_ne (by omega)]; exact h2⟩
        have H5 : Hid (Row .i64 3 B w1.heap.size (w4.setCell ⟨B, k, none⟩ (.int .i64 (o k : Int))) (some ⟨B, 0, none⟩) 2 2 (xs.set k (o k : Int)) ∧ Below B w (w4.setCell ⟨B, k, none⟩ (.int .i64 (o k : Int)))) :=
          ⟨HST.out.1, H4.out.setCell (p := ⟨B, k, none⟩) (Nat.le_refl _) _⟩
        clear he
        go_wp2
        go_roundw
        case rel => exact ⟨k + 1, _, by omega, by go_num, HI2, H5⟩
        case measure => simp [intOf]; omega
      · have hq : (er k != 0) = true := by simp [he]
        have HE := Lib.hid he
        clear he
        go_wp2
        go_ret2
        exact ⟨by rw [HB.out]; exact H4.out, .inl ⟨k, hlt, HE.out, fun j hj => (HI.out j hj).1, rfl⟩⟩
    · obtain rfl : 2 = k := by omega
      obtain ⟨g0, hA0, _, _, d0, _⟩ := HR.out.1.at_ (j := 0) (by omega)
      obtain ⟨g1, hA1, _, _, d1, _⟩ := HR.out.1.at_ (j := 1) (by omega)
      simp only [Option.some.injEq, Addr.mk.injEq, and_true] at hA0 hA1
      subst hA0 hA1
      rw [(HI.out 0 (by omega)).2] at d0
      rw [(HI.out 1 (by omega)).2] at d1
      have HD := Lib.hid (And.intro d0 d1)
      clear d0 d1
      go_wp2
      go_ret2
      exact ⟨by rw [HB.out]; exact HR.out.2, .inr ⟨(HI.out 0 (by omega)).1, (HI.out 1 (by omega)).1, B, rfl, HD.out.1, HD.out.2⟩⟩

end Go.Proofs.Ytfhpllcdlejfjaa

/- The chapter's examples, in the words of the specification. It has no conditions. -/
namespace Go.Proofs.Ytfhpllcdlejfjaa
open Go.RowKit
set_option linter.unusedVariables false

/-- Whole characters, as a test. -/
def bordB : Nat → List Int → Nat → Nat → Bool
  | 0, _, i, u => decide (i = 0 ∧ u = 0)
  | n + 1, Z, i, u => decide (i = 0 ∧ u = 0) || (!Z.isEmpty && decide ((chr Z).1 ≤ i ∧ (chr Z).2 ≤ u) && bordB n (Z.drop (chr Z).1) (i - (chr Z).1) (u - (chr Z).2))
theorem bord_of {n : Nat} : ∀ {Z : List Int} {i u : Nat}, bordB n Z i u = true → Bord Z i u := by
  induction n with
  | zero => intro Z i u h; have : i = 0 ∧ u = 0 := by simpa [bordB] using h
            obtain ⟨rfl, rfl⟩ := this; exact Bord.zero _
  | succ n ih =>
    intro Z i u h
    simp only [bordB, Bool.or_eq_true, Bool.and_eq_true, decide_eq_true_eq, Bool.not_eq_true'] at h
    rcases h with ⟨rfl, rfl⟩ | ⟨⟨h1, h2, h3⟩, h4⟩
    · exact Bord.zero _
    · have := Bord.step (Z := Z) (by rintro rfl; simp at h1) (ih h4)
      rwa [show (chr Z).1 + (i - (chr Z).1) = i by omega, show (chr Z).2 + (u - (chr Z).2) = u by omega] at this
abbrev exB : ByteArray := ⟨#[97, 240, 159, 152, 128, 10, 226, 130, 172, 98]⟩
def exZ : List Int := [97, 240, 159, 152, 128, 10, 226, 130, 172, 98]
theorem ex_sb : sb exB = exZ := by decide +kernel
theorem ex_units : unis (sb exB) = 6 := by
  rw [ex_sb]
  have h : Bord exZ 10 6 := bord_of (n := 12) (by decide +kernel)
  have := h.unis_take
  rwa [show exZ.take 10 = exZ by decide] at this
theorem ex_p5 : Pos exZ 5 0 3 := ⟨⟨3, bord_of (n := 12) (by decide +kernel)⟩, by decide +kernel, by rw [show (lf exZ 5).2 = 0 by decide +kernel]; exact bord_of (n := 12) (by decide +kernel)⟩
theorem ex_at5 : AtSpec (sb exB) 5 0 3 0 := by rw [ex_sb]; exact .inr (.inr ⟨rfl, 5, rfl, ex_p5⟩)
theorem ex_at9 : AtSpec (sb exB) 9 1 1 0 := by
  rw [ex_sb]
  exact .inr (.inr ⟨rfl, 9, rfl, ⟨⟨5, bord_of (n := 12) (by decide +kernel)⟩, by decide +kernel, by rw [show (lf exZ 9).2 = 6 by decide +kernel]; exact bord_of (n := 12) (by decide +kernel)⟩⟩)
theorem ex_b1 : Bord exZ 1 1 := bord_of (n := 12) (by decide +kernel)
theorem ex_c1 : (chr (exZ.drop 1)).1 = 4 := by decide +kernel
theorem ex_at2 : AtSpec (sb exB) 2 0 0 1 := by
  rw [ex_sb]
  refine .inr (.inl ⟨rfl, rfl, rfl, 2, rfl, by decide, ?_⟩)
  rintro ⟨U, hU⟩
  have := ex_b1.next hU (by decide)
  rw [ex_c1] at this; omega
theorem ex_off12 : OffSpec (sb exB) 1 2 10 0 := by
  rw [ex_sb]
  exact .inl ⟨rfl, 1, 2, rfl, rfl, ⟨⟨6, bord_of (n := 12) (by decide +kernel)⟩, by decide +kernel, by rw [show (lf exZ 10).2 = 6 by decide +kernel]; exact bord_of (n := 12) (by decide +kernel)⟩⟩
theorem ex_eol : Eol exZ 5 0 3 := ⟨ex_p5, .inr (by decide +kernel)⟩
theorem ex_off02 : OffSpec (sb exB) 0 2 0 1 := by
  rw [ex_sb]
  refine .inr (.inl ⟨rfl, rfl, 0, 2, 5, 3, rfl, rfl, ex_eol, by decide, ?_⟩)
  rintro ⟨o, ho⟩
  have hs := ho.same ex_p5
  have h0 : lf exZ 5 = (0, 0) := by decide +kernel
  have hb := ho.2.2
  rw [hs, h0] at hb
  simp only [List.drop_zero, Nat.sub_zero] at hb
  rcases Nat.lt_trichotomy o 1 with h | h | h
  · have := hb.lt ex_b1 h; omega
  · subst h; have := hb.det ex_b1; omega
  · have := ex_b1.next hb h
    rw [ex_c1] at this
    have h5 : Bord exZ 5 3 := bord_of (n := 12) (by decide +kernel)
    rcases Nat.lt_or_ge 5 o with h2 | h2
    · have := h5.lt hb h2; omega
    · obtain rfl : o = 5 := by omega
      have := hb.det h5; omega
theorem ex_off04 : OffSpec (sb exB) 0 4 0 5 := by
  rw [ex_sb]
  refine .inr (.inr ⟨rfl, rfl, ?_⟩)
  rintro ⟨l', u', E, v, hl, hu, he, hv⟩
  obtain rfl : l' = 0 := by omega
  obtain ⟨_, rfl⟩ := ex_eol.det he
  omega

end Go.Proofs.Ytfhpllcdlejfjaa

/- The contract of the program's conversion of one edit. Conditions: texts of at most 100000 bytes. -/
namespace Go.Proofs.Ytfhpllcdlejfjaa
open Go.RowKit Go.Shelf
set_option linter.unusedVariables false

theorem off_total (Z : List Int) (l u : Int) : ∃ o e, OffSpec Z l u o e := by
  by_cases h1 : ∃ o l' u' : Nat, l = l' ∧ u = u' ∧ Pos Z o l' u'
  · obtain ⟨o, l', u', a, b, c⟩ := h1
    exact ⟨o, 0, .inl ⟨rfl, l', u', a, b, c⟩⟩
  · by_cases h2 : ∃ l' u' E v : Nat, l = l' ∧ u = u' ∧ Eol Z E l' v ∧ u' ≤ v
    · obtain ⟨l', u', E, v, a, b, c, d⟩ := h2
      exact ⟨0, 1, .inr (.inl ⟨rfl, rfl, l', u', E, v, a, b, c, d, fun ⟨o, ho⟩ => h1 ⟨o, l', u', a, b, ho⟩⟩)⟩
    · exact ⟨0, 5, .inr (.inr ⟨rfl, rfl, h2⟩)⟩
theorem off_le {Z : List Int} {l u : Int} {o : Nat} {e : Int} (h : OffSpec Z l u o e) : o ≤ Z.length := by
  rcases h with ⟨_, _, _, _, _, h⟩ | ⟨_, rfl, _⟩ | ⟨_, rfl, _⟩
  · exact h.lt
  · exact Nat.zero_le _
  · exact Nat.zero_le _
/-- An edit by positions, and an edit by offsets. -/
structure PE where
  l1 : Int
  u1 : Int
  l2 : Int
  u2 : Int
  t : ByteArray
structure Ed where
  f : Nat
  o : Nat
  t : ByteArray
def Ed.zero : Ed := ⟨0, 0, ⟨#[]⟩⟩
def PE.vals (p : PE) : List Value := [.int .i64 p.l1, .int .i64 p.u1, .int .i64 p.l2, .int .i64 p.u2, .string p.t]
def Ed.vals (d : Ed) : List Value := [.int .i64 (d.f : Int), .int .i64 (d.o : Int), .string d.t]
def PE.fit (p : PE) : Prop := I64n p.l1 ∧ I64n p.u1 ∧ I64n p.l2 ∧ I64n p.u2
/-- What an edit by positions becomes. -/
def EdS (Z : List Int) (p : PE) (d : Ed) (er : Int) : Prop :=
  ∃ o1 e1 o2 e2, OffSpec Z p.l1 p.u1 o1 e1 ∧ OffSpec Z p.l2 p.u2 o2 e2 ∧
    ((e1 ≠ 0 ∧ er = e1 ∧ d = Ed.zero) ∨ (e1 = 0 ∧ e2 ≠ 0 ∧ er = e2 ∧ d = Ed.zero) ∨ (e1 = 0 ∧ e2 = 0 ∧ o2 < o1 ∧ er = 1 ∧ d = Ed.zero) ∨ (e1 = 0 ∧ e2 = 0 ∧ o1 ≤ o2 ∧ er = 0 ∧ d = ⟨o1, o2, p.t⟩))
theorem EdS.det {Z : List Int} {p : PE} {d d' : Ed} {er er' : Int} (h : EdS Z p d er) (k : EdS Z p d' er') : d = d' ∧ er = er' := by
  obtain ⟨o1, e1, o2, e2, a1, a2, h⟩ := h
  obtain ⟨o3, e3, o4, e4, b1, b2, k⟩ := k
  obtain ⟨rfl, rfl⟩ := a1.det b1
  obtain ⟨rfl, rfl⟩ := a2.det b2
  rcases h with ⟨h1, rfl, rfl⟩ | ⟨h1, h2, rfl, rfl⟩ | ⟨h1, h2, h3, rfl, rfl⟩ | ⟨h1, h2, h3, rfl, rfl⟩ <;> rcases k with ⟨k1, rfl, rfl⟩ | ⟨k1, k2, rfl, rfl⟩ | ⟨k1, k2, k3, rfl, rfl⟩ | ⟨k1, k2, k3, rfl, rfl⟩ <;> first | exact ⟨rfl, rfl⟩ | omega
theorem ed_total (Z : List Int) (p : PE) : ∃ d er, EdS Z p d er := by
  obtain ⟨o1, e1, h1⟩ := off_total Z p.l1 p.u1
  obtain ⟨o2, e2, h2⟩ := off_total Z p.l2 p.u2
  by_cases a : e1 = 0
  · by_cases b : e2 = 0
    · by_cases c : o2 < o1
      · exact ⟨_, _, o1, e1, o2, e2, h1, h2, .inr (.inr (.inl ⟨a, b, c, rfl, rfl⟩))⟩
      · exact ⟨_, _, o1, e1, o2, e2, h1, h2, .inr (.inr (.inr ⟨a, b, by omega, rfl, rfl⟩))⟩
    · exact ⟨_, _, o1, e1, o2, e2, h1, h2, .inr (.inl ⟨a, b, rfl, rfl⟩)⟩
  · exact ⟨_, _, o1, e1, o2, e2, h1, h2, .inl ⟨a, rfl, rfl⟩⟩

set_option maxRecDepth 100000 in
set_option maxHeartbeats 2000000 in
theorem inb_any (s : ByteArray) (p : PE) (d : Ed) (er : Int) (w : World) (hs : s.size ≤ 100000) (hp : p.fit) (h : EdS (sb s) p d er) :
    Calls Try.prog 58 #[.string s, .agg p.vals.toArray] w fun e w' => e = .returned (.tuple #[.agg d.vals.toArray, .int .i64 er]) ∧ Below w.heap.size w w' := by
  obtain ⟨l1, u1, l2, u2, t⟩ := p
  obtain ⟨hp1, hp2, hp3, hp4⟩ := hp
  obtain ⟨o1, e1, o2, e2, h1, h2, h⟩ := h
  simp only [PE.vals] at h1 h2 ⊢
  have hl1 := off_le h1
  have hl2 := off_le h2
  rw [sb_len] at hl1 hl2
  have cT := fun W Q Bs => two_pos s Q Bs (fun k => if k = 0 then l1 else l2) (fun k => if k = 0 then u1 else u2) (fun k => if k = 0 then o1 else o2) (fun k => if k = 0 then e1 else e2) W hs (fun k => by by_cases h : k = 0 <;> simp [h, hp1, hp2, hp3, hp4])
  simp only [if_pos, Nat.one_ne_zero, if_false] at cT
  have cT2 : ∀ W Q Bs, Blk W Q 54 #[.int .i64 l1, .int .i64 u1, .int .i64 l2, .int .i64 u2] → Boxed W Bs 9 (.string s) →
      Calls Try.prog 74 #[.slice (some ⟨Q, 0, none⟩) 2 2, .func (.func 75) #[] #[.pointer (some ⟨Bs, 0, none⟩)]] W fun e w' => Below W.heap.size W w' ∧
        ((e1 ≠ 0 ∧ e = .returned (.tuple #[.slice none 0 0, .int .i64 e1])) ∨ (e1 = 0 ∧ e2 ≠ 0 ∧ e = .returned (.tuple #[.slice none 0 0, .int .i64 e2])) ∨
         (e1 = 0 ∧ e2 = 0 ∧ ∃ g, e = .returned (.tuple #[.slice (some ⟨g, 0, none⟩) 2 2, .int .i64 0]) ∧ w'.cell? ⟨g, 0, none⟩ = some (.int .i64 (o1 : Int)) ∧ w'.cell? ⟨g, 1, none⟩ = some (.int .i64 (o2 : Int)))) := by
    intro W Q Bs a b
    refine (cT W Q Bs a b (fun k hk => ?_)).mono ?_
    · by_cases hk0 : k = 0
      · simp only [if_pos hk0]; exact h1
      · simp only [if_neg hk0]; exact h2
    · rintro e w' ⟨hb, ⟨k, hk, he, hj, rfl⟩ | ⟨ha, hb2, hg⟩⟩
      · refine ⟨hb, ?_⟩
        by_cases hk0 : k = 0
        · simp only [if_pos hk0] at he ⊢; exact .inl ⟨he, by trivial⟩
        · simp only [if_neg hk0] at he ⊢
          have h0 : e1 = 0 := by have := hj 0 (by omega); simpa using this
          exact .inr (.inl ⟨h0, he, by trivial⟩)
      · exact ⟨hb, .inr (.inr ⟨ha, hb2, hg⟩)⟩
  obtain ⟨P, hP⟩ : ∃ P, w.heap.size = P := ⟨_, rfl⟩
  obtain ⟨W3, hW3⟩ : ∃ W, ((w.alloc (.cells #[.string s] 9)).alloc (.cells #[.int .i64 l1, .int .i64 u1, .int .i64 l2, .int .i64 u2, .string t] 58)).alloc (.cells #[.int .i64 0, .int .i64 0, .string ⟨#[]⟩] 32) = W := ⟨_, rfl⟩
  have b1 : Boxed W3 P 9 (.string s) := by rw [← hW3, ← hP]; exact ((Boxed.new _ _ _).alloc _).alloc _
  have b2 : Blk W3 (P + 1) 58 #[.int .i64 l1, .int .i64 u1, .int .i64 l2, .int .i64 u2, .string t] := by
    rw [← hW3, ← hP]
    have := (Blk.new (w.alloc (.cells #[.string s] 9)) 58 #[.int .i64 l1, .int .i64 u1, .int .i64 l2, .int .i64 u2, .string t]).alloc (.cells #[.int .i64 0, .int .i64 0, .string ⟨#[]⟩] 32)
    simpa using this
  have b3 : Blk W3 (P + 1 + 1) 32 #[.int .i64 0, .int .i64 0, .string ⟨#[]⟩] := by
    rw [← hW3, ← hP]
    have := Blk.new ((w.alloc (.cells #[.string s] 9)).alloc (.cells #[.int .i64 l1, .int .i64 u1, .int .i64 l2, .int .i64 u2, .string t] 58)) 32 #[.int .i64 0, .int .i64 0, .string ⟨#[]⟩]
    simpa using this
  have s3 : W3.heap.size = P + 1 + 1 + 1 := by rw [← hW3, ← hP]; simp
  have hb3 : Below P w W3 := by rw [← hW3, ← hP]; exact (((Below.refl _ _).alloc (Nat.le_refl _) _).alloc (by simp) _).alloc (by simp; omega) _
  have C := Lib.hid (cT2 (W3.alloc (.cells #[.int .i64 l1, .int .i64 u1, .int .i64 l2, .int .i64 u2] 54)) (P + 1 + 1 + 1) P (by rw [← s3]; exact Blk.new _ _ _) (b1.alloc _))
  have HP := Lib.hid hP; have HW3 := Lib.hid hW3; have HB2 := Lib.hid b2; have HB3 := Lib.hid b3; have HBB := Lib.hid hb3; have HS3 := Lib.hid s3; have HH := Lib.hid h
  clear cT cT2 h1 h2 h hP hW3 b1 b2 b3 s3 hb3
  go_enter Try.func58, Try.ntmps58
  go_wp2_with fail
  rw [HP.out, show ((w.alloc (.cells #[.string s] 9)).alloc (.cells #[.int .i64 l1, .int .i64 u1, .int .i64 l2, .int .i64 u2, .string t] 58)).alloc (.cells #[.int .i64 0, .int .i64 0, .string ⟨#[]⟩] 32) = W3 from HW3.out]
  refine C.out.mono ?_
  rintro e w5 ⟨b5, hway⟩
  have hb5 : Below (P + 1 + 1 + 1) W3 w5 := ((Below.refl _ _).alloc (by rw [HS3.out]; exact Nat.le_refl _) _).trans (b5.mono (by simp [HS3.out]))
  have e2' := HB2.out.same (hb5.block (P + 1) (by omega))
  have e3' := HB3.out.same (hb5.block (P + 1 + 1) (by omega))
  have H5 : Hid (Below P w w5) := HBB.out.trans (hb5.mono (by omega))
  have ct : w5.cell? ⟨P + 1, 4, none⟩ = some (.string t) := by simpa using e2'.cell 4
  have c0 : w5.cell? ⟨P + 1 + 1, 0, none⟩ = some (.int .i64 0) := by simpa using e3'.cell 0
  have c1 : w5.cell? ⟨P + 1 + 1, 1, none⟩ = some (.int .i64 0) := by simpa using e3'.cell 1
  have c2 : w5.cell? ⟨P + 1 + 1, 2, none⟩ = some (.string ⟨#[]⟩) := by simpa using e3'.cell 2
  have f0 := e3'.frozen 0; have f1 := e3'.frozen 1; have f2 := e3'.frozen 2
  have hout : ∀ (W : World) (x y : Int) (z : ByteArray), Blk W (P + 1 + 1) 32 #[.int .i64 0, .int .i64 0, .string ⟨#[]⟩] → Below P w W →
      (((W.setCell ⟨P + 1 + 1, 0, none⟩ (.int .i64 x)).setCell ⟨P + 1 + 1, 1, none⟩ (.int .i64 y)).setCell ⟨P + 1 + 1, 2, none⟩ (.string z)).cell? ⟨P + 1 + 1, 0, none⟩ = some (.int .i64 x) ∧
      (((W.setCell ⟨P + 1 + 1, 0, none⟩ (.int .i64 x)).setCell ⟨P + 1 + 1, 1, none⟩ (.int .i64 y)).setCell ⟨P + 1 + 1, 2, none⟩ (.string z)).cell? ⟨P + 1 + 1, 1, none⟩ = some (.int .i64 y) ∧
      (((W.setCell ⟨P + 1 + 1, 0, none⟩ (.int .i64 x)).setCell ⟨P + 1 + 1, 1, none⟩ (.int .i64 y)).setCell ⟨P + 1 + 1, 2, none⟩ (.string z)).cell? ⟨P + 1 + 1, 2, none⟩ = some (.string z) ∧
      Below P w (((W.setCell ⟨P + 1 + 1, 0, none⟩ (.int .i64 x)).setCell ⟨P + 1 + 1, 1, none⟩ (.int .i64 y)).setCell ⟨P + 1 + 1, 2, none⟩ (.string z)) := by
    intro W x y z h hb
    have b2 := ((h.set 0 (.int .i64 x)).set 1 (.int .i64 y)).set 2 (.string z)
    exact ⟨by simpa using b2.cell 0, by simpa using b2.cell 1, by simpa using b2.cell 2, ((hb.setCell (p := ⟨P + 1 + 1, 0, none⟩) (by show P ≤ P + 1 + 1; omega) _).setCell (p := ⟨P + 1 + 1, 1, none⟩) (by show P ≤ P + 1 + 1; omega) _).setCell (p := ⟨P + 1 + 1, 2, none⟩) (by show P ≤ P + 1 + 1; omega) _⟩
  have HE3 := Lib.hid e3'
  have HOUT := Lib.hid hout
  clear b5 hb5 e2' e3' hout C
  rcases hway with ⟨he, rfl⟩ | ⟨he, he2, rfl⟩ | ⟨he, he2, g, rfl, d0, d1⟩
  case inl =>
    have hres : er = e1 ∧ d = Ed.zero := by
      rcases HH.out with ⟨_, a, b⟩ | ⟨a, _⟩ | ⟨a, _⟩ | ⟨a, _⟩
      · exact ⟨a, b⟩
      all_goals exact absurd a he
    obtain ⟨rfl, rfl⟩ := hres
    have hq : (er != 0) = true := by simp [he]
    obtain ⟨k0, k1, k2, hbl⟩ := HOUT.out w5 0 0 ⟨#[]⟩ HE3.out H5.out
    have HBL := Lib.hid hbl
    clear he hbl
    go_wp2
    refine bodyPost_ret (v := .tuple #[.agg #[.int .i64 0, .int .i64 0, .string ⟨#[]⟩], .int .i64 er]) (by simp [results, Try.results58, go_sem, k0, k1, k2]) rfl ?_
    exact ⟨rfl, by rw [HP.out]; exact HBL.out⟩
  case inr.inl =>
    have hres : er = e2 ∧ d = Ed.zero := by
      rcases HH.out with ⟨a, _⟩ | ⟨_, _, a, b⟩ | ⟨_, a, _⟩ | ⟨_, a, _⟩
      · exact absurd he a
      · exact ⟨a, b⟩
      all_goals exact absurd a he2
    obtain ⟨rfl, rfl⟩ := hres
    have hq : (er != 0) = true := by simp [he2]
    obtain ⟨k0, k1, k2, hbl⟩ := HOUT.out w5 0 0 ⟨#[]⟩ HE3.out H5.out
    have HBL := Lib.hid hbl
    clear he he2 hbl
    go_wp2
    refine bodyPost_ret (v := .tuple #[.agg #[.int .i64 0, .int .i64 0, .string ⟨#[]⟩], .int .i64 er]) (by simp [results, Try.results58, go_sem, k0, k1, k2]) rfl ?_
    exact ⟨rfl, by rw [HP.out]; exact HBL.out⟩
  case inr.inr =>
    by_cases hlt : o2 < o1
    · have hres : er = 1 ∧ d = Ed.zero := by
        rcases HH.out with ⟨a, _⟩ | ⟨_, a, _⟩ | ⟨_, _, _, a, b⟩ | ⟨_, _, a, _⟩
        · exact absurd he a
        · exact absurd he2 a
        · exact ⟨a, b⟩
        · omega
      obtain ⟨rfl, rfl⟩ := hres
      have hlt2 : (o2 : Int) < (o1 : Int) := by omega
      have hk := fun n => HOUT.out (w5.drewN n) 0 0 ⟨#[]⟩ (HE3.out.drewN n) (below_drewN H5.out n)
      have k0 := fun n => (hk n).1
      have k1 := fun n => (hk n).2.1
      have k2 := fun n => (hk n).2.2.1
      have HBL := Lib.hid (fun n => (hk n).2.2.2)
      clear he he2 hk hlt
      go_wp2_with fail
      go_quiet (fail)
      go_wp2
      refine bodyPost_ret (v := .tuple #[.agg #[.int .i64 0, .int .i64 0, .string ⟨#[]⟩], .int .i64 1]) (by simp [results, Try.results58, go_sem, k0, k1, k2]) rfl ?_
      exact ⟨rfl, by rw [HP.out]; exact HBL.out _⟩
    · have hres : er = 0 ∧ d = ⟨o1, o2, t⟩ := by
        rcases HH.out with ⟨a, _⟩ | ⟨_, a, _⟩ | ⟨_, _, a, _⟩ | ⟨_, _, _, a, b⟩
        · exact absurd he a
        · exact absurd he2 a
        · omega
        · exact ⟨a, b⟩
      obtain ⟨rfl, rfl⟩ := hres
      have hlt2 : ¬ (o2 : Int) < (o1 : Int) := by omega
      have hk := fun n => HOUT.out (w5.drewN n) (o1 : Int) (o2 : Int) t (HE3.out.drewN n) (below_drewN H5.out n)
      have k0 := fun n => (hk n).1
      have k1 := fun n => (hk n).2.1
      have k2 := fun n => (hk n).2.2.1
      have HBL := Lib.hid (fun n => (hk n).2.2.2)
      clear he he2 hk hlt
      go_wp2_with fail
      go_quiet (fail)
      go_wp2
      refine bodyPost_ret (v := .tuple #[.agg #[.int .i64 (o1 : Int), .int .i64 (o2 : Int), .string t], .int .i64 0]) (by simp [results, Try.results58, go_sem, k0, k1, k2]) rfl ?_
      exact ⟨rfl, by rw [HP.out]; exact HBL.out _⟩

end Go.Proofs.Ytfhpllcdlejfjaa

/- The contract of the program's Bytes. Conditions: texts of at most 100000 bytes. -/
namespace Go.Proofs.Ytfhpllcdlejfjaa
open Go.RowKit Go.Shelf
set_option linter.unusedVariables false

set_option maxRecDepth 100000 in
set_option maxHeartbeats 1000000 in
theorem one_ed (s : ByteArray) (Bs : Nat) (p : PE) (d : Ed) (er : Int) (w : World) (hs : s.size ≤ 100000) (hp : p.fit) (hbs : Boxed w Bs 9 (.string s)) (h : EdS (sb s) p d er) :
    Calls Try.prog 57 #[.agg p.vals.toArray, .pointer (some ⟨Bs, 0, none⟩)] w fun e w' => e = .returned (.tuple #[.agg d.vals.toArray, .int .i64 er]) ∧ Below w.heap.size w w' := by
  have C0 := fun W => inb_any s p d er W hs hp h
  obtain ⟨l1, u1, l2, u2, t⟩ := p
  obtain ⟨df, dO, dt⟩ := d
  simp only [PE.vals, Ed.vals] at C0 ⊢
  obtain ⟨P, hP⟩ : ∃ P, w.heap.size = P := ⟨_, rfl⟩
  obtain ⟨W2, hW2⟩ : ∃ W, (w.alloc (.cells #[.int .i64 l1, .int .i64 u1, .int .i64 l2, .int .i64 u2, .string t] 58)).alloc (.cells #[.int .i64 0, .int .i64 0, .string ⟨#[]⟩] 32) = W := ⟨_, rfl⟩
  have c0 := ((hbs.alloc (.cells #[.int .i64 l1, .int .i64 u1, .int .i64 l2, .int .i64 u2, .string t] 58)).alloc (.cells #[.int .i64 0, .int .i64 0, .string ⟨#[]⟩] 32)).cell
  have b3 : Blk W2 (P + 1) 32 #[.int .i64 0, .int .i64 0, .string ⟨#[]⟩] := by
    rw [← hW2, ← hP]
    have := Blk.new (w.alloc (.cells #[.int .i64 l1, .int .i64 u1, .int .i64 l2, .int .i64 u2, .string t] 58)) 32 #[.int .i64 0, .int .i64 0, .string ⟨#[]⟩]
    simpa using this
  have s2 : W2.heap.size = P + 1 + 1 := by rw [← hW2, ← hP]; simp
  have hb2 : Below P w W2 := by rw [← hW2, ← hP]; exact ((Below.refl _ _).alloc (Nat.le_refl _) _).alloc (by simp) _
  have HP := Lib.hid hP; have HW2 := Lib.hid hW2; have HB3 := Lib.hid b3; have HS2 := Lib.hid s2; have HBB := Lib.hid hb2; have C := Lib.hid C0
  clear C0 hP hW2 b3 s2 hb2 h hbs
  go_enter Try.func57, Try.ntmps57
  go_wp2_with fail
  rw [HP.out, show (w.alloc (.cells #[.int .i64 l1, .int .i64 u1, .int .i64 l2, .int .i64 u2, .string t] 58)).alloc (.cells #[.int .i64 0, .int .i64 0, .string ⟨#[]⟩] 32) = W2 from HW2.out]
  refine (C.out _).mono ?_
  rintro e w5 ⟨rfl, hb⟩
  have e3' := HB3.out.same (hb.block (P + 1) (by rw [HS2.out]; omega))
  have H5 : Below P w w5 := HBB.out.trans (hb.mono (by rw [HS2.out]; omega))
  have c0 : w5.cell? ⟨P + 1, 0, none⟩ = some (.int .i64 0) := by simpa using e3'.cell 0
  have c1 : w5.cell? ⟨P + 1, 1, none⟩ = some (.int .i64 0) := by simpa using e3'.cell 1
  have c2 : w5.cell? ⟨P + 1, 2, none⟩ = some (.string ⟨#[]⟩) := by simpa using e3'.cell 2
  have f0 := e3'.frozen 0; have f1 := e3'.frozen 1; have f2 := e3'.frozen 2
  have b2 := ((e3'.set 0 (.int .i64 (df : Int))).set 1 (.int .i64 (dO : Int))).set 2 (.string dt)
  have k0 : (((w5.setCell ⟨P + 1, 0, none⟩ (.int .i64 (df : Int))).setCell ⟨P + 1, 1, none⟩ (.int .i64 (dO : Int))).setCell ⟨P + 1, 2, none⟩ (.string dt)).cell? ⟨P + 1, 0, none⟩ = some (.int .i64 (df : Int)) := by simpa using b2.cell 0
  have k1 : (((w5.setCell ⟨P + 1, 0, none⟩ (.int .i64 (df : Int))).setCell ⟨P + 1, 1, none⟩ (.int .i64 (dO : Int))).setCell ⟨P + 1, 2, none⟩ (.string dt)).cell? ⟨P + 1, 1, none⟩ = some (.int .i64 (dO : Int)) := by simpa using b2.cell 1
  have k2 : (((w5.setCell ⟨P + 1, 0, none⟩ (.int .i64 (df : Int))).setCell ⟨P + 1, 1, none⟩ (.int .i64 (dO : Int))).setCell ⟨P + 1, 2, none⟩ (.string dt)).cell? ⟨P + 1, 2, none⟩ = some (.string dt) := by simpa using b2.cell 2
  have HF := Lib.hid (((H5.setCell (p := ⟨P + 1, 0, none⟩) (by show P ≤ P + 1; omega) (.int .i64 (df : Int))).setCell (p := ⟨P + 1, 1, none⟩) (by show P ≤ P + 1; omega) (.int .i64 (dO : Int))).setCell (p := ⟨P + 1, 2, none⟩) (by show P ≤ P + 1; omega) (.string dt))
  clear hb e3' H5 b2 C
  go_wp2
  refine bodyPost_ret (v := .tuple #[.agg #[.int .i64 (df : Int), .int .i64 (dO : Int), .string dt], .int .i64 er]) (by simp [results, Try.results57, go_sem, k0, k1, k2]) rfl ?_
  exact ⟨rfl, by rw [HP.out]; exact HF.out⟩

/-- A slice of n edits by positions lies in memory, below block B. -/
def PCells (B : Nat) (w : World) (a : Option Addr) (n : Nat) (es : Nat → PE) : Prop :=
  n = 0 ∨ ∃ b off, a = some ⟨b, off, none⟩ ∧ b < B ∧ ∀ k, k < n → ∀ i, i < 5 → w.cell? ⟨b, off + k * 5 + i, none⟩ = (es k).vals[i]?
/-- A slice of n edits by offsets lies at the head of a block below B. -/
def ECells (B : Nat) (w : World) (a : Option Addr) (n : Nat) (ds : Nat → Ed) : Prop :=
  n = 0 ∨ ∃ g, a = some ⟨g, 0, none⟩ ∧ g < B ∧ ∀ k, k < n → ∀ i, i < 3 → w.cell? ⟨g, k * 3 + i, none⟩ = (ds k).vals[i]?
/-- The first error of n. -/
def FirstE (n : Nat) (ers : Nat → Int) (er : Int) : Prop := ∃ k, k < n ∧ ers k = er ∧ er ≠ 0 ∧ ∀ j, j < k → ers j = 0
theorem FirstE.det {n : Nat} {ers : Nat → Int} {a b : Int} (h : FirstE n ers a) (k : FirstE n ers b) : a = b := by
  obtain ⟨i, h1, h2, h3, h4⟩ := h
  obtain ⟨j, k1, k2, k3, k4⟩ := k
  rcases Nat.lt_trichotomy i j with h | rfl | h
  · exact absurd (k4 i h) (by rw [h2]; exact h3)
  · rw [← h2, k2]
  · exact absurd (h4 j h) (by rw [k2]; exact k3)
/-- What Bytes returns: the edits, or the first error. -/
def EdsPost (n : Nat) (ds : Nat → Ed) (ers : Nat → Int) (w : World) (e : Ending) (w' : World) : Prop := Below w.heap.size w w' ∧
  ((∃ er, FirstE n ers er ∧ e = .returned (.tuple #[.slice none 0 0, .int .i64 er])) ∨
   ((∀ k, k < n → ers k = 0) ∧ ∃ a cap, e = .returned (.tuple #[.slice a n cap, .int .i64 0]) ∧ n ≤ cap ∧ cap ≤ 9223372036854775807 ∧ ECells w'.heap.size w' a n ds))

theorem infoE : (Try.prog.info? 32).map (fun i => (i.zero, i.size, i.bytes)) = some (some (.agg #[.int .i64 0, .int .i64 0, .string ⟨#[]⟩]), 3, 32) := by kernel_rfl
set_option maxRecDepth 100000 in
set_option maxHeartbeats 4000000 in
theorem conv_eds (s : ByteArray) (Bs : Nat) (a : Option Addr) (n cap : Nat) (es : Nat → PE) (ds : Nat → Ed) (ers : Nat → Int) (w : World) (hs : s.size ≤ 100000) (hn : n ≤ 64) (hcap : n ≤ cap) (hfit : ∀ k, k < n → (es k).fit) (hc : PCells w.heap.size w a n es) (hbs : Boxed w Bs 9 (.string s)) (h : ∀ k, k < n → EdS (sb s) (es k) (ds k) (ers k)) :
    Calls Try.prog 56 #[.slice a n cap, .func (.func 57) #[] #[.pointer (some ⟨Bs, 0, none⟩)]] w (EdsPost n ds ers w) := by
  obtain ⟨i3, hi3, hy0, hy1, hy2⟩ := info_parts infoE
  obtain ⟨B, hB⟩ : ∃ B, w.heap.size = B := ⟨_, rfl⟩
  rw [hB] at hc
  have hBB : Bs < B := by rw [← hB]; exact hbs.lt
  have hcore : ∃ b off, (n = 0 ∨ (a = some ⟨b, off, none⟩ ∧ b < B)) ∧ ∀ k, k < n → ∀ W, Below B w W → Boxed W Bs 9 (.string s) ∧ W.cell? ⟨b, off + k * 5, none⟩ = some (.int .i64 (es k).l1) ∧ W.cell? ⟨b, off + k * 5 + 1, none⟩ = some (.int .i64 (es k).u1) ∧ W.cell? ⟨b, off + k * 5 + 2, none⟩ = some (.int .i64 (es k).l2) ∧ W.cell? ⟨b, off + k * 5 + 3, none⟩ = some (.int .i64 (es k).u2) ∧ W.cell? ⟨b, off + k * 5 + 4, none⟩ = some (.string (es k).t) := by
    rcases hc with h0 | ⟨b, off, ha, hb, hcc⟩
    · exact ⟨0, 0, .inl h0, fun k hk => by omega⟩
    · refine ⟨b, off, .inr ⟨ha, hb⟩, fun k hk W hW => ⟨(hW.block Bs hBB).trans hbs, ?_, ?_, ?_, ?_, ?_⟩⟩
      · exact (hW.cell (p := ⟨b, off + k * 5, none⟩) hb).trans (hcc k hk 0 (by omega))
      · exact (hW.cell (p := ⟨b, off + k * 5 + 1, none⟩) hb).trans (hcc k hk 1 (by omega))
      · exact (hW.cell (p := ⟨b, off + k * 5 + 2, none⟩) hb).trans (hcc k hk 2 (by omega))
      · exact (hW.cell (p := ⟨b, off + k * 5 + 3, none⟩) hb).trans (hcc k hk 3 (by omega))
      · exact (hW.cell (p := ⟨b, off + k * 5 + 4, none⟩) hb).trans (hcc k hk 4 (by omega))
  obtain ⟨b, off, hab, hcell⟩ := hcore
  have HAB := Lib.hid hab; have HC := Lib.hid hcell; have HB := Lib.hid hB; have HS := Lib.hid h; have HF := Lib.hid hfit
  clear hc hab hcell hB h hbs hfit
  go_enter Try.func56, Try.ntmps56
  go_wp2_with (at_make; refine wpList_make_full _ rfl _ _ 22 rfl w.heap.size 32 i3 (.agg #[.int .i64 0, .int .i64 0, .string ⟨#[]⟩]) 3 Try.underlying22 hi3 hy0 hy1 .i64 .i64 _ _ n rfl rfl rfl rfl (by rw [hy2]; omega) (by unfold maxLen; omega) (Nat.le_refl _) ?_; intro w1 hown1 hgrow1)
  have H1 : Hid ((∃ cur : Array Value, Blk w1 B 32 cur ∧ cur.size = n * 3) ∧ Below B w w1) := by
    rw [HB.out] at hown1
    refine ⟨?_, (Below.refl _ _).grown hgrow1 (by rw [HB.out]; exact Nat.le_refl _) (fun k e => by cases e)⟩
    rcases hown1.2 with ⟨h0, _⟩ | ⟨g, cp, cur, hv, _, hg, _, _, hsz, _⟩
    · cases h0
    · simp only [Value.slice.injEq, Option.some.injEq, Addr.mk.injEq, and_true, true_and] at hv
      obtain ⟨rfl, rfl⟩ := hv
      exact ⟨cur, hg, hsz⟩
  rw [HB.out]
  clear hown1 hgrow1
  go_loopw [16] (fun q wr => ∃ (k : Nat) (cur : Array Value), k ≤ n ∧ q = .int .i64 (k : Int) ∧ cur.size = n * 3 ∧ Hid (∀ j, j < k → ers j = 0 ∧ ∀ i, i < 3 → cur[j * 3 + i]? = (ds j).vals[i]?) ∧ Hid (Blk wr B 32 cur) ∧ Hid (Below B w wr)) (fun q _ => n - (intOf q).toNat)
  case atStart =>
    obtain ⟨⟨cur, h1, h2⟩, h3⟩ := H1.out
    exact ⟨0, cur, by omega, rfl, h2, Lib.hid (fun j h => by omega), h1, h3⟩
  case round =>
    obtain ⟨k, cur, hk, rfl, hcs, HI, HM, HR⟩ := hrel
    by_cases hlt : k < n
    · obtain ⟨ha, hbB⟩ := HAB.out.resolve_left (by omega)
      subst ha
      obtain ⟨hbx, c0, c1, c2, c3, c4⟩ := HC.out k hlt wr HR.out
      have hkk : (k : Int) < (n : Int) := by omega
      have hBr : B < wr.heap.size := HM.out.lt
      obtain ⟨V, hV⟩ : ∃ V, wr.alloc (.cells #[.int .i64 (es k).l1, .int .i64 (es k).u1, .int .i64 (es k).l2, .int .i64 (es k).u2, .string (es k).t] 58) = V := ⟨_, rfl⟩
      have hbV : Boxed V Bs 9 (.string s) := by rw [← hV]; exact hbx.alloc _
      have cP := one_ed s Bs (es k) (ds k) (ers k) V hs (HF.out k hlt) hbV (HS.out k hlt)
      rw [← hV] at cP
      simp only [PE.vals, Ed.vals] at cP
      have CP := Lib.hid cP
      clear cP hbV hbx hV
      go_wp2_with fail
      refine CP.out.mono ?_
      rintro e w4 ⟨rfl, b4⟩
      have hb4 : Below wr.heap.size wr w4 := ((Below.refl _ _).alloc (Nat.le_refl _) _).trans (b4.mono (by simp))
      have hs4 := hb4.size
      have h5 : Below B w (w4.alloc (.cells #[.int .i64 ((ds k).f : Int), .int .i64 ((ds k).o : Int), .string (ds k).t] 32)) := (HR.out.trans (hb4.mono (by omega))).alloc (by omega) _
      have h4 : Below B w w4 := HR.out.trans (hb4.mono (by omega))
      have hM4 := (HM.out.same (hb4.block B hBr)).alloc (.cells #[.int .i64 ((ds k).f : Int), .int .i64 ((ds k).o : Int), .string (ds k).t] 32)
      have hci : ∀ i, i < 3 → ∃ v, (w4.alloc (.cells #[.int .i64 ((ds k).f : Int), .int .i64 ((ds k).o : Int), .string (ds k).t] 32)).cell? ⟨B, k * 3 + i, none⟩ = some v := by
        intro i hi
        rw [hM4.cell]
        exact ⟨cur[k * 3 + i]'(by omega), Array.getElem?_eq_getElem (by omega)⟩
      obtain ⟨v0, m0⟩ := hci 0 (by omega)
      obtain ⟨v1, m1⟩ := hci 1 (by omega)
      obtain ⟨v2, m2⟩ := hci 2 (by omega)
      rw [Nat.add_zero] at m0
      have f0 := hM4.frozen (k * 3); have f1 := hM4.frozen (k * 3 + 1); have f2 := hM4.frozen (k * 3 + 2)
      have HM4 := Lib.hid hM4; have H5 := Lib.hid h5; have H4 := Lib.hid h4
      clear b4 hb4 h5 h4 hM4 hci
      by_cases he : ers k = 0
      · have hq : (ers k != 0) = false := by simp [he]
        have HE := Lib.hid he
        obtain ⟨cur2, hcur2⟩ : ∃ c, ((cur.setIfInBounds (k * 3) (.int .i64 ((ds k).f : Int))).setIfInBounds (k * 3 + 1) (.int .i64 ((ds k).o : Int))).setIfInBounds (k * 3 + 2) (.string (ds k).t) = c := ⟨_, rfl⟩
        have hcs2 : cur2.size = n * 3 := by rw [← hcur2]; simp [hcs]
        have HI2 : Hid (∀ j, j < k + 1 → ers j = 0 ∧ ∀ i, i < 3 → cur2[j * 3 + i]? = (ds j).vals[i]?) := by
          intro j hj
          refine ⟨?_, fun i hi => ?_⟩
          · by_cases hjk : j = k
            · subst hjk; exact HE.out
            · exact (HI.out j (by omega)).1
          · rw [← hcur2]
            by_cases hjk : j = k
            · subst hjk
              have : i = 0 ∨ i = 1 ∨ i = 2 := by omega
              rcases this with rfl | rfl | rfl
              · simp [Array.getElem?_setIfInBounds, Ed.vals, hcs]; omega
              · simp [Array.getElem?_setIfInBounds, Ed.vals, hcs]; omega
              · simp [Array.getElem?_setIfInBounds, Ed.vals, hcs]; omega
            · rw [Array.getElem?_setIfInBounds_ne (by omega), Array.getElem?_setIfInBounds_ne (by omega), Array.getElem?_setIfInBounds_ne (by omega)]
              exact (HI.out j (by omega)).2 i hi
        have HM2 := Lib.hid (((HM4.out.set (k * 3) (.int .i64 ((ds k).f : Int))).set (k * 3 + 1) (.int .i64 ((ds k).o : Int))).set (k * 3 + 2) (.string (ds k).t))
        rw [hcur2] at HM2
        have HR2 := Lib.hid (((H5.out.setCell (p := ⟨B, k * 3, none⟩) (Nat.le_refl _) (.int .i64 ((ds k).f : Int))).setCell (p := ⟨B, k * 3 + 1, none⟩) (Nat.le_refl _) (.int .i64 ((ds k).o : Int))).setCell (p := ⟨B, k * 3 + 2, none⟩) (Nat.le_refl _) (.string (ds k).t))
        clear he hcur2
        go_wp2
        go_roundw
        case rel => exact ⟨k + 1, cur2, by omega, by go_num, hcs2, HI2, HM2, HR2⟩
        case measure => simp [intOf]; omega
      · have hq : (ers k != 0) = true := by simp [he]
        have HE := Lib.hid he
        clear he
        go_wp2
        go_ret2
        exact ⟨by rw [HB.out]; exact H5.out, .inl ⟨ers k, ⟨k, hlt, rfl, HE.out, fun j hj => (HI.out j hj).1⟩, rfl⟩⟩
    · obtain rfl : n = k := by omega
      have HE : Hid (ECells wr.heap.size wr (some ⟨B, 0, none⟩) n ds) := by
        refine .inr ⟨B, rfl, HM.out.lt, fun j hj i hi => ?_⟩
        rw [HM.out.cell]
        exact (HI.out j hj).2 i hi
      go_wp2
      go_ret2
      exact ⟨by rw [HB.out]; exact HR.out, .inr ⟨fun j hj => (HI.out j hj).1, some ⟨B, 0, none⟩, n, rfl, Nat.le_refl _, by omega, HE.out⟩⟩

end Go.Proofs.Ytfhpllcdlejfjaa

/- The contracts of Bytes, the program's and the reference's. Conditions: texts of at most 100000 bytes, lists of at most 1000 edits. -/
namespace Go.Proofs.Ytfhpllcdlejfjaa
open Go.RowKit Go.Shelf
set_option linter.unusedVariables false

theorem PCells.below {B : Nat} {w w' : World} {a : Option Addr} {n : Nat} {es : Nat → PE} (h : PCells B w a n es) (hb : Below B w w') : PCells B w' a n es := by
  rcases h with h | ⟨b, off, ha, hlt, hc⟩
  · exact .inl h
  · exact .inr ⟨b, off, ha, hlt, fun k hk i hi => (hb.cell (p := ⟨b, off + k * 5 + i, none⟩) hlt).trans (hc k hk i hi)⟩
theorem PCells.mono {B B' : Nat} {w : World} {a : Option Addr} {n : Nat} {es : Nat → PE} (h : PCells B w a n es) (hb : B ≤ B') : PCells B' w a n es := by
  rcases h with h | ⟨b, off, ha, hlt, hc⟩
  · exact .inl h
  · exact .inr ⟨b, off, ha, by omega, hc⟩
theorem ECells.below {B : Nat} {w w' : World} {a : Option Addr} {n : Nat} {ds : Nat → Ed} (h : ECells B w a n ds) (hb : Below B w w') : ECells B w' a n ds := by
  rcases h with h | ⟨g, ha, hlt, hc⟩
  · exact .inl h
  · exact .inr ⟨g, ha, hlt, fun k hk i hi => (hb.cell (p := ⟨g, k * 3 + i, none⟩) hlt).trans (hc k hk i hi)⟩
theorem ECells.mono {B B' : Nat} {w : World} {a : Option Addr} {n : Nat} {ds : Nat → Ed} (h : ECells B w a n ds) (hb : B ≤ B') : ECells B' w a n ds := by
  rcases h with h | ⟨g, ha, hlt, hc⟩
  · exact .inl h
  · exact .inr ⟨g, ha, by omega, hc⟩
/-- What a call of Bytes returns. -/
def BytesPost (n : Nat) (ds : Nat → Ed) (ers : Nat → Int) (w : World) (e : Ending) (w' : World) : Prop :=
  (64 < n ∧ Below w.heap.size w w' ∧ e = .returned (.tuple #[.slice none 0 0, .int .i64 4])) ∨ (n ≤ 64 ∧ EdsPost n ds ers w e w')

set_option maxRecDepth 100000 in
set_option maxHeartbeats 1000000 in
theorem pbytes_any (s : ByteArray) (a : Option Addr) (n cap : Nat) (es : Nat → PE) (ds : Nat → Ed) (ers : Nat → Int) (w : World) (hs : s.size ≤ 100000) (hn : n ≤ 1000) (hcap : n ≤ cap) (hfit : ∀ k, k < n → (es k).fit) (hc : PCells w.heap.size w a n es) (h : ∀ k, k < n → EdS (sb s) (es k) (ds k) (ers k)) :
    Calls Try.prog 37 #[.string s, .slice a n cap] w (BytesPost n ds ers w) := by
  obtain ⟨W1, hW1⟩ : ∃ W, w.alloc (.cells #[.string s] 9) = W := ⟨_, rfl⟩
  have hb1 : Below w.heap.size w W1 := by rw [← hW1]; exact (Below.refl _ _).alloc (Nat.le_refl _) _
  have hx1 : Boxed W1 w.heap.size 9 (.string s) := by rw [← hW1]; exact Boxed.new _ _ _
  have HB1 := Lib.hid hb1; have HW1 := Lib.hid hW1
  by_cases hlim : 64 < n
  · have hl2 : (64 : Int) < (n : Int) := by omega
    clear hW1 hx1 hb1 h hc hfit
    go_enter Try.func37, Try.ntmps37
    go_wp2
    go_ret2
    exact .inl ⟨hlim, by rw [show w.alloc (.cells #[.string s] 9) = W1 from HW1.out]; exact HB1.out, rfl⟩
  · have hl2 : ¬ (64 : Int) < (n : Int) := by omega
    have C := Lib.hid (conv_eds s w.heap.size a n cap es ds ers W1 hs (by omega) hcap hfit ((hc.below hb1).mono hb1.size) hx1 h)
    clear hW1 hx1 hb1 h hc hfit
    go_enter Try.func37, Try.ntmps37
    go_wp2_with fail
    rw [show w.alloc (.cells #[.string s] 9) = W1 from HW1.out]
    refine C.out.mono ?_
    rintro e w2 ⟨hb, hway⟩
    have H2 := Lib.hid (HB1.out.trans (hb.mono HB1.out.size))
    clear hb
    rcases hway with ⟨er, hf, rfl⟩ | ⟨hz, a2, c2, rfl, hc2⟩
    · have HF := Lib.hid hf
      clear hf
      go_wp2
      go_ret2
      exact .inr ⟨by omega, H2.out, .inl ⟨er, HF.out, rfl⟩⟩
    · have HF := Lib.hid (And.intro hz hc2)
      clear hz hc2
      go_wp2
      go_ret2
      exact .inr ⟨by omega, H2.out, .inr ⟨HF.out.1, a2, c2, rfl, HF.out.2⟩⟩

/-- The values of the first k edits. -/
def dvals (ds : Nat → Ed) (k : Nat) : List Value := (List.range k).flatMap fun j => (ds j).vals
theorem dvals_succ (ds : Nat → Ed) (k : Nat) : dvals ds (k + 1) = dvals ds k ++ (ds k).vals := by unfold dvals; rw [List.range_succ]; simp
theorem dvals_len (ds : Nat → Ed) (k : Nat) : (dvals ds k).length = k * 3 := by
  induction k with
  | zero => rfl
  | succ k ih => rw [dvals_succ, List.length_append, ih]; simp [Ed.vals]; omega
theorem dvals_get (ds : Nat → Ed) (n k i : Nat) (hk : k < n) (hi : i < 3) : (dvals ds n)[k * 3 + i]? = (ds k).vals[i]? := by
  induction n with
  | zero => omega
  | succ n ih =>
    rw [dvals_succ]
    by_cases h : k = n
    · subst h
      rw [List.getElem?_append_right (by rw [dvals_len]; omega), dvals_len]
      congr 1; omega
    · rw [List.getElem?_append_left (by rw [dvals_len]; omega)]
      exact ih (by omega)
theorem cells_new (w : World) (xs : List Value) (t : TypeId) : ∀ j u, xs[j]? = some u → (w.alloc (.cells xs.toArray t)).cell? ((⟨w.heap.size, 0, none⟩ : Addr).add j) = some u := by
  intro j u h
  have := (Blk.new w t xs.toArray).cell j
  rw [List.getElem?_toArray, h] at this
  rw [← this]
  congr 1
  by_cases h0 : j = 0 <;> simp [Addr.add, h0]

end Go.Proofs.Ytfhpllcdlejfjaa

/- The contract of SameEdits at two lists of the same edits. Conditions: lists of at most 1000 edits. -/
namespace Go.Proofs.Ytfhpllcdlejfjaa
open Go.RowKit Go.Shelf
set_option linter.unusedVariables false


end Go.Proofs.Ytfhpllcdlejfjaa

/- Slices of edits that come in, and what the two calls of Bytes have in common. It has no conditions. -/
namespace Go.Proofs.Ytfhpllcdlejfjaa
open Go.RowKit Go.Shelf Go.ChangeShapes
set_option linter.unusedVariables false

theorem i64n_of_wf {x : Int} (h : (Lit.int .i64 x).wf = true) : I64n x := by
  simp only [Lit.wf, IntKind.min, IntKind.max, IntKind.signed, IntKind.bits, Bool.and_eq_true] at h
  simp at h; exact ⟨by omega, by omega⟩
theorem open_pos {H : Type} {enc : TypeId × Value → H} {w : World} {base : Nat} {spare : Nat → Bool} {held : Bool} {fuel : Nat} {v0 v1 : Value} {x : DataW H × List MemPlace} (h : DataW.trod enc Try.prog w base spare held fuel 54 [v0, v1] = some x) :
    ∃ l u, v0 = .int .i64 l ∧ v1 = .int .i64 u ∧ I64n l ∧ I64n u := by
  obtain ⟨y0, y1, m, _, _, hy0, hy1⟩ := trod_struct2 Try.underlying54 h
  have c1 : Try.prog.cellsOf 3 = 1 := by kernel_rfl
  simp only [c1, List.drop_zero, List.take_succ_cons, List.take_zero, List.drop_succ_cons] at hy0 hy1
  obtain ⟨l, e0, _, w0⟩ := DataW.trod_int Try.underlying3 hy0
  obtain ⟨u, e1, _, w1⟩ := DataW.trod_int Try.underlying3 hy1
  simp only [List.cons.injEq, and_true] at e0 e1
  exact ⟨l, u, e0, e1, i64n_of_wf w0, i64n_of_wf w1⟩
set_option maxRecDepth 100000 in
theorem open_ed {H : Type} {enc : TypeId × Value → H} {w : World} {base : Nat} {spare : Nat → Bool} {held : Bool} {fuel : Nat} {cs : List Value} {x : DataW H × List MemPlace} (h : DataW.trod enc Try.prog w base spare held fuel 58 cs = some x) :
    ∃ p : PE, cs = p.vals ∧ p.fit := by
  obtain ⟨xs, n, _, _, hlen, hxl, hf⟩ := DataW.trod_struct Try.underlying58 h
  have c5 : Try.prog.cellsOf 58 = 5 := by kernel_rfl
  have c2 : Try.prog.cellsOf 54 = 2 := by kernel_rfl
  have c1 : Try.prog.cellsOf 9 = 1 := by kernel_rfl
  rw [c5] at hlen
  match cs, hlen with
  | [v0, v1, v2, v3, v4], _ =>
    match xs, hxl with
    | [z0, z1, z2], _ =>
      have g0 := hf 0 _ rfl
      have g1 := hf 1 _ rfl
      have g2 := hf 2 _ rfl
      simp [c2, c1] at g0 g1 g2
      obtain ⟨l1, u1, rfl, rfl, a1, a2⟩ := open_pos g0
      obtain ⟨l2, u2, rfl, rfl, a3, a4⟩ := open_pos g1
      obtain ⟨t, e, _, _⟩ := DataW.trod_string Try.underlying9 g2
      simp only [List.cons.injEq, and_true] at e
      subst e
      exact ⟨⟨l1, u1, l2, u2, t⟩, rfl, a1, a2, a3, a4⟩
theorem add_add' (b off x y : Nat) : ((⟨b, off, none⟩ : Addr).add x).add y = ⟨b, off + x + y, none⟩ := by
  by_cases hx : x = 0 <;> by_cases hy : y = 0 <;> simp [Addr.add, hx, hy]
/-- A slice of edits that came in. -/
theorem open_eds {H : Type} {enc : TypeId × Value → H} {W : World} {fuel : Nat} {a : Option Addr} {len cap : Nat} {x : DataW H × List MemPlace} (h : DataW.trod enc Try.prog W 0 (fun _ => true) true fuel 52 [.slice a len cap] = some x) :
    len ≤ cap ∧ cap ≤ 9223372036854775807 ∧ (a = none → cap = 0) ∧ ∃ es : Nat → PE, PCells W.heap.size W a len es ∧ ∀ k, k < len → (es k).fit := by
  have c5 : Try.prog.cellsOf 58 = 5 := by kernel_rfl
  rcases Deep.open_slice Try.underlying52 h with ⟨hcs, _⟩ | ⟨ad, l, c, m, n, D, Pl, hcs, _, hl, hm, hmm, _, hx⟩
  · simp only [List.cons.injEq, Value.slice.injEq, and_true] at hcs
    obtain ⟨rfl, rfl, rfl⟩ := hcs
    exact ⟨Nat.le_refl _, by omega, fun _ => rfl, fun _ => ⟨0, 0, 0, 0, ⟨#[]⟩⟩, .inl rfl, fun k hk => by omega⟩
  · simp only [List.cons.injEq, Value.slice.injEq, and_true] at hcs
    obtain ⟨rfl, rfl, rfl⟩ := hcs
    have hlm : len ≤ m := by rw [hmm]; simp; exact hl
    rw [c5] at hx
    have each : ∀ k, k < len → ∃ p : PE, p.fit ∧ ∀ i, i < 5 → W.cell? ((ad.add (k * 5)).add i) = p.vals[i]? := by
      intro k hk
      obtain ⟨cs', h1, h2⟩ := hx k (by omega)
      obtain ⟨_, _, hcell⟩ := World.cells?_some h1
      obtain ⟨p, rfl, hp⟩ := open_ed h2
      exact ⟨p, hp, hcell⟩
    refine ⟨hl, by unfold maxLen at hm; omega, (fun h => by cases h), fun k => if hk : k < len then (each k hk).choose else ⟨0, 0, 0, 0, ⟨#[]⟩⟩, ?_, fun k hk => by simp only [dif_pos hk]; exact (each k hk).choose_spec.1⟩
    by_cases h0 : len = 0
    · exact .inl h0
    · obtain ⟨b, off, spot⟩ := ad
      have hc0 := (each 0 (by omega)).choose_spec.2 0 (by omega)
      have hspot : spot = none := by simpa [Addr.add] using World.cell?_spot hc0
      subst hspot
      have hlt : b < W.heap.size := by
        have := World.block_lt_of_cell? W _ hc0
        simpa [Addr.add] using this
      refine .inr ⟨b, off, rfl, hlt, fun k hk i hi => ?_⟩
      have h1 := (each k hk).choose_spec.2 i hi
      simp only [dif_pos hk]
      rw [add_add'] at h1
      exact h1

/-- What the frame of a law tells of a slice of edits that came in. -/
def IsEds (w : World) (a : Option Addr) (len cap : Nat) : Prop :=
  len ≤ cap ∧ cap ≤ 9223372036854775807 ∧ (a = none → cap = 0) ∧ ∃ es : Nat → PE, PCells w.heap.size w a len es ∧ ∀ k, k < len → (es k).fit
/-- The values of the first k edits by positions. -/
def pvals (es : Nat → PE) (k : Nat) : List Value := (List.range k).flatMap fun j => (es j).vals
theorem pvals_succ (es : Nat → PE) (k : Nat) : pvals es (k + 1) = pvals es k ++ (es k).vals := by unfold pvals; rw [List.range_succ]; simp
theorem pvals_len (es : Nat → PE) (k : Nat) : (pvals es k).length = k * 5 := by
  induction k with
  | zero => rfl
  | succ k ih => rw [pvals_succ, List.length_append, ih]; simp [PE.vals]; omega
theorem pvals_get (es : Nat → PE) (n k i : Nat) (hk : k < n) (hi : i < 5) : (pvals es n)[k * 5 + i]? = (es k).vals[i]? := by
  induction n with
  | zero => omega
  | succ n ih =>
    rw [pvals_succ]
    by_cases h : k = n
    · subst h
      rw [List.getElem?_append_right (by rw [pvals_len]; omega), pvals_len]
      congr 1; omega
    · rw [List.getElem?_append_left (by rw [pvals_len]; omega)]
      exact ih (by omega)
theorem pvals_congr {es fs : Nat → PE} (n : Nat) (h : ∀ k, k < n → es k = fs k) : pvals es n = pvals fs n := by
  induction n with
  | zero => rfl
  | succ n ih => rw [pvals_succ, pvals_succ, ih (fun k hk => h k (by omega)), h n (by omega)]
/-- The cells of a slice of edits, one after another. -/
theorem pcells_get {B : Nat} {w : World} {b off n : Nat} {es : Nat → PE} (h : ∀ k, k < n → ∀ i, i < 5 → w.cell? ⟨b, off + k * 5 + i, none⟩ = (es k).vals[i]?) (m : Nat) (hm : m ≤ n) :
    ∀ j u, (pvals es m)[j]? = some u → w.cell? ((⟨b, off, none⟩ : Addr).add j) = some u := by
  intro j u hj
  have hlt : j < m * 5 := by have := (List.getElem?_eq_some_iff.1 hj).1; rwa [pvals_len] at this
  have h1 := h (j / 5) (by omega) (j % 5) (by omega)
  have h2 := pvals_get es m (j / 5) (j % 5) (by omega) (by omega)
  rw [show j / 5 * 5 + j % 5 = j by omega, hj] at h2
  rw [← h2] at h1
  rw [← h1]
  congr 1
  by_cases hz : j = 0
  · subst hz; simp [Addr.add]
  · simp [Addr.add, hz]; omega
theorem pcells_of_own {w : World} {B n : Nat} {ov : Value} {es : Nat → PE} (h : w.ownsRow B 58 5 ov n (pvals es n)) :
    ∃ A cap, ov = .slice A n cap ∧ n ≤ cap ∧ cap ≤ 9223372036854775807 ∧ PCells w.heap.size w A n es ∧ ((A = none ∧ n = 0 ∧ cap = 0) ∨ ∃ g, A = some ⟨g, 0, none⟩ ∧ B ≤ g ∧ g < w.heap.size) := by
  rcases h.2 with ⟨rfl, h0⟩ | ⟨g, cp, cur, rfl, hB, hg, h1, h2, _, _⟩
  · subst h0
    exact ⟨none, 0, rfl, Nat.le_refl _, by omega, .inl rfl, .inl ⟨rfl, rfl, rfl⟩⟩
  · have hlt := (Array.getElem?_eq_some_iff.1 hg).1
    refine ⟨some ⟨g, 0, none⟩, cp, rfl, h1, by unfold maxLen at h2; omega, .inr ⟨g, 0, rfl, hlt, fun k hk i hi => ?_⟩, .inr ⟨g, rfl, hB, hlt⟩⟩
    rw [Nat.zero_add, h.cellAt (k * 5 + i) (by omega)]
    exact pvals_get es n k i hk hi

/-- What is determined of a call of Bytes: how many edits, and the error. -/
def Det (n : Nat) (ers : Nat → Int) (m : Nat) (er : Int) : Prop :=
  (64 < n ∧ m = 0 ∧ er = 4) ∨ (n ≤ 64 ∧ FirstE n ers er ∧ m = 0) ∨ (n ≤ 64 ∧ (∀ k, k < n → ers k = 0) ∧ m = n ∧ er = 0)
theorem Det.det {n : Nat} {ers : Nat → Int} {m m' : Nat} {er er' : Int} (h : Det n ers m er) (k : Det n ers m' er') : m = m' ∧ er = er' := by
  rcases h with ⟨h1, rfl, rfl⟩ | ⟨h1, h2, rfl⟩ | ⟨h1, h2, rfl, rfl⟩ <;> rcases k with ⟨k1, rfl, rfl⟩ | ⟨k1, k2, rfl⟩ | ⟨k1, k2, rfl, rfl⟩
  · exact ⟨rfl, rfl⟩
  · omega
  · omega
  · omega
  · exact ⟨rfl, h2.det k2⟩
  · obtain ⟨i, a, b, c, _⟩ := h2
    exact absurd (k2 i a) (by rw [b]; exact c)
  · omega
  · obtain ⟨i, a, b, c, _⟩ := k2
    exact absurd (h2 i a) (by rw [b]; exact c)
  · exact ⟨rfl, rfl⟩
theorem bytes_one {n : Nat} {ds : Nat → Ed} {ers : Nat → Int} {w : World} {e : Ending} {w' : World} (h : BytesPost n ds ers w e w') :
    ∃ m er a cap, e = .returned (.tuple #[.slice a m cap, .int .i64 er]) ∧ m ≤ cap ∧ cap ≤ 9223372036854775807 ∧ ECells w'.heap.size w' a m ds ∧ Det n ers m er ∧ Below w.heap.size w w' := by
  rcases h with ⟨h1, hb, rfl⟩ | ⟨h1, hb, ⟨er, hf, rfl⟩ | ⟨hz, a, cap, rfl, h2, h3, h4⟩⟩
  · exact ⟨0, 4, none, 0, rfl, Nat.le_refl _, by omega, .inl rfl, .inl ⟨h1, rfl, rfl⟩, hb⟩
  · exact ⟨0, er, none, 0, rfl, Nat.le_refl _, by omega, .inl rfl, .inr (.inl ⟨h1, hf, rfl⟩), hb⟩
  · exact ⟨n, 0, a, cap, rfl, h2, h3, h4, .inr (.inr ⟨h1, hz, rfl, rfl⟩), hb⟩

end Go.Proofs.Ytfhpllcdlejfjaa

/- Rows of edits that a law makes. It has no conditions. -/
namespace Go.Proofs.Ytfhpllcdlejfjaa
open Go.RowKit Go.Shelf
set_option linter.unusedVariables false

theorem pcells_news {B n : Nat} {w : World} {ad : Addr} {es : Nat → PE} (h : PCells B w (some ad) n es) : ∀ j u, (pvals es n)[j]? = some u → w.cell? (ad.add j) = some u := by
  rcases h with rfl | ⟨b, off, hb, _, hc⟩
  · intro j u hj; simp [pvals] at hj
  · cases hb
    exact pcells_get (B := B) hc n (Nat.le_refl _)
theorem pcells_rows {B n : Nat} {w : World} {x : Option Addr} {es : Nat → PE} (h : PCells B w x n es) (hx : n = 0 ∨ ∃ g, x = some ⟨g, 0, none⟩) :
    ∃ g, (n = 0 ∨ x = some ⟨g, 0, none⟩) ∧ ∀ k, k < n → ∀ W, Below B w W → W.cell? ⟨g, k * 5, none⟩ = some (.int .i64 (es k).l1) ∧ W.cell? ⟨g, k * 5 + 1, none⟩ = some (.int .i64 (es k).u1) ∧ W.cell? ⟨g, k * 5 + 2, none⟩ = some (.int .i64 (es k).l2) ∧ W.cell? ⟨g, k * 5 + 3, none⟩ = some (.int .i64 (es k).u2) ∧ W.cell? ⟨g, k * 5 + 4, none⟩ = some (.string (es k).t) := by
  rcases hx with h0 | ⟨g, rfl⟩
  · exact ⟨0, .inl h0, fun k hk => by omega⟩
  · rcases h with h0 | ⟨b, off, hb, hlt, hc⟩
    · exact ⟨0, .inl h0, fun k hk => by omega⟩
    · cases hb
      have hk : ∀ k, k < n → ∀ W, Below B w W → ∀ i, i < 5 → W.cell? ⟨g, k * 5 + i, none⟩ = (es k).vals[i]? := by
        intro k hk W hW i hi
        have := hc k hk i hi
        rw [Nat.zero_add] at this
        exact (hW.cell (p := ⟨g, k * 5 + i, none⟩) hlt).trans this
      exact ⟨g, .inr rfl, fun k hk' W hW => ⟨hk k hk' W hW 0 (by omega), hk k hk' W hW 1 (by omega), hk k hk' W hW 2 (by omega), hk k hk' W hW 3 (by omega), hk k hk' W hW 4 (by omega)⟩⟩
/-- The length of a slice. -/
def lenV : Value → Nat
  | .slice _ n _ => n
  | _ => 0
theorem infoP : (Try.prog.info? 58).map (fun i => (i.zero, i.size, i.bytes)) = some (some (.agg #[.int .i64 0, .int .i64 0, .int .i64 0, .int .i64 0, .string ⟨#[]⟩]), 5, 48) := by kernel_rfl

end Go.Proofs.Ytfhpllcdlejfjaa
