/- The contract of the program's conversion of the two positions of an edit. Conditions: texts of at most 100000 bytes. -/
import Derived.Test.YthjedecfpedjbaaPOffP
namespace Go.Proofs.Ythjedecfpedjbaa
open Go.RowKit Go.Shelf
set_option linter.unusedVariables false

/-- A number of 64 bits. -/
def I64n (n : Int) : Prop := -9223372036854775808 ≤ n ∧ n ≤ 9223372036854775807
set_option maxRecDepth 100000 in
set_option maxHeartbeats 1000000 in
theorem one_pos (s : ByteArray) (Bs : Nat) (l u : Int) (o : Nat) (er : Int) (w : World) (hs : s.size ≤ 100000) (hl : I64n l) (hu : I64n u) (hbs : Boxed w Bs 9 (.string s)) (h : OffSpec (sb s) l u o er) :
    Calls Try.prog 64 #[.agg #[.int .i64 l, .int .i64 u], .pointer (some ⟨Bs, 0, none⟩)] w fun e w' => e = .returned (.tuple #[.int .i64 (o : Int), .int .i64 er]) ∧ Below w.heap.size w w' := by
  have c2 := (hbs.alloc (.cells #[.int .i64 l, .int .i64 u] 32)).cell
  have hb0 : Below w.heap.size w (w.alloc (.cells #[.int .i64 l, .int .i64 u] 32)) := (Below.refl _ _).alloc (Nat.le_refl _) _
  have C := Lib.hid (fun W => poff_any s l u W hs hl hu)
  have HH := Lib.hid h; have HB0 := Lib.hid hb0
  clear h hb0 hbs
  go_enter Try.func64, Try.ntmps64
  go_wp2_with fail
  refine (C.out _).mono ?_
  rintro e w' ⟨o', er', rfl, hsp, hb⟩
  obtain ⟨rfl, rfl⟩ := HH.out.det hsp
  have H1 : Hid (Below w.heap.size w w') := HB0.out.trans (hb.mono (by simp))
  clear hsp hb
  go_wp2
  go_ret2
  exact ⟨rfl, H1.out⟩

set_option maxRecDepth 100000 in
set_option maxHeartbeats 2000000 in
theorem two_pos (s : ByteArray) (Q Bs : Nat) (l u : Nat → Int) (o : Nat → Nat) (er : Nat → Int) (w : World) (hs : s.size ≤ 100000) (hl : ∀ k, I64n (l k) ∧ I64n (u k))
    (hq : Blk w Q 32 #[.int .i64 (l 0), .int .i64 (u 0), .int .i64 (l 1), .int .i64 (u 1)]) (hbs : Boxed w Bs 9 (.string s)) (h : ∀ k, k < 2 → OffSpec (sb s) (l k) (u k) (o k) (er k)) :
    Calls Try.prog 63 #[.slice (some ⟨Q, 0, none⟩) 2 2, .func (.func 64) #[] #[.pointer (some ⟨Bs, 0, none⟩)]] w fun e w' => Below w.heap.size w w' ∧
      ((∃ k, k < 2 ∧ er k ≠ 0 ∧ (∀ j, j < k → er j = 0) ∧ e = .returned (.tuple #[.slice none 0 0, .int .i64 (er k)])) ∨
       (er 0 = 0 ∧ er 1 = 0 ∧ ∃ g, e = .returned (.tuple #[.slice (some ⟨g, 0, none⟩) 2 2, .int .i64 0]) ∧ w'.cell? ⟨g, 0, none⟩ = some (.int .i64 (o 0 : Int)) ∧ w'.cell? ⟨g, 1, none⟩ = some (.int .i64 (o 1 : Int)))) := by
  obtain ⟨i3, hi3, hy0, hy1, hy2⟩ := info_parts info3
  obtain ⟨B, hB⟩ : ∃ B, w.heap.size = B := ⟨_, rfl⟩
  have hQB : Q < B := by rw [← hB]; exact hq.lt
  have hBB : Bs < B := by rw [← hB]; exact hbs.lt
  have hcell : ∀ k, k < 2 → ∀ W, Below B w W → W.cell? ⟨Q, k * 2, none⟩ = some (.int .i64 (l k)) ∧ W.cell? ⟨Q, k * 2 + 1, none⟩ = some (.int .i64 (u k)) ∧ Boxed W Bs 9 (.string s) := by
    intro k hk W hW
    have h1 := hq.same (hW.block Q hQB)
    have h2 : Boxed W Bs 9 (.string s) := (hW.block Bs hBB).trans hbs
    have : k = 0 ∨ k = 1 := by omega
    rcases this with rfl | rfl
    · exact ⟨by simpa using h1.cell 0, by simpa using h1.cell 1, h2⟩
    · exact ⟨by simpa using h1.cell 2, by simpa using h1.cell 3, h2⟩
  have HC := Lib.hid hcell; have HB := Lib.hid hB; have HS := Lib.hid h; have HL := Lib.hid hl
  clear hcell hB h hl hq hbs
  go_enter Try.func63, Try.ntmps63
  go_wp2_with (at_make; refine wpList_make_full _ rfl _ _ 22 rfl w.heap.size 3 i3 (.int .i64 0) 1 Try.underlying22 hi3 hy0 hy1 .i64 .i64 _ _ 2 rfl rfl rfl rfl (by rw [hy2]; omega) (by unfold maxLen; omega) (Nat.le_refl _) ?_; intro w1 hown1 hgrow1)
  have H1 : Hid (Row .i64 3 B w1.heap.size w1 (some ⟨B, 0, none⟩) 2 2 [0, 0] ∧ Below B w w1) := by
    rw [HB.out, show (madeCells (Value.int IntKind.i64 0).cells (2 * 1)).toList = List.map (Value.int .i64) [0, 0] from toList_madeCells_one _ 2] at hown1
    exact ⟨row_of_own hown1, (Below.refl _ _).grown hgrow1 (by rw [HB.out]; exact Nat.le_refl _) (fun k e => by cases e)⟩
  rw [HB.out]
  clear hown1 hgrow1
  go_loopw [16] (fun q wr => ∃ (k : Nat) (xs : List Int), k ≤ 2 ∧ q = .int .i64 (k : Int) ∧ Hid (∀ j, j < k → er j = 0 ∧ xs[j]?.getD 0 = (o j : Int)) ∧ Hid (Row .i64 3 B w1.heap.size wr (some ⟨B, 0, none⟩) 2 2 xs ∧ Below B w wr)) (fun q _ => 2 - (intOf q).toNat)
  case atStart => exact ⟨0, [0, 0], by omega, rfl, Lib.hid (fun j h => by omega), H1⟩
  case round =>
    obtain ⟨k, xs, hk, rfl, HI, HR⟩ := hrel
    by_cases hlt : k < 2
    · obtain ⟨c0, c1, hbx⟩ := HC.out k hlt wr HR.out.2
      have hkk : (k : Int) < 2 := by omega
      have hsz : w1.heap.size ≤ wr.heap.size := HR.out.1.sz
      have hBr : B ≤ wr.heap.size := by have := HR.out.2.size; have := HB.out; omega
      obtain ⟨V, hV⟩ : ∃ V, wr.alloc (.cells #[.int .i64 (l k), .int .i64 (u k)] 32) = V := ⟨_, rfl⟩
      have hbV : Boxed V Bs 9 (.string s) := by rw [← hV]; exact hbx.alloc _
      have cP := one_pos s Bs (l k) (u k) (o k) (er k) V hs (HL.out k).1 (HL.out k).2 hbV (HS.out k hlt)
      rw [← hV] at cP
      have CP := Lib.hid cP
      clear cP hbV hbx hV
      go_wp2_with fail
      refine CP.out.mono ?_
      rintro e w4 ⟨rfl, b4⟩
      have HB4 : Hid (Below wr.heap.size wr w4) := ((Below.refl _ _).alloc (Nat.le_refl _) _).trans (b4.mono (by simp))
      have H4 : Hid (Below B w w4) := HR.out.2.trans (HB4.out.mono hBr)
      have hrow := HR.out.1.below HB4.out hsz
      obtain ⟨g', hA', _, _, hck, hfz, hst⟩ := hrow.at_ (j := k) hlt
      simp only [Option.some.injEq, Addr.mk.injEq, and_true] at hA'
      subst hA'
      have HST := Lib.hid (hst (o k : Int))
      clear b4 hrow hst
      by_cases he : er k = 0
      · have hq : (er k != 0) = false := by simp [he]
        have HE := Lib.hid he
        have HI2 : Hid (∀ j, j < k + 1 → er j = 0 ∧ (xs.set k (o k : Int))[j]?.getD 0 = (o j : Int)) := by
          intro j hj
          by_cases hjk : j = k
          · subst hjk
            have hlen := HR.out.1.len
            exact ⟨HE.out, by rw [List.getElem?_set_self (by omega)]; rfl⟩
          · obtain ⟨h1, h2⟩ := HI.out j (by omega)
            exact ⟨h1, by rw [List.getElem?_set_ne (by omega)]; exact h2⟩
        have H5 : Hid (Row .i64 3 B w1.heap.size (w4.setCell ⟨B, k, none⟩ (.int .i64 (o k : Int))) (some ⟨B, 0, none⟩) 2 2 (xs.set k (o k : Int)) ∧ Below B w (w4.setCell ⟨B, k, none⟩ (.int .i64 (o k : Int)))) :=
          ⟨HST.out.1, H4.out.setCell (p := ⟨B, k, none⟩) (Nat.le_refl _) _⟩
        clear he
        go_wp2
        go_roundw
        case rel => exact ⟨k + 1, _, by omega, by go_num, HI2, H5⟩
        case measure => simp [intOf]; omega
      · have hq : (er k != 0) = true := by simp [he]
        have HE := Lib.hid he
        clear he
        go_wp2
        go_ret2
        exact ⟨by rw [HB.out]; exact H4.out, .inl ⟨k, hlt, HE.out, fun j hj => (HI.out j hj).1, rfl⟩⟩
    · obtain rfl : 2 = k := by omega
      obtain ⟨g0, hA0, _, _, d0, _⟩ := HR.out.1.at_ (j := 0) (by omega)
      obtain ⟨g1, hA1, _, _, d1, _⟩ := HR.out.1.at_ (j := 1) (by omega)
      simp only [Option.some.injEq, Addr.mk.injEq, and_true] at hA0 hA1
      subst hA0 hA1
      rw [(HI.out 0 (by omega)).2] at d0
      rw [(HI.out 1 (by omega)).2] at d1
      have HD := Lib.hid (And.intro d0 d1)
      clear d0 d1
      go_wp2
      go_ret2
      exact ⟨by rw [HB.out]; exact HR.out.2, .inr ⟨(HI.out 0 (by omega)).1, (HI.out 1 (by omega)).1, B, rfl, HD.out.1, HD.out.2⟩⟩

end Go.Proofs.Ythjedecfpedjbaa
