/- The contract of the program's Bytes. Conditions: texts of at most 100000 bytes. -/
import Derived.Test.YthjedecfpedjbaaPEd2
namespace Go.Proofs.Ythjedecfpedjbaa
open Go.RowKit Go.Shelf
set_option linter.unusedVariables false

set_option maxRecDepth 100000 in
set_option maxHeartbeats 1000000 in
theorem one_ed (s : ByteArray) (Bs : Nat) (p : PE) (d : Ed) (er : Int) (w : World) (hs : s.size ≤ 100000) (hp : p.fit) (hbs : Boxed w Bs 9 (.string s)) (h : EdS (sb s) p d er) :
    Calls Try.prog 46 #[.agg p.vals.toArray, .pointer (some ⟨Bs, 0, none⟩)] w fun e w' => e = .returned (.tuple #[.agg d.vals.toArray, .int .i64 er]) ∧ Below w.heap.size w w' := by
  have C0 := fun W => inb_any s p d er W hs hp h
  obtain ⟨l1, u1, l2, u2, t⟩ := p
  obtain ⟨df, dO, dt⟩ := d
  simp only [PE.vals, Ed.vals] at C0 ⊢
  obtain ⟨P, hP⟩ : ∃ P, w.heap.size = P := ⟨_, rfl⟩
  obtain ⟨W2, hW2⟩ : ∃ W, (w.alloc (.cells #[.int .i64 l1, .int .i64 u1, .int .i64 l2, .int .i64 u2, .string t] 43)).alloc (.cells #[.int .i64 0, .int .i64 0, .string ⟨#[]⟩] 52) = W := ⟨_, rfl⟩
  have c0 := ((hbs.alloc (.cells #[.int .i64 l1, .int .i64 u1, .int .i64 l2, .int .i64 u2, .string t] 43)).alloc (.cells #[.int .i64 0, .int .i64 0, .string ⟨#[]⟩] 52)).cell
  have b3 : Blk W2 (P + 1) 52 #[.int .i64 0, .int .i64 0, .string ⟨#[]⟩] := by
    rw [← hW2, ← hP]
    have := Blk.new (w.alloc (.cells #[.int .i64 l1, .int .i64 u1, .int .i64 l2, .int .i64 u2, .string t] 43)) 52 #[.int .i64 0, .int .i64 0, .string ⟨#[]⟩]
    simpa using this
  have s2 : W2.heap.size = P + 1 + 1 := by rw [← hW2, ← hP]; simp
  have hb2 : Below P w W2 := by rw [← hW2, ← hP]; exact ((Below.refl _ _).alloc (Nat.le_refl _) _).alloc (by simp) _
  have HP := Lib.hid hP; have HW2 := Lib.hid hW2; have HB3 := Lib.hid b3; have HS2 := Lib.hid s2; have HBB := Lib.hid hb2; have C := Lib.hid C0
  clear C0 hP hW2 b3 s2 hb2 h hbs
  go_enter Try.func46, Try.ntmps46
  go_wp2_with fail
  rw [HP.out, show (w.alloc (.cells #[.int .i64 l1, .int .i64 u1, .int .i64 l2, .int .i64 u2, .string t] 43)).alloc (.cells #[.int .i64 0, .int .i64 0, .string ⟨#[]⟩] 52) = W2 from HW2.out]
  refine (C.out _).mono ?_
  rintro e w5 ⟨rfl, hb⟩
  have e3' := HB3.out.same (hb.block (P + 1) (by rw [HS2.out]; omega))
  have H5 : Below P w w5 := HBB.out.trans (hb.mono (by rw [HS2.out]; omega))
  have c0 : w5.cell? ⟨P + 1, 0, none⟩ = some (.int .i64 0) := by simpa using e3'.cell 0
  have c1 : w5.cell? ⟨P + 1, 1, none⟩ = some (.int .i64 0) := by simpa using e3'.cell 1
  have c2 : w5.cell? ⟨P + 1, 2, none⟩ = some (.string ⟨#[]⟩) := by simpa using e3'.cell 2
  have f0 := e3'.frozen 0; have f1 := e3'.frozen 1; have f2 := e3'.frozen 2
  have b2 := ((e3'.set 0 (.int .i64 (df : Int))).set 1 (.int .i64 (dO : Int))).set 2 (.string dt)
  have k0 : (((w5.setCell ⟨P + 1, 0, none⟩ (.int .i64 (df : Int))).setCell ⟨P + 1, 1, none⟩ (.int .i64 (dO : Int))).setCell ⟨P + 1, 2, none⟩ (.string dt)).cell? ⟨P + 1, 0, none⟩ = some (.int .i64 (df : Int)) := by simpa using b2.cell 0
  have k1 : (((w5.setCell ⟨P + 1, 0, none⟩ (.int .i64 (df : Int))).setCell ⟨P + 1, 1, none⟩ (.int .i64 (dO : Int))).setCell ⟨P + 1, 2, none⟩ (.string dt)).cell? ⟨P + 1, 1, none⟩ = some (.int .i64 (dO : Int)) := by simpa using b2.cell 1
  have k2 : (((w5.setCell ⟨P + 1, 0, none⟩ (.int .i64 (df : Int))).setCell ⟨P + 1, 1, none⟩ (.int .i64 (dO : Int))).setCell ⟨P + 1, 2, none⟩ (.string dt)).cell? ⟨P + 1, 2, none⟩ = some (.string dt) := by simpa using b2.cell 2
  have HF := Lib.hid (((H5.setCell (p := ⟨P + 1, 0, none⟩) (by show P ≤ P + 1; omega) (.int .i64 (df : Int))).setCell (p := ⟨P + 1, 1, none⟩) (by show P ≤ P + 1; omega) (.int .i64 (dO : Int))).setCell (p := ⟨P + 1, 2, none⟩) (by show P ≤ P + 1; omega) (.string dt))
  clear hb e3' H5 b2 C
  go_wp2
  refine bodyPost_ret (v := .tuple #[.agg #[.int .i64 (df : Int), .int .i64 (dO : Int), .string dt], .int .i64 er]) (by simp [results, Try.results46, go_sem, k0, k1, k2]) rfl ?_
  exact ⟨rfl, by rw [HP.out]; exact HF.out⟩

/-- A slice of n edits by positions lies in memory, below block B. -/
def PCells (B : Nat) (w : World) (a : Option Addr) (n : Nat) (es : Nat → PE) : Prop :=
  n = 0 ∨ ∃ b off, a = some ⟨b, off, none⟩ ∧ b < B ∧ ∀ k, k < n → ∀ i, i < 5 → w.cell? ⟨b, off + k * 5 + i, none⟩ = (es k).vals[i]?
/-- A slice of n edits by offsets lies at the head of a block below B. -/
def ECells (B : Nat) (w : World) (a : Option Addr) (n : Nat) (ds : Nat → Ed) : Prop :=
  n = 0 ∨ ∃ g, a = some ⟨g, 0, none⟩ ∧ g < B ∧ ∀ k, k < n → ∀ i, i < 3 → w.cell? ⟨g, k * 3 + i, none⟩ = (ds k).vals[i]?
/-- The first error of n. -/
def FirstE (n : Nat) (ers : Nat → Int) (er : Int) : Prop := ∃ k, k < n ∧ ers k = er ∧ er ≠ 0 ∧ ∀ j, j < k → ers j = 0
theorem FirstE.det {n : Nat} {ers : Nat → Int} {a b : Int} (h : FirstE n ers a) (k : FirstE n ers b) : a = b := by
  obtain ⟨i, h1, h2, h3, h4⟩ := h
  obtain ⟨j, k1, k2, k3, k4⟩ := k
  rcases Nat.lt_trichotomy i j with h | rfl | h
  · exact absurd (k4 i h) (by rw [h2]; exact h3)
  · rw [← h2, k2]
  · exact absurd (h4 j h) (by rw [k2]; exact k3)
/-- What Bytes returns: the edits, or the first error. -/
def EdsPost (n : Nat) (ds : Nat → Ed) (ers : Nat → Int) (w : World) (e : Ending) (w' : World) : Prop := Below w.heap.size w w' ∧
  ((∃ er, FirstE n ers er ∧ e = .returned (.tuple #[.slice none 0 0, .int .i64 er])) ∨
   ((∀ k, k < n → ers k = 0) ∧ ∃ a cap, e = .returned (.tuple #[.slice a n cap, .int .i64 0]) ∧ n ≤ cap ∧ cap ≤ 9223372036854775807 ∧ ECells w'.heap.size w' a n ds))

theorem infoE : (Try.prog.info? 52).map (fun i => (i.zero, i.size, i.bytes)) = some (some (.agg #[.int .i64 0, .int .i64 0, .string ⟨#[]⟩]), 3, 32) := by kernel_rfl
set_option maxRecDepth 100000 in
set_option maxHeartbeats 4000000 in
theorem conv_eds (s : ByteArray) (Bs : Nat) (a : Option Addr) (n cap : Nat) (es : Nat → PE) (ds : Nat → Ed) (ers : Nat → Int) (w : World) (hs : s.size ≤ 100000) (hn : n ≤ 64) (hcap : n ≤ cap) (hfit : ∀ k, k < n → (es k).fit) (hc : PCells w.heap.size w a n es) (hbs : Boxed w Bs 9 (.string s)) (h : ∀ k, k < n → EdS (sb s) (es k) (ds k) (ers k)) :
    Calls Try.prog 45 #[.slice a n cap, .func (.func 46) #[] #[.pointer (some ⟨Bs, 0, none⟩)]] w (EdsPost n ds ers w) := by
  obtain ⟨i3, hi3, hy0, hy1, hy2⟩ := info_parts infoE
  obtain ⟨B, hB⟩ : ∃ B, w.heap.size = B := ⟨_, rfl⟩
  rw [hB] at hc
  have hBB : Bs < B := by rw [← hB]; exact hbs.lt
  have hcore : ∃ b off, (n = 0 ∨ (a = some ⟨b, off, none⟩ ∧ b < B)) ∧ ∀ k, k < n → ∀ W, Below B w W → Boxed W Bs 9 (.string s) ∧ W.cell? ⟨b, off + k * 5, none⟩ = some (.int .i64 (es k).l1) ∧ W.cell? ⟨b, off + k * 5 + 1, none⟩ = some (.int .i64 (es k).u1) ∧ W.cell? ⟨b, off + k * 5 + 2, none⟩ = some (.int .i64 (es k).l2) ∧ W.cell? ⟨b, off + k * 5 + 3, none⟩ = some (.int .i64 (es k).u2) ∧ W.cell? ⟨b, off + k * 5 + 4, none⟩ = some (.string (es k).t) := by
    rcases hc with h0 | ⟨b, off, ha, hb, hcc⟩
    · exact ⟨0, 0, .inl h0, fun k hk => by omega⟩
    · refine ⟨b, off, .inr ⟨ha, hb⟩, fun k hk W hW => ⟨(hW.block Bs hBB).trans hbs, ?_, ?_, ?_, ?_, ?_⟩⟩
      · exact (hW.cell (p := ⟨b, off + k * 5, none⟩) hb).trans (hcc k hk 0 (by omega))
      · exact (hW.cell (p := ⟨b, off + k * 5 + 1, none⟩) hb).trans (hcc k hk 1 (by omega))
      · exact (hW.cell (p := ⟨b, off + k * 5 + 2, none⟩) hb).trans (hcc k hk 2 (by omega))
      · exact (hW.cell (p := ⟨b, off + k * 5 + 3, none⟩) hb).trans (hcc k hk 3 (by omega))
      · exact (hW.cell (p := ⟨b, off + k * 5 + 4, none⟩) hb).trans (hcc k hk 4 (by omega))
  obtain ⟨b, off, hab, hcell⟩ := hcore
  have HAB := Lib.hid hab; have HC := Lib.hid hcell; have HB := Lib.hid hB; have HS := Lib.hid h; have HF := Lib.hid hfit
  clear hc hab hcell hB h hbs hfit
  go_enter Try.func45, Try.ntmps45
  go_wp2_with (at_make; refine wpList_make_full _ rfl _ _ 44 rfl w.heap.size 52 i3 (.agg #[.int .i64 0, .int .i64 0, .string ⟨#[]⟩]) 3 Try.underlying44 hi3 hy0 hy1 .i64 .i64 _ _ n rfl rfl rfl rfl (by rw [hy2]; omega) (by unfold maxLen; omega) (Nat.le_refl _) ?_; intro w1 hown1 hgrow1)
  have H1 : Hid ((∃ cur : Array Value, Blk w1 B 52 cur ∧ cur.size = n * 3) ∧ Below B w w1) := by
    rw [HB.out] at hown1
    refine ⟨?_, (Below.refl _ _).grown hgrow1 (by rw [HB.out]; exact Nat.le_refl _) (fun k e => by cases e)⟩
    rcases hown1.2 with ⟨h0, _⟩ | ⟨g, cp, cur, hv, _, hg, _, _, hsz, _⟩
    · cases h0
    · simp only [Value.slice.injEq, Option.some.injEq, Addr.mk.injEq, and_true, true_and] at hv
      obtain ⟨rfl, rfl⟩ := hv
      exact ⟨cur, hg, hsz⟩
  rw [HB.out]
  clear hown1 hgrow1
  go_loopw [16] (fun q wr => ∃ (k : Nat) (cur : Array Value), k ≤ n ∧ q = .int .i64 (k : Int) ∧ cur.size = n * 3 ∧ Hid (∀ j, j < k → ers j = 0 ∧ ∀ i, i < 3 → cur[j * 3 + i]? = (ds j).vals[i]?) ∧ Hid (Blk wr B 52 cur) ∧ Hid (Below B w wr)) (fun q _ => n - (intOf q).toNat)
  case atStart =>
    obtain ⟨⟨cur, h1, h2⟩, h3⟩ := H1.out
    exact ⟨0, cur, by omega, rfl, h2, Lib.hid (fun j h => by omega), h1, h3⟩
  case round =>
    obtain ⟨k, cur, hk, rfl, hcs, HI, HM, HR⟩ := hrel
    by_cases hlt : k < n
    · obtain ⟨ha, hbB⟩ := HAB.out.resolve_left (by omega)
      subst ha
      obtain ⟨hbx, c0, c1, c2, c3, c4⟩ := HC.out k hlt wr HR.out
      have hkk : (k : Int) < (n : Int) := by omega
      have hBr : B < wr.heap.size := HM.out.lt
      obtain ⟨V, hV⟩ : ∃ V, wr.alloc (.cells #[.int .i64 (es k).l1, .int .i64 (es k).u1, .int .i64 (es k).l2, .int .i64 (es k).u2, .string (es k).t] 43) = V := ⟨_, rfl⟩
      have hbV : Boxed V Bs 9 (.string s) := by rw [← hV]; exact hbx.alloc _
      have cP := one_ed s Bs (es k) (ds k) (ers k) V hs (HF.out k hlt) hbV (HS.out k hlt)
      rw [← hV] at cP
      simp only [PE.vals, Ed.vals] at cP
      have CP := Lib.hid cP
      clear cP hbV hbx hV
      go_wp2_with fail
      refine CP.out.mono ?_
      rintro e w4 ⟨rfl, b4⟩
      have hb4 : Below wr.heap.size wr w4 := ((Below.refl _ _).alloc (Nat.le_refl _) _).trans (b4.mono (by simp))
      have hs4 := hb4.size
      have h5 : Below B w (w4.alloc (.cells #[.int .i64 ((ds k).f : Int), .int .i64 ((ds k).o : Int), .string (ds k).t] 52)) := (HR.out.trans (hb4.mono (by omega))).alloc (by omega) _
      have h4 : Below B w w4 := HR.out.trans (hb4.mono (by omega))
      have hM4 := (HM.out.same (hb4.block B hBr)).alloc (.cells #[.int .i64 ((ds k).f : Int), .int .i64 ((ds k).o : Int), .string (ds k).t] 52)
      have hci : ∀ i, i < 3 → ∃ v, (w4.alloc (.cells #[.int .i64 ((ds k).f : Int), .int .i64 ((ds k).o : Int), .string (ds k).t] 52)).cell? ⟨B, k * 3 + i, none⟩ = some v := by
        intro i hi
        rw [hM4.cell]
        exact ⟨cur[k * 3 + i]'(by omega), Array.getElem?_eq_getElem (by omega)⟩
      obtain ⟨v0, m0⟩ := hci 0 (by omega)
      obtain ⟨v1, m1⟩ := hci 1 (by omega)
      obtain ⟨v2, m2⟩ := hci 2 (by omega)
      rw [Nat.add_zero] at m0
      have f0 := hM4.frozen (k * 3); have f1 := hM4.frozen (k * 3 + 1); have f2 := hM4.frozen (k * 3 + 2)
      have HM4 := Lib.hid hM4; have H5 := Lib.hid h5; have H4 := Lib.hid h4
      clear b4 hb4 h5 h4 hM4 hci
      by_cases he : ers k = 0
      · have hq : (ers k != 0) = false := by simp [he]
        have HE := Lib.hid he
        obtain ⟨cur2, hcur2⟩ : ∃ c, ((cur.setIfInBounds (k * 3) (.int .i64 ((ds k).f : Int))).setIfInBounds (k * 3 + 1) (.int .i64 ((ds k).o : Int))).setIfInBounds (k * 3 + 2) (.string (ds k).t) = c := ⟨_, rfl⟩
        have hcs2 : cur2.size = n * 3 := by rw [← hcur2]; simp [hcs]
        have HI2 : Hid (∀ j, j < k + 1 → ers j = 0 ∧ ∀ i, i < 3 → cur2[j * 3 + i]? = (ds j).vals[i]?) := by
          intro j hj
          refine ⟨?_, fun i hi => ?_⟩
          · by_cases hjk : j = k
            · subst hjk; exact HE.out
            · exact (HI.out j (by omega)).1
          · rw [← hcur2]
            by_cases hjk : j = k
            · subst hjk
              have : i = 0 ∨ i = 1 ∨ i = 2 := by omega
              rcases this with rfl | rfl | rfl
              · simp [Array.getElem?_setIfInBounds, Ed.vals, hcs]; omega
              · simp [Array.getElem?_setIfInBounds, Ed.vals, hcs]; omega
              · simp [Array.getElem?_setIfInBounds, Ed.vals, hcs]; omega
            · rw [Array.getElem?_setIfInBounds_ne (by omega), Array.getElem?_setIfInBounds_ne (by omega), Array.getElem?_setIfInBounds_ne (by omega)]
              exact (HI.out j (by omega)).2 i hi
        have HM2 := Lib.hid (((HM4.out.set (k * 3) (.int .i64 ((ds k).f : Int))).set (k * 3 + 1) (.int .i64 ((ds k).o : Int))).set (k * 3 + 2) (.string (ds k).t))
        rw [hcur2] at HM2
        have HR2 := Lib.hid (((H5.out.setCell (p := ⟨B, k * 3, none⟩) (Nat.le_refl _) (.int .i64 ((ds k).f : Int))).setCell (p := ⟨B, k * 3 + 1, none⟩) (Nat.le_refl _) (.int .i64 ((ds k).o : Int))).setCell (p := ⟨B, k * 3 + 2, none⟩) (Nat.le_refl _) (.string (ds k).t))
        clear he hcur2
        go_wp2
        go_roundw
        case rel => exact ⟨k + 1, cur2, by omega, by go_num, hcs2, HI2, HM2, HR2⟩
        case measure => simp [intOf]; omega
      · have hq : (ers k != 0) = true := by simp [he]
        have HE := Lib.hid he
        clear he
        go_wp2
        go_ret2
        exact ⟨by rw [HB.out]; exact H5.out, .inl ⟨ers k, ⟨k, hlt, rfl, HE.out, fun j hj => (HI.out j hj).1⟩, rfl⟩⟩
    · obtain rfl : n = k := by omega
      have HE : Hid (ECells wr.heap.size wr (some ⟨B, 0, none⟩) n ds) := by
        refine .inr ⟨B, rfl, HM.out.lt, fun j hj i hi => ?_⟩
        rw [HM.out.cell]
        exact (HI.out j hj).2 i hi
      go_wp2
      go_ret2
      exact ⟨by rw [HB.out]; exact HR.out, .inr ⟨fun j hj => (HI.out j hj).1, some ⟨B, 0, none⟩, n, rfl, Nat.le_refl _, by omega, HE.out⟩⟩

end Go.Proofs.Ythjedecfpedjbaa
