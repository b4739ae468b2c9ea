/- Texts of one claim, put together: PEd3, PEd4, PEd5, PEd7, Str, Short, Bound, Wf, Giv, RegR. Each part says what it proves and under which conditions. -/
import Derived.Test.YtkehgoailhpenaaPC02
import Derived.Deep.Slices
import Derived.Laws.BytesArg
import Derived.Laws.IdiomStrings
import Derived.RangeFuncNested
import Derived.RangeFuncBound
import Derived.RangeFuncCalls
import Derived.RangeFuncLeaves
import Derived.Shelf.Abstract
import Derived.Shelf.RegionOpen
import Derived.WalkKit
import Derived.OwnWalkIn
import Derived.TacticsInMore
import Derived.LoopNIn
import Derived.LoopIn
import Derived.RangeFuncBox
import Derived.OrdersIn
import Derived.Deep.RegionHeld3

/- The contract of the program's Bytes. Conditions: texts of at most 100000 bytes. -/
namespace Go.Proofs.Ytkehgoailhpenaa
open Go.RowKit Go.Shelf
set_option linter.unusedVariables false

set_option maxRecDepth 100000 in
set_option maxHeartbeats 1000000 in
theorem one_ed (s : ByteArray) (Bs : Nat) (p : PE) (d : Ed) (er : Int) (w : World) (hs : s.size ≤ 100000) (hp : p.fit) (hbs : Boxed w Bs 9 (.string s)) (h : EdS (sb s) p d er) :
    Calls Try.prog 61 #[.agg p.vals.toArray, .pointer (some ⟨Bs, 0, none⟩)] w fun e w' => e = .returned (.tuple #[.agg d.vals.toArray, .int .i64 er]) ∧ Below w.heap.size w w' := by
  have C0 := fun W => inb_any s p d er W hs hp h
  obtain ⟨l1, u1, l2, u2, t⟩ := p
  obtain ⟨df, dO, dt⟩ := d
  simp only [PE.vals, Ed.vals] at C0 ⊢
  obtain ⟨P, hP⟩ : ∃ P, w.heap.size = P := ⟨_, rfl⟩
  obtain ⟨W2, hW2⟩ : ∃ W, (w.alloc (.cells #[.int .i64 l1, .int .i64 u1, .int .i64 l2, .int .i64 u2, .string t] 59)).alloc (.cells #[.int .i64 0, .int .i64 0, .string ⟨#[]⟩] 82) = W := ⟨_, rfl⟩
  have c0 := ((hbs.alloc (.cells #[.int .i64 l1, .int .i64 u1, .int .i64 l2, .int .i64 u2, .string t] 59)).alloc (.cells #[.int .i64 0, .int .i64 0, .string ⟨#[]⟩] 82)).cell
  have b3 : Blk W2 (P + 1) 82 #[.int .i64 0, .int .i64 0, .string ⟨#[]⟩] := by
    rw [← hW2, ← hP]
    have := Blk.new (w.alloc (.cells #[.int .i64 l1, .int .i64 u1, .int .i64 l2, .int .i64 u2, .string t] 59)) 82 #[.int .i64 0, .int .i64 0, .string ⟨#[]⟩]
    simpa using this
  have s2 : W2.heap.size = P + 1 + 1 := by rw [← hW2, ← hP]; simp
  have hb2 : Below P w W2 := by rw [← hW2, ← hP]; exact ((Below.refl _ _).alloc (Nat.le_refl _) _).alloc (by simp) _
  have HP := Lib.hid hP; have HW2 := Lib.hid hW2; have HB3 := Lib.hid b3; have HS2 := Lib.hid s2; have HBB := Lib.hid hb2; have C := Lib.hid C0
  clear C0 hP hW2 b3 s2 hb2 h hbs
  go_enter Try.func61, Try.ntmps61
  go_wp2_with fail
  rw [HP.out, show (w.alloc (.cells #[.int .i64 l1, .int .i64 u1, .int .i64 l2, .int .i64 u2, .string t] 59)).alloc (.cells #[.int .i64 0, .int .i64 0, .string ⟨#[]⟩] 82) = W2 from HW2.out]
  refine (C.out _).mono ?_
  rintro e w5 ⟨rfl, hb⟩
  have e3' := HB3.out.same (hb.block (P + 1) (by rw [HS2.out]; omega))
  have H5 : Below P w w5 := HBB.out.trans (hb.mono (by rw [HS2.out]; omega))
  have c0 : w5.cell? ⟨P + 1, 0, none⟩ = some (.int .i64 0) := by simpa using e3'.cell 0
  have c1 : w5.cell? ⟨P + 1, 1, none⟩ = some (.int .i64 0) := by simpa using e3'.cell 1
  have c2 : w5.cell? ⟨P + 1, 2, none⟩ = some (.string ⟨#[]⟩) := by simpa using e3'.cell 2
  have f0 := e3'.frozen 0; have f1 := e3'.frozen 1; have f2 := e3'.frozen 2
  have b2 := ((e3'.set 0 (.int .i64 (df : Int))).set 1 (.int .i64 (dO : Int))).set 2 (.string dt)
  have k0 : (((w5.setCell ⟨P + 1, 0, none⟩ (.int .i64 (df : Int))).setCell ⟨P + 1, 1, none⟩ (.int .i64 (dO : Int))).setCell ⟨P + 1, 2, none⟩ (.string dt)).cell? ⟨P + 1, 0, none⟩ = some (.int .i64 (df : Int)) := by simpa using b2.cell 0
  have k1 : (((w5.setCell ⟨P + 1, 0, none⟩ (.int .i64 (df : Int))).setCell ⟨P + 1, 1, none⟩ (.int .i64 (dO : Int))).setCell ⟨P + 1, 2, none⟩ (.string dt)).cell? ⟨P + 1, 1, none⟩ = some (.int .i64 (dO : Int)) := by simpa using b2.cell 1
  have k2 : (((w5.setCell ⟨P + 1, 0, none⟩ (.int .i64 (df : Int))).setCell ⟨P + 1, 1, none⟩ (.int .i64 (dO : Int))).setCell ⟨P + 1, 2, none⟩ (.string dt)).cell? ⟨P + 1, 2, none⟩ = some (.string dt) := by simpa using b2.cell 2
  have HF := Lib.hid (((H5.setCell (p := ⟨P + 1, 0, none⟩) (by show P ≤ P + 1; omega) (.int .i64 (df : Int))).setCell (p := ⟨P + 1, 1, none⟩) (by show P ≤ P + 1; omega) (.int .i64 (dO : Int))).setCell (p := ⟨P + 1, 2, none⟩) (by show P ≤ P + 1; omega) (.string dt))
  clear hb e3' H5 b2 C
  go_wp2
  refine bodyPost_ret (v := .tuple #[.agg #[.int .i64 (df : Int), .int .i64 (dO : Int), .string dt], .int .i64 er]) (by simp [results, Try.results61, go_sem, k0, k1, k2]) rfl ?_
  exact ⟨rfl, by rw [HP.out]; exact HF.out⟩

/-- A slice of n edits by positions lies in memory, below block B. -/
def PCells (B : Nat) (w : World) (a : Option Addr) (n : Nat) (es : Nat → PE) : Prop :=
  n = 0 ∨ ∃ b off, a = some ⟨b, off, none⟩ ∧ b < B ∧ ∀ k, k < n → ∀ i, i < 5 → w.cell? ⟨b, off + k * 5 + i, none⟩ = (es k).vals[i]?
/-- A slice of n edits by offsets lies at the head of a block below B. -/
def ECells (B : Nat) (w : World) (a : Option Addr) (n : Nat) (ds : Nat → Ed) : Prop :=
  n = 0 ∨ ∃ g, a = some ⟨g, 0, none⟩ ∧ g < B ∧ ∀ k, k < n → ∀ i, i < 3 → w.cell? ⟨g, k * 3 + i, none⟩ = (ds k).vals[i]?
/-- The first error of n. -/
def FirstE (n : Nat) (ers : Nat → Int) (er : Int) : Prop := ∃ k, k < n ∧ ers k = er ∧ er ≠ 0 ∧ ∀ j, j < k → ers j = 0
theorem FirstE.det {n : Nat} {ers : Nat → Int} {a b : Int} (h : FirstE n ers a) (k : FirstE n ers b) : a = b := by
  obtain ⟨i, h1, h2, h3, h4⟩ := h
  obtain ⟨j, k1, k2, k3, k4⟩ := k
  rcases Nat.lt_trichotomy i j with h | rfl | h
  · exact absurd (k4 i h) (by rw [h2]; exact h3)
  · rw [← h2, k2]
  · exact absurd (h4 j h) (by rw [k2]; exact k3)
/-- What Bytes returns: the edits, or the first error. -/
def EdsPost (n : Nat) (ds : Nat → Ed) (ers : Nat → Int) (w : World) (e : Ending) (w' : World) : Prop := Below w.heap.size w w' ∧
  ((∃ er, FirstE n ers er ∧ e = .returned (.tuple #[.slice none 0 0, .int .i64 er])) ∨
   ((∀ k, k < n → ers k = 0) ∧ ∃ a cap, e = .returned (.tuple #[.slice a n cap, .int .i64 0]) ∧ n ≤ cap ∧ cap ≤ 9223372036854775807 ∧ ECells w'.heap.size w' a n ds))

/-- .. and the new list lies in a new block. -/
def EdsPostF (n : Nat) (ds : Nat → Ed) (ers : Nat → Int) (w : World) (e : Ending) (w' : World) : Prop := Below w.heap.size w w' ∧
  ((∃ er, FirstE n ers er ∧ e = .returned (.tuple #[.slice none 0 0, .int .i64 er])) ∨
   ((∀ k, k < n → ers k = 0) ∧ ∃ a cap, e = .returned (.tuple #[.slice a n cap, .int .i64 0]) ∧ n ≤ cap ∧ cap ≤ 9223372036854775807 ∧ ECells w'.heap.size w' a n ds ∧ ∀ b off, a = some ⟨b, off, none⟩ → w.heap.size ≤ b))
theorem EdsPostF.eds {n : Nat} {ds : Nat → Ed} {ers : Nat → Int} {w : World} {e : Ending} {w' : World} (h : EdsPostF n ds ers w e w') : EdsPost n ds ers w e w' := by
  obtain ⟨h1, h2 | ⟨h3, a, cap, h4, h5, h6, h7, _⟩⟩ := h
  · exact ⟨h1, .inl h2⟩
  · exact ⟨h1, .inr ⟨h3, a, cap, h4, h5, h6, h7⟩⟩

theorem infoE : (Try.prog.info? 82).map (fun i => (i.zero, i.size, i.bytes)) = some (some (.agg #[.int .i64 0, .int .i64 0, .string ⟨#[]⟩]), 3, 32) := by kernel_rfl
set_option maxRecDepth 100000 in
set_option maxHeartbeats 4000000 in
theorem conv_edsF (s : ByteArray) (Bs : Nat) (a : Option Addr) (n cap : Nat) (es : Nat → PE) (ds : Nat → Ed) (ers : Nat → Int) (w : World) (hs : s.size ≤ 100000) (hn : n ≤ 64) (hcap : n ≤ cap) (hfit : ∀ k, k < n → (es k).fit) (hc : PCells w.heap.size w a n es) (hbs : Boxed w Bs 9 (.string s)) (h : ∀ k, k < n → EdS (sb s) (es k) (ds k) (ers k)) :
    Calls Try.prog 60 #[.slice a n cap, .func (.func 61) #[] #[.pointer (some ⟨Bs, 0, none⟩)]] w (EdsPostF n ds ers w) := by
  obtain ⟨i3, hi3, hy0, hy1, hy2⟩ := info_parts infoE
  obtain ⟨B, hB⟩ : ∃ B, w.heap.size = B := ⟨_, rfl⟩
  rw [hB] at hc
  have hBB : Bs < B := by rw [← hB]; exact hbs.lt
  have hcore : ∃ b off, (n = 0 ∨ (a = some ⟨b, off, none⟩ ∧ b < B)) ∧ ∀ k, k < n → ∀ W, Below B w W → Boxed W Bs 9 (.string s) ∧ W.cell? ⟨b, off + k * 5, none⟩ = some (.int .i64 (es k).l1) ∧ W.cell? ⟨b, off + k * 5 + 1, none⟩ = some (.int .i64 (es k).u1) ∧ W.cell? ⟨b, off + k * 5 + 2, none⟩ = some (.int .i64 (es k).l2) ∧ W.cell? ⟨b, off + k * 5 + 3, none⟩ = some (.int .i64 (es k).u2) ∧ W.cell? ⟨b, off + k * 5 + 4, none⟩ = some (.string (es k).t) := by
    rcases hc with h0 | ⟨b, off, ha, hb, hcc⟩
    · exact ⟨0, 0, .inl h0, fun k hk => by omega⟩
    · refine ⟨b, off, .inr ⟨ha, hb⟩, fun k hk W hW => ⟨(hW.block Bs hBB).trans hbs, ?_, ?_, ?_, ?_, ?_⟩⟩
      · exact (hW.cell (p := ⟨b, off + k * 5, none⟩) hb).trans (hcc k hk 0 (by omega))
      · exact (hW.cell (p := ⟨b, off + k * 5 + 1, none⟩) hb).trans (hcc k hk 1 (by omega))
      · exact (hW.cell (p := ⟨b, off + k * 5 + 2, none⟩) hb).trans (hcc k hk 2 (by omega))
      · exact (hW.cell (p := ⟨b, off + k * 5 + 3, none⟩) hb).trans (hcc k hk 3 (by omega))
      · exact (hW.cell (p := ⟨b, off + k * 5 + 4, none⟩) hb).trans (hcc k hk 4 (by omega))
  obtain ⟨b, off, hab, hcell⟩ := hcore
  have HAB := Lib.hid hab; have HC := Lib.hid hcell; have HB := Lib.hid hB; have HS := Lib.hid h; have HF := Lib.hid hfit
  clear hc hab hcell hB h hbs hfit
  go_enter Try.func60, Try.ntmps60
  go_wp2_with (at_make; refine wpList_make_full _ rfl _ _ 45 rfl w.heap.size 82 i3 (.agg #[.int .i64 0, .int .i64 0, .string ⟨#[]⟩]) 3 Try.underlying45 hi3 hy0 hy1 .i64 .i64 _ _ n rfl rfl rfl rfl (by rw [hy2]; omega) (by unfold maxLen; omega) (Nat.le_refl _) ?_; intro w1 hown1 hgrow1)
  have H1 : Hid ((∃ cur : Array Value, Blk w1 B 82 cur ∧ cur.size = n * 3) ∧ Below B w w1) := by
    rw [HB.out] at hown1
    refine ⟨?_, (Below.refl _ _).grown hgrow1 (by rw [HB.out]; exact Nat.le_refl _) (fun k e => by cases e)⟩
    rcases hown1.2 with ⟨h0, _⟩ | ⟨g, cp, cur, hv, _, hg, _, _, hsz, _⟩
    · cases h0
    · simp only [Value.slice.injEq, Option.some.injEq, Addr.mk.injEq, and_true, true_and] at hv
      obtain ⟨rfl, rfl⟩ := hv
      exact ⟨cur, hg, hsz⟩
  rw [HB.out]
  clear hown1 hgrow1
  go_loopw [16] (fun q wr => ∃ (k : Nat) (cur : Array Value), k ≤ n ∧ q = .int .i64 (k : Int) ∧ cur.size = n * 3 ∧ Hid (∀ j, j < k → ers j = 0 ∧ ∀ i, i < 3 → cur[j * 3 + i]? = (ds j).vals[i]?) ∧ Hid (Blk wr B 82 cur) ∧ Hid (Below B w wr)) (fun q _ => n - (intOf q).toNat)
  case atStart =>
    obtain ⟨⟨cur, h1, h2⟩, h3⟩ := H1.out
    exact ⟨0, cur, by omega, rfl, h2, Lib.hid (fun j h => by omega), h1, h3⟩
  case round =>
    obtain ⟨k, cur, hk, rfl, hcs, HI, HM, HR⟩ := hrel
    by_cases hlt : k < n
    · obtain ⟨ha, hbB⟩ := HAB.out.resolve_left (by omega)
      subst ha
      obtain ⟨hbx, c0, c1, c2, c3, c4⟩ := HC.out k hlt wr HR.out
      have hkk : (k : Int) < (n : Int) := by omega
      have hBr : B < wr.heap.size := HM.out.lt
      obtain ⟨V, hV⟩ : ∃ V, wr.alloc (.cells #[.int .i64 (es k).l1, .int .i64 (es k).u1, .int .i64 (es k).l2, .int .i64 (es k).u2, .string (es k).t] 59) = V := ⟨_, rfl⟩
      have hbV : Boxed V Bs 9 (.string s) := by rw [← hV]; exact hbx.alloc _
      have cP := one_ed s Bs (es k) (ds k) (ers k) V hs (HF.out k hlt) hbV (HS.out k hlt)
      rw [← hV] at cP
      simp only [PE.vals, Ed.vals] at cP
      have CP := Lib.hid cP
      clear cP hbV hbx hV
      go_wp2_with fail
      refine CP.out.mono ?_
      rintro e w4 ⟨rfl, b4⟩
      have hb4 : Below wr.heap.size wr w4 := ((Below.refl _ _).alloc (Nat.le_refl _) _).trans (b4.mono (by simp))
      have hs4 := hb4.size
      have h5 : Below B w (w4.alloc (.cells #[.int .i64 ((ds k).f : Int), .int .i64 ((ds k).o : Int), .string (ds k).t] 82)) := (HR.out.trans (hb4.mono (by omega))).alloc (by omega) _
      have h4 : Below B w w4 := HR.out.trans (hb4.mono (by omega))
      have hM4 := (HM.out.same (hb4.block B hBr)).alloc (.cells #[.int .i64 ((ds k).f : Int), .int .i64 ((ds k).o : Int), .string (ds k).t] 82)
      have hci : ∀ i, i < 3 → ∃ v, (w4.alloc (.cells #[.int .i64 ((ds k).f : Int), .int .i64 ((ds k).o : Int), .string (ds k).t] 82)).cell? ⟨B, k * 3 + i, none⟩ = some v := by
        intro i hi
        rw [hM4.cell]
        exact ⟨cur[k * 3 + i]'(by omega), Array.getElem?_eq_getElem (by omega)⟩
      obtain ⟨v0, m0⟩ := hci 0 (by omega)
      obtain ⟨v1, m1⟩ := hci 1 (by omega)
      obtain ⟨v2, m2⟩ := hci 2 (by omega)
      rw [Nat.add_zero] at m0
      have f0 := hM4.frozen (k * 3); have f1 := hM4.frozen (k * 3 + 1); have f2 := hM4.frozen (k * 3 + 2)
      have HM4 := Lib.hid hM4; have H5 := Lib.hid h5; have H4 := Lib.hid h4
      clear b4 hb4 h5 h4 hM4 hci
      by_cases he : ers k = 0
      · have hq : (ers k != 0) = false := by simp [he]
        have HE := Lib.hid he
        obtain ⟨cur2, hcur2⟩ : ∃ c, ((cur.setIfInBounds (k * 3) (.int .i64 ((ds k).f : Int))).setIfInBounds (k * 3 + 1) (.int .i64 ((ds k).o : Int))).setIfInBounds (k * 3 + 2) (.string (ds k).t) = c := ⟨_, rfl⟩
        have hcs2 : cur2.size = n * 3 := by rw [← hcur2]; simp [hcs]
        have HI2 : Hid (∀ j, j < k + 1 → ers j = 0 ∧ ∀ i, i < 3 → cur2[j * 3 + i]? = (ds j).vals[i]?) := by
          intro j hj
          refine ⟨?_, fun i hi => ?_⟩
          · by_cases hjk : j = k
            · subst hjk; exact HE.out
            · exact (HI.out j (by omega)).1
          · rw [← hcur2]
            by_cases hjk : j = k
            · subst hjk
              have : i = 0 ∨ i = 1 ∨ i = 2 := by omega
              rcases this with rfl | rfl | rfl
              · simp [Array.getElem?_setIfInBounds, Ed.vals, hcs]; omega
              · simp [Array.getElem?_setIfInBounds, Ed.vals, hcs]; omega
              · simp [Array.getElem?_setIfInBounds, Ed.vals, hcs]; omega
            · rw [Array.getElem?_setIfInBounds_ne (by omega), Array.getElem?_setIfInBounds_ne (by omega), Array.getElem?_setIfInBounds_ne (by omega)]
              exact (HI.out j (by omega)).2 i hi
        have HM2 := Lib.hid (((HM4.out.set (k * 3) (.int .i64 ((ds k).f : Int))).set (k * 3 + 1) (.int .i64 ((ds k).o : Int))).set (k * 3 + 2) (.string (ds k).t))
        rw [hcur2] at HM2
        have HR2 := Lib.hid (((H5.out.setCell (p := ⟨B, k * 3, none⟩) (Nat.le_refl _) (.int .i64 ((ds k).f : Int))).setCell (p := ⟨B, k * 3 + 1, none⟩) (Nat.le_refl _) (.int .i64 ((ds k).o : Int))).setCell (p := ⟨B, k * 3 + 2, none⟩) (Nat.le_refl _) (.string (ds k).t))
        clear he hcur2
        go_wp2
        go_roundw
        case rel => exact ⟨k + 1, cur2, by omega, by go_num, hcs2, HI2, HM2, HR2⟩
        case measure => simp [intOf]; omega
      · have hq : (ers k != 0) = true := by simp [he]
        have HE := Lib.hid he
        clear he
        go_wp2
        go_ret2
        exact ⟨by rw [HB.out]; exact H5.out, .inl ⟨ers k, ⟨k, hlt, rfl, HE.out, fun j hj => (HI.out j hj).1⟩, rfl⟩⟩
    · obtain rfl : n = k := by omega
      have HE : Hid (ECells wr.heap.size wr (some ⟨B, 0, none⟩) n ds) := by
        refine .inr ⟨B, rfl, HM.out.lt, fun j hj i hi => ?_⟩
        rw [HM.out.cell]
        exact (HI.out j hj).2 i hi
      go_wp2
      go_ret2
      exact ⟨by rw [HB.out]; exact HR.out, .inr ⟨fun j hj => (HI.out j hj).1, some ⟨B, 0, none⟩, n, rfl, Nat.le_refl _, by omega, HE.out, fun b off hb => by cases hb; rw [HB.out]; exact Nat.le_refl _⟩⟩

theorem conv_eds (s : ByteArray) (Bs : Nat) (a : Option Addr) (n cap : Nat) (es : Nat → PE) (ds : Nat → Ed) (ers : Nat → Int) (w : World) (hs : s.size ≤ 100000) (hn : n ≤ 64) (hcap : n ≤ cap) (hfit : ∀ k, k < n → (es k).fit) (hc : PCells w.heap.size w a n es) (hbs : Boxed w Bs 9 (.string s)) (h : ∀ k, k < n → EdS (sb s) (es k) (ds k) (ers k)) :
    Calls Try.prog 60 #[.slice a n cap, .func (.func 61) #[] #[.pointer (some ⟨Bs, 0, none⟩)]] w (EdsPost n ds ers w) :=
  (conv_edsF s Bs a n cap es ds ers w hs hn hcap hfit hc hbs h).mono fun _ _ h => h.eds

end Go.Proofs.Ytkehgoailhpenaa

/- The contracts of Bytes, the program's and the reference's. Conditions: texts of at most 100000 bytes, lists of at most 1000 edits. -/
namespace Go.Proofs.Ytkehgoailhpenaa
open Go.RowKit Go.Shelf
set_option linter.unusedVariables false

theorem PCells.below {B : Nat} {w w' : World} {a : Option Addr} {n : Nat} {es : Nat → PE} (h : PCells B w a n es) (hb : Below B w w') : PCells B w' a n es := by
  rcases h with h | ⟨b, off, ha, hlt, hc⟩
  · exact .inl h
  · exact .inr ⟨b, off, ha, hlt, fun k hk i hi => (hb.cell (p := ⟨b, off + k * 5 + i, none⟩) hlt).trans (hc k hk i hi)⟩
theorem PCells.mono {B B' : Nat} {w : World} {a : Option Addr} {n : Nat} {es : Nat → PE} (h : PCells B w a n es) (hb : B ≤ B') : PCells B' w a n es := by
  rcases h with h | ⟨b, off, ha, hlt, hc⟩
  · exact .inl h
  · exact .inr ⟨b, off, ha, by omega, hc⟩
theorem ECells.below {B : Nat} {w w' : World} {a : Option Addr} {n : Nat} {ds : Nat → Ed} (h : ECells B w a n ds) (hb : Below B w w') : ECells B w' a n ds := by
  rcases h with h | ⟨g, ha, hlt, hc⟩
  · exact .inl h
  · exact .inr ⟨g, ha, hlt, fun k hk i hi => (hb.cell (p := ⟨g, k * 3 + i, none⟩) hlt).trans (hc k hk i hi)⟩
theorem ECells.mono {B B' : Nat} {w : World} {a : Option Addr} {n : Nat} {ds : Nat → Ed} (h : ECells B w a n ds) (hb : B ≤ B') : ECells B' w a n ds := by
  rcases h with h | ⟨g, ha, hlt, hc⟩
  · exact .inl h
  · exact .inr ⟨g, ha, by omega, hc⟩
/-- What a call of Bytes returns. -/
def BytesPost (n : Nat) (ds : Nat → Ed) (ers : Nat → Int) (w : World) (e : Ending) (w' : World) : Prop :=
  (64 < n ∧ Below w.heap.size w w' ∧ e = .returned (.tuple #[.slice none 0 0, .int .i64 4])) ∨ (n ≤ 64 ∧ EdsPost n ds ers w e w')

set_option maxRecDepth 100000 in
set_option maxHeartbeats 1000000 in
theorem pbytes_any (s : ByteArray) (a : Option Addr) (n cap : Nat) (es : Nat → PE) (ds : Nat → Ed) (ers : Nat → Int) (w : World) (hs : s.size ≤ 100000) (hn : n ≤ 1000) (hcap : n ≤ cap) (hfit : ∀ k, k < n → (es k).fit) (hc : PCells w.heap.size w a n es) (h : ∀ k, k < n → EdS (sb s) (es k) (ds k) (ers k)) :
    Calls Try.prog 30 #[.string s, .slice a n cap] w (BytesPost n ds ers w) := by
  obtain ⟨W1, hW1⟩ : ∃ W, w.alloc (.cells #[.string s] 9) = W := ⟨_, rfl⟩
  have hb1 : Below w.heap.size w W1 := by rw [← hW1]; exact (Below.refl _ _).alloc (Nat.le_refl _) _
  have hx1 : Boxed W1 w.heap.size 9 (.string s) := by rw [← hW1]; exact Boxed.new _ _ _
  have HB1 := Lib.hid hb1; have HW1 := Lib.hid hW1
  by_cases hlim : 64 < n
  · have hl2 : (64 : Int) < (n : Int) := by omega
    clear hW1 hx1 hb1 h hc hfit
    go_enter Try.func30, Try.ntmps30
    go_wp2
    go_ret2
    exact .inl ⟨hlim, by rw [show w.alloc (.cells #[.string s] 9) = W1 from HW1.out]; exact HB1.out, rfl⟩
  · have hl2 : ¬ (64 : Int) < (n : Int) := by omega
    have C := Lib.hid (conv_eds s w.heap.size a n cap es ds ers W1 hs (by omega) hcap hfit ((hc.below hb1).mono hb1.size) hx1 h)
    clear hW1 hx1 hb1 h hc hfit
    go_enter Try.func30, Try.ntmps30
    go_wp2_with fail
    rw [show w.alloc (.cells #[.string s] 9) = W1 from HW1.out]
    refine C.out.mono ?_
    rintro e w2 ⟨hb, hway⟩
    have H2 := Lib.hid (HB1.out.trans (hb.mono HB1.out.size))
    clear hb
    rcases hway with ⟨er, hf, rfl⟩ | ⟨hz, a2, c2, rfl, hc2⟩
    · have HF := Lib.hid hf
      clear hf
      go_wp2
      go_ret2
      exact .inr ⟨by omega, H2.out, .inl ⟨er, HF.out, rfl⟩⟩
    · have HF := Lib.hid (And.intro hz hc2)
      clear hz hc2
      go_wp2
      go_ret2
      exact .inr ⟨by omega, H2.out, .inr ⟨HF.out.1, a2, c2, rfl, HF.out.2⟩⟩

theorem roff_at {s : ByteArray} {l u : Int} {o : Nat} {er : Int} (w : World) (hs : s.size ≤ 100000) (h1 : I64n l) (h : OffSpec (sb s) l u o er) :
    Calls Try.prog 87 #[.string s, .agg #[.int .i64 l, .int .i64 u]] w fun e w' => e = .returned (.tuple #[.int .i64 (o : Int), .int .i64 er]) ∧ Below w.heap.size w w' := by
  refine (roff_any s l u w hs h1.2).mono ?_
  rintro e w' ⟨o', er', rfl, hsp, hb⟩
  obtain ⟨rfl, rfl⟩ := hsp.det h
  exact ⟨rfl, hb⟩
/-- The values of the first k edits. -/
def dvals (ds : Nat → Ed) (k : Nat) : List Value := (List.range k).flatMap fun j => (ds j).vals
theorem dvals_succ (ds : Nat → Ed) (k : Nat) : dvals ds (k + 1) = dvals ds k ++ (ds k).vals := by unfold dvals; rw [List.range_succ]; simp
theorem dvals_len (ds : Nat → Ed) (k : Nat) : (dvals ds k).length = k * 3 := by
  induction k with
  | zero => rfl
  | succ k ih => rw [dvals_succ, List.length_append, ih]; simp [Ed.vals]; omega
theorem dvals_get (ds : Nat → Ed) (n k i : Nat) (hk : k < n) (hi : i < 3) : (dvals ds n)[k * 3 + i]? = (ds k).vals[i]? := by
  induction n with
  | zero => omega
  | succ n ih =>
    rw [dvals_succ]
    by_cases h : k = n
    · subst h
      rw [List.getElem?_append_right (by rw [dvals_len]; omega), dvals_len]
      congr 1; omega
    · rw [List.getElem?_append_left (by rw [dvals_len]; omega)]
      exact ih (by omega)
theorem cells_new (w : World) (xs : List Value) (t : TypeId) : ∀ j u, xs[j]? = some u → (w.alloc (.cells xs.toArray t)).cell? ((⟨w.heap.size, 0, none⟩ : Addr).add j) = some u := by
  intro j u h
  have := (Blk.new w t xs.toArray).cell j
  rw [List.getElem?_toArray, h] at this
  rw [← this]
  congr 1
  by_cases h0 : j = 0 <;> simp [Addr.add, h0]

set_option maxRecDepth 100000 in
set_option maxHeartbeats 4000000 in
theorem rbytes_any (s : ByteArray) (a : Option Addr) (n cap : Nat) (es : Nat → PE) (ds : Nat → Ed) (ers : Nat → Int) (w : World) (hs : s.size ≤ 100000) (hn : n ≤ 1000) (hcap : n ≤ cap) (hfit : ∀ k, k < n → (es k).fit) (hc : PCells w.heap.size w a n es) (h : ∀ k, k < n → EdS (sb s) (es k) (ds k) (ers k)) :
    Calls Try.prog 67 #[.string s, .slice a n cap] w (BytesPost n ds ers w) := by
  obtain ⟨i3, hi3, hy0, hy1, hy2⟩ := info_parts infoE
  by_cases hlim : 64 < n
  · have hl2 : (64 : Int) < (n : Int) := by omega
    clear h hc hfit
    go_enter Try.func67, Try.ntmps67
    go_wp2
    go_ret2
    exact .inl ⟨hlim, Below.refl _ _, rfl⟩
  · have hl2 : ¬ (64 : Int) < (n : Int) := by omega
    obtain ⟨B, hB⟩ : ∃ B, w.heap.size = B := ⟨_, rfl⟩
    rw [hB] at hc
    have hcore : ∃ b off, (n = 0 ∨ (a = some ⟨b, off, none⟩ ∧ b < B)) ∧ ∀ k, k < n → ∀ W, Below B w W → W.cell? ⟨b, off + k * 5, none⟩ = some (.int .i64 (es k).l1) ∧ W.cell? ⟨b, off + k * 5 + 1, none⟩ = some (.int .i64 (es k).u1) ∧ W.cell? ⟨b, off + k * 5 + 2, none⟩ = some (.int .i64 (es k).l2) ∧ W.cell? ⟨b, off + k * 5 + 2 + 1, none⟩ = some (.int .i64 (es k).u2) ∧ W.cell? ⟨b, off + k * 5 + 4, none⟩ = some (.string (es k).t) := by
      rcases hc with h0 | ⟨b, off, ha, hb, hcc⟩
      · exact ⟨0, 0, .inl h0, fun k hk => by omega⟩
      · refine ⟨b, off, .inr ⟨ha, hb⟩, fun k hk W hW => ⟨?_, ?_, ?_, ?_, ?_⟩⟩
        · exact (hW.cell (p := ⟨b, off + k * 5, none⟩) hb).trans (hcc k hk 0 (by omega))
        · exact (hW.cell (p := ⟨b, off + k * 5 + 1, none⟩) hb).trans (hcc k hk 1 (by omega))
        · exact (hW.cell (p := ⟨b, off + k * 5 + 2, none⟩) hb).trans (hcc k hk 2 (by omega))
        · exact (hW.cell (p := ⟨b, off + k * 5 + 2 + 1, none⟩) hb).trans (hcc k hk 3 (by omega))
        · exact (hW.cell (p := ⟨b, off + k * 5 + 4, none⟩) hb).trans (hcc k hk 4 (by omega))
    obtain ⟨b, off, hab, hcell⟩ := hcore
    have HAB := Lib.hid hab; have HC := Lib.hid hcell; have HB := Lib.hid hB; have HS := Lib.hid h; have HF := Lib.hid hfit
    have H0 : Hid (w.ownsRow B 82 3 (.slice none 0 0) 0 (dvals ds 0)) := World.ownsRow_nil _ _ _ _
    clear hc hab hcell hB h hfit
    go_enter Try.func67, Try.ntmps67
    go_wp2_with fail
    go_loopw [6, 7] (fun v q wr => ∃ (k : Nat) (ov : Value), k ≤ n ∧ q = .int .i64 (k : Int) ∧ v = ov ∧ Hid (∀ j, j < k → ers j = 0) ∧ Hid (wr.ownsRow B 82 3 ov k (dvals ds k)) ∧ Hid (Below B w wr)) (fun _ q _ => n - (intOf q).toNat)
    case atStart => exact ⟨0, _, by omega, rfl, rfl, Lib.hid (fun j h => by omega), H0, Below.refl _ _⟩
    case round =>
      obtain ⟨k, ov, hk, rfl, rfl, HI, HO, HR⟩ := hrel
      by_cases hlt : k < n
      · obtain ⟨ha, hbB⟩ := HAB.out.resolve_left (by omega)
        subst ha
        obtain ⟨c0, c1, _, _, _⟩ := HC.out k hlt wr HR.out
        have hkk : (k : Int) < (n : Int) := by omega
        have hBr : B ≤ wr.heap.size := by have := HR.out.size; have := HB.out; omega
        obtain ⟨o1, e1, o2, e2, h1, h2, hway⟩ := HS.out k hlt
        obtain ⟨fit1, fit2, fit3, fit4⟩ := HF.out k hlt
        have ho1 := off_le h1
        have ho2 := off_le h2
        rw [sb_len] at ho1 ho2
        have C1 := Lib.hid (fun W => roff_at W hs fit1 h1)
        have C2 := Lib.hid (fun W => roff_at W hs fit3 h2)
        have HW := Lib.hid hway
        clear h1 h2 hway fit1 fit2 fit3 fit4
        go_wp2_with fail
        refine (C1.out _).mono ?_
        rintro e w4 ⟨rfl, b4⟩
        have HB4 := Lib.hid b4
        have H4 := Lib.hid (HR.out.trans (b4.mono hBr))
        obtain ⟨_, _, c2, c3, _⟩ := HC.out k hlt w4 H4.out
        have hB4 : B ≤ w4.heap.size := by have := H4.out.size; have := HB.out; omega
        clear b4 c0 c1
        by_cases he1 : e1 = 0
        · have hq1 : (e1 != 0) = false := by simp [he1]
          have HE1 := Lib.hid he1
          clear he1
          go_wp2_with fail
          refine (C2.out _).mono ?_
          rintro e w5 ⟨rfl, b5⟩
          have HB5 := Lib.hid (HB4.out.trans (b5.mono HB4.out.size))
          have H5 := Lib.hid (H4.out.trans (b5.mono hB4))
          obtain ⟨_, _, _, _, c4⟩ := HC.out k hlt w5 H5.out
          have hB5 : B ≤ w5.heap.size := by have := H5.out.size; have := HB.out; omega
          clear b5 c2 c3
          by_cases he2 : e2 = 0
          · have hq2 : (e2 != 0) = false := by simp [he2]
            have HE2 := Lib.hid he2
            clear he2
            by_cases hlo : o2 < o1
            · have hlo2 : (o2 : Int) < (o1 : Int) := by omega
              have her : ers k = 1 := by
                rcases HW.out with ⟨x, _⟩ | ⟨_, x, _⟩ | ⟨_, _, _, x, _⟩ | ⟨_, _, x, _⟩
                · exact absurd HE1.out x
                · exact absurd HE2.out x
                · exact x
                · omega
              have HER := Lib.hid her
              clear her
              go_wp2
              go_ret2
              exact .inr ⟨by omega, by rw [HB.out]; exact H5.out, .inl ⟨1, ⟨k, hlt, HER.out, by decide, HI.out⟩, rfl⟩⟩
            · have hlo2 : ¬ (o2 : Int) < (o1 : Int) := by omega
              have hres : ers k = 0 ∧ ds k = ⟨o1, o2, (es k).t⟩ := by
                rcases HW.out with ⟨x, _⟩ | ⟨_, x, _⟩ | ⟨_, _, x, _⟩ | ⟨_, _, _, x, y⟩
                · exact absurd HE1.out x
                · exact absurd HE2.out x
                · omega
                · exact ⟨x, y⟩
              have HI2 : Hid (∀ j, j < k + 1 → ers j = 0) := by
                intro j hj
                by_cases hjk : j = k
                · subst hjk; exact hres.1
                · exact HI.out j (by omega)
              have hdv : dvals ds (k + 1) = dvals ds k ++ [.int .i64 (o1 : Int), .int .i64 (o2 : Int), .string (es k).t] := by rw [dvals_succ, hres.2]; rfl
              have HDV := Lib.hid hdv
              have HO5 := Lib.hid (own_same HO.out (fun g hg => HB5.out.block g (HO.out.lt g hg).2))
              clear hres hdv
              go_wp2_with (at_builtin; refine wpList_append_own _ rfl _ _ 45 rfl B 82 i3 (.agg #[.int .i64 0, .int .i64 0, .string ⟨#[]⟩]) 3 32 Try.underlying45 hi3 hy0 hy1 hy2 rfl (by decide) u6 k (dvals ds k) rfl (HO5.out.alloc _) ⟨w5.heap.size, 0, none⟩ 1 1 [.int .i64 (o1 : Int), .int .i64 (o2 : Int), .string (es k).t] rfl rfl (cells_new _ [.int .i64 (o1 : Int), .int .i64 (o2 : Int), .string (es k).t] _) (fun x hx => by simp at hx; rcases hx with rfl | rfl | rfl <;> rfl) (by unfold maxLen; omega) (by omega) (by simp; omega) ?_; intro v' w6 hown6 hgrow6 _)
              have HO6 : Hid (w6.ownsRow B 82 3 v' (k + 1) (dvals ds (k + 1))) := by rw [HDV.out]; exact hown6
              have H6 : Hid (Below B w w6) := H5.out.trans (((Below.refl _ _).alloc hB5 _).grown hgrow6 (by simp; omega) (fun g eg => (HO5.out.lt g eg).1))
              clear hown6 hgrow6
              go_wp2
              go_roundw
              case rel => exact ⟨k + 1, _, by omega, by go_num, rfl, HI2, HO6, H6⟩
              case measure => simp [intOf]; omega
          · have hq2 : (e2 != 0) = true := by simp [he2]
            have her : ers k = e2 := by
              rcases HW.out with ⟨x, _⟩ | ⟨_, _, x, _⟩ | ⟨_, x, _⟩ | ⟨_, x, _⟩
              · exact absurd HE1.out x
              · exact x
              all_goals exact absurd x he2
            have HER := Lib.hid (And.intro her he2)
            clear her he2
            go_wp2
            go_ret2
            exact .inr ⟨by omega, by rw [HB.out]; exact H5.out, .inl ⟨e2, ⟨k, hlt, HER.out.1, HER.out.2, HI.out⟩, rfl⟩⟩
        · have hq1 : (e1 != 0) = true := by simp [he1]
          have her : ers k = e1 := by
            rcases HW.out with ⟨_, x, _⟩ | ⟨x, _⟩ | ⟨x, _⟩ | ⟨x, _⟩
            · exact x
            all_goals exact absurd x he1
          have HER := Lib.hid (And.intro her he1)
          clear her he1
          go_wp2
          go_ret2
          exact .inr ⟨by omega, by rw [HB.out]; exact H4.out, .inl ⟨e1, ⟨k, hlt, HER.out.1, HER.out.2, HI.out⟩, rfl⟩⟩
      · obtain rfl : n = k := by omega
        have hown := HO.out
        obtain ⟨A8, k8, hv8⟩ := own_slice hown
        subst hv8
        have hE : n ≤ k8 ∧ k8 ≤ 9223372036854775807 ∧ ECells wr.heap.size wr A8 n ds := by
          rcases hown.2 with ⟨hv, h0⟩ | ⟨g, cp, cur, hv, _, hg, h1, h2, _, _⟩
          · simp only [Value.slice.injEq] at hv
            obtain ⟨rfl, _, rfl⟩ := hv
            exact ⟨by omega, by omega, .inl h0⟩
          · simp only [Value.slice.injEq, true_and] at hv
            obtain ⟨rfl, rfl⟩ := hv
            refine ⟨h1, by unfold maxLen at h2; omega, .inr ⟨g, rfl, (Array.getElem?_eq_some_iff.1 hg).1, fun j hj i hi => ?_⟩⟩
            rw [hown.cellAt (j * 3 + i) (by omega)]
            exact dvals_get ds n j i hj hi
        have HE := Lib.hid hE
        clear hown hE
        go_wp2
        go_ret2
        exact .inr ⟨by omega, by rw [HB.out]; exact HR.out, .inr ⟨HI.out, A8, k8, rfl, HE.out⟩⟩

end Go.Proofs.Ytkehgoailhpenaa

/- The contract of SameEdits at two lists of the same edits. Conditions: lists of at most 1000 edits. -/
namespace Go.Proofs.Ytkehgoailhpenaa
open Go.RowKit Go.Shelf
set_option linter.unusedVariables false


end Go.Proofs.Ytkehgoailhpenaa

/- Slices of edits that come in, and what the two calls of Bytes have in common. It has no conditions. -/
namespace Go.Proofs.Ytkehgoailhpenaa
open Go.RowKit Go.Shelf Go.ChangeShapes
set_option linter.unusedVariables false

theorem i64n_of_wf {x : Int} (h : (Lit.int .i64 x).wf = true) : I64n x := by
  simp only [Lit.wf, IntKind.min, IntKind.max, IntKind.signed, IntKind.bits, Bool.and_eq_true] at h
  simp at h; exact ⟨by omega, by omega⟩
theorem open_pos {H : Type} {enc : TypeId × Value → H} {w : World} {base : Nat} {spare : Nat → Bool} {held : Bool} {fuel : Nat} {v0 v1 : Value} {x : DataW H × List MemPlace} (h : DataW.trod enc Try.prog w base spare held fuel 57 [v0, v1] = some x) :
    ∃ l u, v0 = .int .i64 l ∧ v1 = .int .i64 u ∧ I64n l ∧ I64n u := by
  obtain ⟨y0, y1, m, _, _, hy0, hy1⟩ := trod_struct2 Try.underlying57 h
  have c1 : Try.prog.cellsOf 3 = 1 := by kernel_rfl
  simp only [c1, List.drop_zero, List.take_succ_cons, List.take_zero, List.drop_succ_cons] at hy0 hy1
  obtain ⟨l, e0, _, w0⟩ := DataW.trod_int Try.underlying3 hy0
  obtain ⟨u, e1, _, w1⟩ := DataW.trod_int Try.underlying3 hy1
  simp only [List.cons.injEq, and_true] at e0 e1
  exact ⟨l, u, e0, e1, i64n_of_wf w0, i64n_of_wf w1⟩
set_option maxRecDepth 100000 in
theorem open_ed {H : Type} {enc : TypeId × Value → H} {w : World} {base : Nat} {spare : Nat → Bool} {held : Bool} {fuel : Nat} {cs : List Value} {x : DataW H × List MemPlace} (h : DataW.trod enc Try.prog w base spare held fuel 59 cs = some x) :
    ∃ p : PE, cs = p.vals ∧ p.fit := by
  obtain ⟨xs, n, _, _, hlen, hxl, hf⟩ := DataW.trod_struct Try.underlying59 h
  have c5 : Try.prog.cellsOf 59 = 5 := by kernel_rfl
  have c2 : Try.prog.cellsOf 57 = 2 := by kernel_rfl
  have c1 : Try.prog.cellsOf 9 = 1 := by kernel_rfl
  rw [c5] at hlen
  match cs, hlen with
  | [v0, v1, v2, v3, v4], _ =>
    match xs, hxl with
    | [z0, z1, z2], _ =>
      have g0 := hf 0 _ rfl
      have g1 := hf 1 _ rfl
      have g2 := hf 2 _ rfl
      simp [c2, c1] at g0 g1 g2
      obtain ⟨l1, u1, rfl, rfl, a1, a2⟩ := open_pos g0
      obtain ⟨l2, u2, rfl, rfl, a3, a4⟩ := open_pos g1
      obtain ⟨t, e, _, _⟩ := DataW.trod_string Try.underlying9 g2
      simp only [List.cons.injEq, and_true] at e
      subst e
      exact ⟨⟨l1, u1, l2, u2, t⟩, rfl, a1, a2, a3, a4⟩
theorem add_add' (b off x y : Nat) : ((⟨b, off, none⟩ : Addr).add x).add y = ⟨b, off + x + y, none⟩ := by
  by_cases hx : x = 0 <;> by_cases hy : y = 0 <;> simp [Addr.add, hx, hy]
/-- A slice of edits that came in. -/
theorem open_eds {H : Type} {enc : TypeId × Value → H} {W : World} {fuel : Nat} {a : Option Addr} {len cap : Nat} {x : DataW H × List MemPlace} (h : DataW.trod enc Try.prog W 0 (fun _ => true) true fuel 32 [.slice a len cap] = some x) :
    len ≤ cap ∧ cap ≤ 9223372036854775807 ∧ (a = none → cap = 0) ∧ ∃ es : Nat → PE, PCells W.heap.size W a len es ∧ ∀ k, k < len → (es k).fit := by
  have c5 : Try.prog.cellsOf 59 = 5 := by kernel_rfl
  rcases Deep.open_slice Try.underlying32 h with ⟨hcs, _⟩ | ⟨ad, l, c, m, n, D, Pl, hcs, _, hl, hm, hmm, _, hx⟩
  · simp only [List.cons.injEq, Value.slice.injEq, and_true] at hcs
    obtain ⟨rfl, rfl, rfl⟩ := hcs
    exact ⟨Nat.le_refl _, by omega, fun _ => rfl, fun _ => ⟨0, 0, 0, 0, ⟨#[]⟩⟩, .inl rfl, fun k hk => by omega⟩
  · simp only [List.cons.injEq, Value.slice.injEq, and_true] at hcs
    obtain ⟨rfl, rfl, rfl⟩ := hcs
    have hlm : len ≤ m := by rw [hmm]; simp; exact hl
    rw [c5] at hx
    have each : ∀ k, k < len → ∃ p : PE, p.fit ∧ ∀ i, i < 5 → W.cell? ((ad.add (k * 5)).add i) = p.vals[i]? := by
      intro k hk
      obtain ⟨cs', h1, h2⟩ := hx k (by omega)
      obtain ⟨_, _, hcell⟩ := World.cells?_some h1
      obtain ⟨p, rfl, hp⟩ := open_ed h2
      exact ⟨p, hp, hcell⟩
    refine ⟨hl, by unfold maxLen at hm; omega, (fun h => by cases h), fun k => if hk : k < len then (each k hk).choose else ⟨0, 0, 0, 0, ⟨#[]⟩⟩, ?_, fun k hk => by simp only [dif_pos hk]; exact (each k hk).choose_spec.1⟩
    by_cases h0 : len = 0
    · exact .inl h0
    · obtain ⟨b, off, spot⟩ := ad
      have hc0 := (each 0 (by omega)).choose_spec.2 0 (by omega)
      have hspot : spot = none := by simpa [Addr.add] using World.cell?_spot hc0
      subst hspot
      have hlt : b < W.heap.size := by
        have := World.block_lt_of_cell? W _ hc0
        simpa [Addr.add] using this
      refine .inr ⟨b, off, rfl, hlt, fun k hk i hi => ?_⟩
      have h1 := (each k hk).choose_spec.2 i hi
      simp only [dif_pos hk]
      rw [add_add'] at h1
      exact h1

/-- What the frame of a law tells of a slice of edits that came in. -/
def IsEds (w : World) (a : Option Addr) (len cap : Nat) : Prop :=
  len ≤ cap ∧ cap ≤ 9223372036854775807 ∧ (a = none → cap = 0) ∧ ∃ es : Nat → PE, PCells w.heap.size w a len es ∧ ∀ k, k < len → (es k).fit
/-- The values of the first k edits by positions. -/
def pvals (es : Nat → PE) (k : Nat) : List Value := (List.range k).flatMap fun j => (es j).vals
theorem pvals_succ (es : Nat → PE) (k : Nat) : pvals es (k + 1) = pvals es k ++ (es k).vals := by unfold pvals; rw [List.range_succ]; simp
theorem pvals_len (es : Nat → PE) (k : Nat) : (pvals es k).length = k * 5 := by
  induction k with
  | zero => rfl
  | succ k ih => rw [pvals_succ, List.length_append, ih]; simp [PE.vals]; omega
theorem pvals_get (es : Nat → PE) (n k i : Nat) (hk : k < n) (hi : i < 5) : (pvals es n)[k * 5 + i]? = (es k).vals[i]? := by
  induction n with
  | zero => omega
  | succ n ih =>
    rw [pvals_succ]
    by_cases h : k = n
    · subst h
      rw [List.getElem?_append_right (by rw [pvals_len]; omega), pvals_len]
      congr 1; omega
    · rw [List.getElem?_append_left (by rw [pvals_len]; omega)]
      exact ih (by omega)
theorem pvals_congr {es fs : Nat → PE} (n : Nat) (h : ∀ k, k < n → es k = fs k) : pvals es n = pvals fs n := by
  induction n with
  | zero => rfl
  | succ n ih => rw [pvals_succ, pvals_succ, ih (fun k hk => h k (by omega)), h n (by omega)]
/-- The cells of a slice of edits, one after another. -/
theorem pcells_get {B : Nat} {w : World} {b off n : Nat} {es : Nat → PE} (h : ∀ k, k < n → ∀ i, i < 5 → w.cell? ⟨b, off + k * 5 + i, none⟩ = (es k).vals[i]?) (m : Nat) (hm : m ≤ n) :
    ∀ j u, (pvals es m)[j]? = some u → w.cell? ((⟨b, off, none⟩ : Addr).add j) = some u := by
  intro j u hj
  have hlt : j < m * 5 := by have := (List.getElem?_eq_some_iff.1 hj).1; rwa [pvals_len] at this
  have h1 := h (j / 5) (by omega) (j % 5) (by omega)
  have h2 := pvals_get es m (j / 5) (j % 5) (by omega) (by omega)
  rw [show j / 5 * 5 + j % 5 = j by omega, hj] at h2
  rw [← h2] at h1
  rw [← h1]
  congr 1
  by_cases hz : j = 0
  · subst hz; simp [Addr.add]
  · simp [Addr.add, hz]; omega
theorem pcells_of_own {w : World} {B n : Nat} {ov : Value} {es : Nat → PE} (h : w.ownsRow B 59 5 ov n (pvals es n)) :
    ∃ A cap, ov = .slice A n cap ∧ n ≤ cap ∧ cap ≤ 9223372036854775807 ∧ PCells w.heap.size w A n es ∧ ((A = none ∧ n = 0 ∧ cap = 0) ∨ ∃ g, A = some ⟨g, 0, none⟩ ∧ B ≤ g ∧ g < w.heap.size) := by
  rcases h.2 with ⟨rfl, h0⟩ | ⟨g, cp, cur, rfl, hB, hg, h1, h2, _, _⟩
  · subst h0
    exact ⟨none, 0, rfl, Nat.le_refl _, by omega, .inl rfl, .inl ⟨rfl, rfl, rfl⟩⟩
  · have hlt := (Array.getElem?_eq_some_iff.1 hg).1
    refine ⟨some ⟨g, 0, none⟩, cp, rfl, h1, by unfold maxLen at h2; omega, .inr ⟨g, 0, rfl, hlt, fun k hk i hi => ?_⟩, .inr ⟨g, rfl, hB, hlt⟩⟩
    rw [Nat.zero_add, h.cellAt (k * 5 + i) (by omega)]
    exact pvals_get es n k i hk hi

/-- What is determined of a call of Bytes: how many edits, and the error. -/
def Det (n : Nat) (ers : Nat → Int) (m : Nat) (er : Int) : Prop :=
  (64 < n ∧ m = 0 ∧ er = 4) ∨ (n ≤ 64 ∧ FirstE n ers er ∧ m = 0) ∨ (n ≤ 64 ∧ (∀ k, k < n → ers k = 0) ∧ m = n ∧ er = 0)
theorem Det.det {n : Nat} {ers : Nat → Int} {m m' : Nat} {er er' : Int} (h : Det n ers m er) (k : Det n ers m' er') : m = m' ∧ er = er' := by
  rcases h with ⟨h1, rfl, rfl⟩ | ⟨h1, h2, rfl⟩ | ⟨h1, h2, rfl, rfl⟩ <;> rcases k with ⟨k1, rfl, rfl⟩ | ⟨k1, k2, rfl⟩ | ⟨k1, k2, rfl, rfl⟩
  · exact ⟨rfl, rfl⟩
  · omega
  · omega
  · omega
  · exact ⟨rfl, h2.det k2⟩
  · obtain ⟨i, a, b, c, _⟩ := h2
    exact absurd (k2 i a) (by rw [b]; exact c)
  · omega
  · obtain ⟨i, a, b, c, _⟩ := k2
    exact absurd (h2 i a) (by rw [b]; exact c)
  · exact ⟨rfl, rfl⟩
theorem bytes_one {n : Nat} {ds : Nat → Ed} {ers : Nat → Int} {w : World} {e : Ending} {w' : World} (h : BytesPost n ds ers w e w') :
    ∃ m er a cap, e = .returned (.tuple #[.slice a m cap, .int .i64 er]) ∧ m ≤ cap ∧ cap ≤ 9223372036854775807 ∧ ECells w'.heap.size w' a m ds ∧ Det n ers m er ∧ Below w.heap.size w w' := by
  rcases h with ⟨h1, hb, rfl⟩ | ⟨h1, hb, ⟨er, hf, rfl⟩ | ⟨hz, a, cap, rfl, h2, h3, h4⟩⟩
  · exact ⟨0, 4, none, 0, rfl, Nat.le_refl _, by omega, .inl rfl, .inl ⟨h1, rfl, rfl⟩, hb⟩
  · exact ⟨0, er, none, 0, rfl, Nat.le_refl _, by omega, .inl rfl, .inr (.inl ⟨h1, hf, rfl⟩), hb⟩
  · exact ⟨n, 0, a, cap, rfl, h2, h3, h4, .inr (.inr ⟨h1, hz, rfl, rfl⟩), hb⟩

end Go.Proofs.Ytkehgoailhpenaa

/- Strings made of bytes. It has no conditions. -/
namespace Go.Proofs.Ytkehgoailhpenaa
open Go.RowKit Go.Shelf
set_option linter.unusedVariables false

/-- The string of these bytes. -/
def bs (Z : List Int) : ByteArray := ⟨(Z.map (fun c => UInt8.ofNat c.toNat)).toArray⟩
theorem sb_bs {Z : List Int} (h : Byt Z) : sb (bs Z) = Z := by
  unfold sb bs
  simp only [List.map_map]
  conv => rhs; rw [← List.map_id Z]
  apply List.map_congr_left
  intro c hc
  have := h c hc
  simp only [Function.comp, id]
  have h1 : (UInt8.ofNat c.toNat).toNat = c.toNat := by
    rw [UInt8.toNat_ofNat']; omega
  rw [h1]; omega
theorem bs_size (Z : List Int) : (bs Z).size = Z.length := by simp [bs, ByteArray.size]
theorem conv_str (W : World) (a : Option Addr) (cap : Nat) (Z : List Int) (hz : Byt Z) (h : Sli .u8 W a cap Z) :
    (convert 97 9 (.slice a Z.length cap)).run Try.prog W = .ok (.string (bs Z)) W := by
  rcases h.cells with h0 | ⟨b, off, rfl, _, hc⟩
  · subst h0
    rw [List.length_nil, run_convert_bytes_string W _ _ 5 a 0 cap Try.underlying97 Try.underlying5 Try.underlying9]
    cases a with
    | none => simp [Conv.bytesToString]; rfl
    | some x => simp [Conv.bytesToString, loadCells]; rfl
  · have h1 := run_convert_bytes_back (P := Try.prog) W 97 9 5 ⟨b, off, none⟩ cap (Z.map (fun c => UInt8.ofNat c.toNat)) Try.underlying97 Try.underlying5 Try.underlying9 (fun j hj => by
      have hj' : j < Z.length := by simpa using hj
      rw [show (⟨b, off, none⟩ : Addr).add j = ⟨b, off + j, none⟩ by by_cases h0 : j = 0 <;> simp [Addr.add, h0], hc j hj']
      have hb := hz Z[j] (List.getElem_mem hj')
      have h2 : (UInt8.ofNat Z[j].toNat).toNat = Z[j].toNat := by rw [UInt8.toNat_ofNat']; omega
      simp only [List.getElem_map, h2]
      simp [hj']
      omega)
    rw [List.length_map] at h1
    exact h1

end Go.Proofs.Ytkehgoailhpenaa

/- Short takes the first bytes of a string. It has no conditions. -/
namespace Go.Proofs.Ytkehgoailhpenaa
open Go.RowKit Go.Shelf

/-- The first bytes of a string. -/
def shS (s : ByteArray) (M : Nat) : ByteArray := if M < s.size then s.extract 0 M else s
theorem shS_size (s : ByteArray) (M : Nat) : (shS s M).size ≤ M := by
  unfold shS; split
  · rw [ByteArray.size_extract]; omega
  · omega
end Go.Proofs.Ytkehgoailhpenaa

/- Bound maps to a range around 0. Conditions: ranges up to 2^40. -/
namespace Go.Proofs.Ytkehgoailhpenaa
open Go.RowKit Go.Shelf
set_option linter.unusedVariables false

/-- Bound hands back a number from -m to m. -/
def InBound (m : Nat) (w : World) (e : Ending) (w' : World) : Prop := ∃ k : Int, -(m : Int) ≤ k ∧ k ≤ (m : Int) ∧ e = .returned (.int .i64 k) ∧ w = w'
end Go.Proofs.Ytkehgoailhpenaa

/- What fits the kinds of integers. It has no conditions. -/
namespace Go.Proofs.Ytkehgoailhpenaa
open Go.RowKit
theorem wf_u64 {x : Int} (h : (Lit.int .u64 x).wf = true) : 0 ≤ x ∧ x < 18446744073709551616 := by
  simp only [Lit.wf, IntKind.min, IntKind.max, IntKind.signed, IntKind.bits, Bool.and_eq_true] at h
  simp at h; omega
theorem wf_i64 {x : Int} (h : (Lit.int .i64 x).wf = true) : -9223372036854775808 ≤ x ∧ x ≤ 9223372036854775807 := by
  simp only [Lit.wf, IntKind.min, IntKind.max, IntKind.signed, IntKind.bits, Bool.and_eq_true] at h
  simp at h; omega
theorem wf_u8 {x : Int} (h : (Lit.int .u8 x).wf = true) : 0 ≤ x ∧ x ≤ 255 := by
  simp only [Lit.wf, IntKind.min, IntKind.max, IntKind.signed, IntKind.bits, Bool.and_eq_true] at h
  simp at h; omega
end Go.Proofs.Ytkehgoailhpenaa

/- A range over an iterator function of the program's own whose rounds all go on: the contract of such an iterator, with blocks that the rounds may turn and that may be named anew from round to round, and the law of the loop over it. Conditions: no round is left early. -/
namespace Go.Proofs.Ytkehgoailhpenaa
open Go.RowKit Go.Shelf

/-- Of the blocks that lay in A, those at or above n that are not of T lie in C as they lay. -/
structure Oth (T : Nat → Prop) (n : Nat) (A C : World) : Prop where
  os : C.os = A.os
  tape : C.tape = A.tape
  output : C.output = A.output
  size : A.heap.size ≤ C.heap.size
  block : ∀ k, k < A.heap.size → (k < n ∨ T k) → C.heap[k]? = A.heap[k]?
theorem Oth.refl (T : Nat → Prop) (n : Nat) (A : World) : Oth T n A A := ⟨rfl, rfl, rfl, Nat.le_refl _, fun _ _ _ => rfl⟩
theorem Oth.of_below {T : Nat → Prop} {n : Nat} {A C : World} (h : Below A.heap.size A C) : Oth T n A C := ⟨h.os, h.tape, h.output, h.size, fun k hk _ => h.block k hk⟩
theorem Oth.trans {T : Nat → Prop} {n : Nat} {A B C : World} (h : Oth T n A B) (k : Oth T n B C) : Oth T n A C :=
  ⟨k.os.trans h.os, k.tape.trans h.tape, k.output.trans h.output, Nat.le_trans h.size k.size,
    fun i hi ht => (k.block i (by have := h.size; omega) ht).trans (h.block i hi ht)⟩
theorem Oth.mono {T T' : Nat → Prop} {n n' : Nat} {A C : World} (h : Oth T n A C) (hn : n' ≤ n) (hT : ∀ k, T' k → T k) : Oth T' n' A C :=
  ⟨h.os, h.tape, h.output, h.size, fun k hk hh => h.block k hk (hh.elim (fun a => .inl (by omega)) (fun a => .inr (hT k a)))⟩
theorem Oth.putObj {T : Nat → Prop} {n l : Nat} {A : World} (o : Obj) (hn : n ≤ l) (hT : ¬ T l) : Oth T n A (A.putObj l o) :=
  ⟨rfl, rfl, rfl, by simp, fun k _ hh => World.putObj_heap_other (fun e => by subst e; exact hh.elim (fun a => by omega) hT)⟩
theorem Oth.below {T : Nat → Prop} {n B : Nat} {A C : World} (h : Oth T n A C) (hB : B ≤ n) (hA : B ≤ A.heap.size) : Below B A C :=
  ⟨h.os, h.tape, h.output, h.size, fun k hk => h.block k (by omega) (.inl (by omega))⟩

/-- What a round turns: of the blocks that lay, those of T; and what T' names is of T or new. -/
structure Rnd (T T' : Nat → Prop) (A C : World) : Prop where
  size : A.heap.size ≤ C.heap.size
  block : ∀ k, k < A.heap.size → ¬ T k → C.heap[k]? = A.heap[k]?
  grew : ∀ k, T' k → T k ∨ A.heap.size ≤ k
theorem Rnd.refl (T : Nat → Prop) (A : World) : Rnd T T A A := ⟨Nat.le_refl _, fun _ _ _ => rfl, fun _ h => .inl h⟩
theorem Rnd.trans {T T' T'' : Nat → Prop} {A B C : World} (h : Rnd T T' A B) (k : Rnd T' T'' B C) : Rnd T T'' A C :=
  ⟨Nat.le_trans h.size k.size,
    fun i hi ht => (k.block i (by have := h.size; omega) (fun e => (h.grew i e).elim ht (fun e => by omega))).trans (h.block i hi ht),
    fun i hi => (k.grew i hi).elim (fun e => h.grew i e) (fun e => .inr (by have := h.size; omega))⟩
theorem Rnd.of_below {T : Nat → Prop} {A C : World} (h : Below A.heap.size A C) : Rnd T T A C := ⟨h.size, fun k hk _ => h.block k hk, fun _ h => .inl h⟩
theorem Rnd.or {T T' : Nat → Prop} {A C : World} (S : Nat → Prop) (h : Rnd T T' A C) : Rnd (fun k => T k ∨ S k) (fun k => T' k ∨ S k) A C :=
  ⟨h.size, fun k hk hT => h.block k hk (fun e => hT (.inl e)), fun k hk => hk.elim (fun e => (h.grew k e).elim (fun e => .inl (.inl e)) .inr) (fun e => .inl (.inr e))⟩
theorem Rnd.put {T : Nat → Prop} {l : Nat} {A : World} (o : Obj) (h : T l) : Rnd T T A (A.putObj l o) :=
  ⟨by simp, fun k _ hk => World.putObj_heap_other (fun e => hk (e ▸ h)), fun _ h => .inl h⟩

/-- An iterator that calls yield on 'encs 0', .., 'encs (N - 1)', its rounds all going on: it reads the blocks of R behind a round, and writes none that lay when it was called. -/
def Giv (P : Program) (g : Nat) (lb : Array Value) (encs : Nat → Array Value) (N : Nat) (R : Nat → Prop) (w : World) : Prop :=
  ∀ (l : Nat) (J : Nat → (Nat → Prop) → World → Prop) (T₀ : Nat → Prop) (W : World), Below w.heap.size w W → (∀ k, R k → ¬ T₀ k) →
    (∀ k T A, J k T A → ∀ j, T j → j < A.heap.size) →
    (∀ k T A C, J k T A → Oth T W.heap.size A C → J k T C) →
    (∀ k T W1, k < N → W.heap.size ≤ W1.heap.size → J k T W1 → YieldAt Fence.wide 0 P l (encs k) W1 fun e W' => e = .returned (.bool true) ∧ ∃ T', J (k + 1) T' W' ∧ Rnd T T' W1 W') →
    J 0 T₀ W → CallsIn Fence.wide 0 P g (#[.func (.yield l) #[] #[]] ++ lb) W fun e W' => (∃ v, e = .returned v) ∧ ∃ T', J N T' W'

theorem roundIn_wide {P : Program} {n m : Nat} {l : Nat} {f : FuncId} {tmps : Array Value} {a b : Code} {w : World} {R : Ending → World → Prop} (h : RoundIn Fence.wide n P l f tmps a b w R) : RoundIn Fence.wide m P l f tmps a b w R :=
  ⟨h.1, fun c cs _ => h.2 c cs (room_wide _)⟩
theorem callsIn_any {P : Program} {n m : Nat} {f : FuncId} {args : Array Value} {w : World} {R : Ending → World → Prop} (h : CallsIn Fence.wide n P f args w R) : CallsIn Fence.wide m P f args w R :=
  callsIn_wide.2 (callsIn_wide.1 h)
theorem yield_any {P : Program} {n m l : Nat} {vs : Array Value} {w : World} {R : Ending → World → Prop} (h : YieldAt Fence.wide n P l vs w R) : YieldAt Fence.wide m P l vs w R := by
  obtain ⟨fn, tm, asg, bo, hy, hr⟩ := h
  exact ⟨fn, tm, asg, bo, hy, roundIn_wide hr⟩

/-- How the body of a round is left: off its end. -/
def goOn (I : Nat → (Nat → Prop) → World → Prop) (T : Nat → Prop) (k : Nat) (W : World) : Exit → Act → World → Prop
  | .normal, _, W' => ∃ T', I (k + 1) T' W' ∧ Rnd T T' W W'
  | _, _, _ => False

/-- The record of the loop in a state. -/
abbrev rcd (fn : FuncId) (tm : Array Value) (ps : Array Tmp) (assign body : Code) (df : Nat) (st : LoopState) : Loop := { state := st, pending := none, fn, tmps := tm, params := ps, assign, body, defers := df }

/-- One round of the loop whose record is the block l. -/
theorem one_round {P : Program} {l ws df : Nat} {fn : FuncId} {ps : Array Tmp} {assign body : Code} {tm : Array Value} (hfn : Fence.wide.fn fn)
    {vs : Array Value} (hps : vs.size = ps.size) {cs : Array Value} {ty : TypeId} {a₁ : Nat → Act} {I : Nat → (Nat → Prop) → World → Prop}
    (hI : ∀ k T A C, I k T A → Oth T ws A C → I k T C) (hS : ∀ k T A, I k T A → ∀ j, T j → j < A.heap.size) (hw : ws ≤ l)
    {k : Nat} {T : Nat → Prop} {W : World} (hl : W.heap[l]? = some (.loop (rcd fn tm ps assign body df .ready))) (hlt : ¬ T l) (hi : I k T W)
    (hassign : ∀ (K : Act → World → Prop), K (a₁ W.heap.size) (W.alloc (.cells cs ty)) →
      assign.wpIn (Fence.wide.inRound l) 0 P (Exit.then K (fun _ _ _ => False)) { tmps := (ps.zip vs).foldl (fun t (p, v) => t.setIfInBounds p v) tm, defers := [] } W)
    (hbody : ∀ (A : World), l < W.heap.size → Blk A W.heap.size ty cs → ¬ T W.heap.size → (∃ r, A.heap[l]? = some (.loop r)) → I k T A →
      body.wpIn (Fence.wide.inRound l) 0 P (goOn I T k A) (a₁ W.heap.size) A) :
    YieldAt Fence.wide 0 P l vs W fun e W' => e = .returned (.bool true) ∧ ∃ T', (I (k + 1) T' W' ∧ W'.heap[l]? = some (.loop (rcd fn tm ps assign body df .ready)) ∧ ¬ T' l) ∧ Rnd T T' W W' := by
  have hls : l < W.heap.size := (Array.getElem?_eq_some_iff.1 hl).1
  refine ⟨fn, _, assign, body, run_yield (P := P) (args := vs) hl hps, roundIn_wide (n := 0) (roundIn_of_wpIn hfn (hassign _ ⟨_, run_beginRound (P := P) (r := rcd fn tm ps assign body df .ready) ((Below.heap_alloc _ _ _ hls).trans hl) rfl, ?_⟩))⟩
  obtain ⟨A0, hA0⟩ : ∃ A, W.alloc (.cells cs ty) = A := ⟨_, rfl⟩
  have hb0 : Below W.heap.size W A0 := by rw [← hA0]; exact (Below.refl _ _).alloc (Nat.le_refl _) _
  have hs0 : A0.heap.size = W.heap.size + 1 := by rw [← hA0]; simp
  have hk0 : Blk A0 W.heap.size ty cs := by rw [← hA0]; exact Blk.new _ _ _
  have hi0 : I k T A0 := hI _ _ _ _ hi (Oth.of_below hb0)
  rw [hA0]
  obtain ⟨A, hA⟩ : ∃ A, A0.putObj l (.loop (rcd fn tm ps assign body df .busy)) = A := ⟨_, rfl⟩
  rw [show (World.putObj A0 l (Obj.loop _)) = A from hA]
  have hsA : A.heap.size = W.heap.size + 1 := by rw [← hA]; simp [hs0]
  have hlA : A.heap[l]? = some (.loop (rcd fn tm ps assign body df .busy)) := by rw [← hA]; exact World.putObj_heap_same (by omega)
  have hiA : I k T A := by rw [← hA]; exact hI _ _ _ _ hi0 (Oth.putObj _ hw hlt)
  have hkA : Blk A W.heap.size ty cs := hk0.same (by rw [← hA]; exact World.putObj_heap_other (by omega))
  have hnT : ¬ T W.heap.size := fun h => by have := hS _ _ _ hi _ h; omega
  refine wpIn_mono (hbody A hls hkA hnT ⟨_, hlA⟩ hiA) ?_
  rintro e a3 W3 hp
  cases e with
  | normal =>
    obtain ⟨T', hi3, hr3⟩ := hp
    have hl3 := (hr3.block l (by omega) hlt).trans hlA
    have hlt' : ¬ T' l := fun h => (hr3.grew _ h).elim hlt (fun e => by omega)
    have h3s := hr3.size
    refine ⟨_, _, run_endRound none hl3, rfl, T', ⟨hI _ _ _ _ hi3 (Oth.putObj _ hw hlt'), World.putObj_heap_same (by omega), hlt'⟩, ?_⟩
    refine ⟨by simp; omega, fun j hj hT => ?_, fun j hj => (hr3.grew j hj).imp id (fun e => by omega)⟩
    by_cases he : j = l
    · subst he; exact (World.putObj_heap_same (by omega)).trans hl.symm
    · rw [World.putObj_heap_other he, hr3.block j (by omega) hT, ← hA, World.putObj_heap_other he]; exact hb0.block j hj
  | _ => exact hp.elim

/-- The law of the loop, outermost. -/
theorem wpIn_giv {P : Program} {n : Nat} {g : Operand} {ps : Array Tmp} {assign body : Code} {Q : Exit → Act → World → Prop} {a : Act} {w : World}
    {gf : Nat} {lb : Array Value} (hg : a.eval g = .func (.func gf) #[] lb) (eg : ∀ args w, (callFunc gf args).run P w = .ok (.enter gf args) w)
    {encs : Nat → Array Value} {N : Nat} {R : Nat → Prop} (hseq : Giv P gf lb encs N R w) (hps : ∀ k, (encs k).size = ps.size)
    (I : Nat → (Nat → Prop) → World → Prop) (hI : ∀ k T A C, I k T A → Oth T w.heap.size A C → I k T C) (hS : ∀ k T A, I k T A → ∀ j, T j → j < A.heap.size)
    (T₀ : Nat → Prop) (hT : ∀ k, T₀ k → k < w.heap.size ∧ ¬ R k) (h0 : I 0 T₀ w) (a₁ : Nat → Nat → Act) (cs : Nat → Array Value) (ty : TypeId)
    (hassign : ∀ (l k : Nat) (W : World) (K : Act → World → Prop), K (a₁ k W.heap.size) (W.alloc (.cells (cs k) ty)) →
      assign.wpIn (Fence.wide.inRound l) 0 P (Exit.then K (fun _ _ _ => False)) { tmps := (ps.zip (encs k)).foldl (fun t (p, v) => t.setIfInBounds p v) a.tmps, defers := [] } W)
    (hbody : ∀ (l k : Nat) (T : Nat → Prop) (B : Nat) (W : World), k < N → w.heap.size < l → l < B → Blk W B ty (cs k) → ¬ T B → (∃ r, W.heap[l]? = some (.loop r)) → ¬ T l → I k T W →
      body.wpIn (Fence.wide.inRound l) 0 P (goOn I T k W) (a₁ k B) W)
    (hdone : ∀ (T : Nat → Prop) (W : World), w.heap.size + 2 ≤ W.heap.size → I N T W → ¬ T w.heap.size → W.heap[w.heap.size]? = some (.deferred (some [])) →
      Q .normal { a with defers := { target := .collected w.heap.size, args := #[] } :: a.defers } W) :
    (Code.rangeFunc g ps assign body).wpIn Fence.wide n P Q a w := by
  refine wpIn_rangeFunc fun fn hfn => ?_
  let rc : LoopState → Loop := rcd fn a.tmps ps assign body w.heap.size
  let l := w.heap.size + 1
  obtain ⟨W1, hW1⟩ : ∃ W1, (w.alloc (.deferred (some []))).alloc (.loop (rc .ready)) = W1 := ⟨_, rfl⟩
  have hs1 : W1.heap.size = w.heap.size + 2 := by rw [← hW1]; simp
  have hb1 : Below w.heap.size w W1 := by rw [← hW1]; exact ((Below.refl _ w).alloc (Nat.le_refl _) _).alloc (by simp) _
  have hl1 : W1.heap[l]? = some (.loop (rc .ready)) := by
    rw [← hW1]; have := World.alloc_heap_new (w.alloc (.deferred (some []))) (.loop (rc .ready)); rwa [World.size_alloc] at this
  have hd1 : W1.heap[w.heap.size]? = some (.deferred (some [])) := by
    rw [← hW1]; exact (Below.heap_alloc _ _ _ (by simp)).trans (World.alloc_heap_new w _)
  refine ⟨l, [{ target := .collected w.heap.size, args := #[] }], W1, { target := .fn (.func gf) lb, args := #[.func (.yield l) #[] #[]] }, W1, gf,
    #[.func (.yield l) #[] #[]] ++ lb, W1, ?_, ?_, fun _ _ => trivial, ?_, fun h => by simp [Fence.wide] at h, ?_⟩
  · rw [← hW1]; exact run_enterLoop_outer _ _ _ _ _
  · simp only [resolve, hg]
    simp [go_sem]
  · simp [invoke, go_sem, eg]
  · refine callsIn_any ((hseq l (fun k T W => (I k T W ∧ W.heap[l]? = some (.loop (rc .ready)) ∧ ¬ T l) ∧ W.heap[w.heap.size]? = some (.deferred (some [])) ∧ ¬ T w.heap.size ∧ w.heap.size + 2 ≤ W.heap.size)
      T₀ W1 hb1 (fun k hk ht => (hT k ht).2 hk) (fun k T A h => hS k T A h.1.1) ?_ ?_ ⟨⟨hI _ _ _ _ h0 (Oth.of_below hb1), hl1, fun h => by have := (hT _ h).1; omega⟩, hd1, fun h => by have := (hT _ h).1; omega, by omega⟩).mono ?_)
    · rintro k T A C ⟨⟨hi, h2, h2'⟩, h3, h3', h4⟩ hb
      exact ⟨⟨hI _ _ _ _ hi (hb.mono (by omega) (fun _ h => h)), (hb.block _ (by omega) (.inl (by omega))).trans h2, h2'⟩, (hb.block _ (by omega) (.inl (by omega))).trans h3, h3', by have := hb.size; omega⟩
    · rintro k T W hk _ ⟨⟨hi, hl, hlt⟩, hd, hdt, hsz⟩
      have := one_round (P := P) (I := I) (ws := w.heap.size) (a₁ := a₁ k) (cs := cs k) (ty := ty) hfn (hps k) hI hS (by omega) hl hlt hi (fun K hK => hassign l k W K hK)
        (fun A h1 h2 h3 h4 h5 => hbody l k T _ A hk (by omega) h1 h2 h3 h4 hlt h5)
      refine YieldAt.mono this ?_
      rintro e W' ⟨he, T', h5, hr⟩
      have := hr.size
      exact ⟨he, T', ⟨h5, (hr.block _ (by omega) hdt).trans hd, fun h => (hr.grew _ h).elim hdt (fun e => by omega), by omega⟩, hr⟩
    · rintro e W2 ⟨⟨v, rfl⟩, T', ⟨hi, hl, hlt⟩, hd, hdt, hsz⟩
      exact ⟨none, _, run_endLoop hl (by simp [rc]), hdone T' _ (by simpa using hsz) (hI _ _ _ _ hi (Oth.putObj _ (by omega) hlt)) hdt ((World.putObj_heap_other (by omega)).trans hd)⟩

/-- The law of the loop, in a round of another. -/
theorem wpIn_givN {P : Program} {n : Nat} {g : Operand} {ps : Array Tmp} {assign body : Code} {Q : Exit → Act → World → Prop} {a : Act} {w : World}
    {l₀ : Nat} (hl₀ : ∃ r₀, w.heap[l₀]? = some (.loop r₀))
    {gf : Nat} {lb : Array Value} (hg : a.eval g = .func (.func gf) #[] lb) (eg : ∀ args w, (callFunc gf args).run P w = .ok (.enter gf args) w)
    {encs : Nat → Array Value} {N : Nat} {R : Nat → Prop} (hseq : Giv P gf lb encs N R w) (hps : ∀ k, (encs k).size = ps.size)
    (I : Nat → (Nat → Prop) → World → Prop) (hI : ∀ k T A C, I k T A → Oth T w.heap.size A C → I k T C) (hS : ∀ k T A, I k T A → ∀ j, T j → j < A.heap.size)
    (T₀ : Nat → Prop) (hT : ∀ k, T₀ k → k < w.heap.size ∧ ¬ R k) (h0 : I 0 T₀ w) (a₁ : Nat → Nat → Act) (cs : Nat → Array Value) (ty : TypeId)
    (hassign : ∀ (l k : Nat) (W : World) (K : Act → World → Prop), K (a₁ k W.heap.size) (W.alloc (.cells (cs k) ty)) →
      assign.wpIn (Fence.wide.inRound l) 0 P (Exit.then K (fun _ _ _ => False)) { tmps := (ps.zip (encs k)).foldl (fun t (p, v) => t.setIfInBounds p v) a.tmps, defers := [] } W)
    (hbody : ∀ (l k : Nat) (T : Nat → Prop) (B : Nat) (W : World), k < N → w.heap.size ≤ l → l < B → Blk W B ty (cs k) → ¬ T B → (∃ r, W.heap[l]? = some (.loop r)) → ¬ T l → I k T W →
      body.wpIn (Fence.wide.inRound l) 0 P (goOn I T k W) (a₁ k B) W)
    (hdone : ∀ (T : Nat → Prop) (W : World), w.heap.size + 1 ≤ W.heap.size → I N T W → Q .normal a W) :
    (Code.rangeFunc g ps assign body).wpIn (Fence.wide.inRound l₀) n P Q a w := by
  obtain ⟨r₀, hl₀⟩ := hl₀
  refine wpIn_rangeFunc fun fn hfn => ?_
  let rc : LoopState → Loop := rcd fn a.tmps ps assign body r₀.defers
  let l := w.heap.size
  obtain ⟨W1, hW1⟩ : ∃ W1, w.alloc (.loop (rc .ready)) = W1 := ⟨_, rfl⟩
  have hs1 : W1.heap.size = w.heap.size + 1 := by rw [← hW1]; simp
  have hb1 : Below w.heap.size w W1 := by rw [← hW1]; exact (Below.refl _ w).alloc (Nat.le_refl _) _
  have hl1 : W1.heap[l]? = some (.loop (rc .ready)) := by rw [← hW1]; exact World.alloc_heap_new w _
  refine ⟨l, [], W1, { target := .fn (.func gf) lb, args := #[.func (.yield l) #[] #[]] }, W1, gf,
    #[.func (.yield l) #[] #[]] ++ lb, W1, ?_, ?_, fun _ _ => trivial, ?_, fun h => by simp [Fence.wide, Fence.inRound] at h, ?_⟩
  · rw [← hW1]; exact run_enterLoop_inner hl₀ _ _ _ _ _
  · simp only [resolve, hg]
    simp [go_sem]
  · simp [invoke, go_sem, eg]
  · refine CallsIn.inRound l₀ (callsIn_any ((hseq l (fun k T W => (I k T W ∧ W.heap[l]? = some (.loop (rc .ready)) ∧ ¬ T l) ∧ w.heap.size + 1 ≤ W.heap.size)
      T₀ W1 hb1 (fun k hk ht => (hT k ht).2 hk) (fun k T A h => hS k T A h.1.1) ?_ ?_ ⟨⟨hI _ _ _ _ h0 (Oth.of_below hb1), hl1, fun h => by have := (hT _ h).1; omega⟩, by omega⟩).mono ?_))
    · rintro k T A C ⟨⟨hi, h2, h2'⟩, h4⟩ hb
      exact ⟨⟨hI _ _ _ _ hi (hb.mono (by omega) (fun _ h => h)), (hb.block _ (by omega) (.inl (by omega))).trans h2, h2'⟩, by have := hb.size; omega⟩
    · rintro k T W hk _ ⟨⟨hi, hl, hlt⟩, hsz⟩
      have := one_round (P := P) (I := I) (ws := w.heap.size) (a₁ := a₁ k) (cs := cs k) (ty := ty) hfn (hps k) hI hS (by omega) hl hlt hi (fun K hK => hassign l k W K hK)
        (fun A h1 h2 h3 h4 h5 => hbody l k T _ A hk (by omega) h1 h2 h3 h4 hlt h5)
      refine YieldAt.mono this ?_
      rintro e W' ⟨he, T', h5, hr⟩
      have := hr.size
      exact ⟨he, T', ⟨h5, by omega⟩, hr⟩
    · rintro e W2 ⟨⟨v, rfl⟩, T', ⟨hi, hl, hlt⟩, hsz⟩
      exact ⟨none, _, run_endLoop hl (by simp [rc]), hdone T' _ (by simpa using hsz) (hI _ _ _ _ hi (Oth.putObj _ (by omega) hlt))⟩

end Go.Proofs.Ytkehgoailhpenaa

/- A region that draws its order, in a round of a loop over a function, by the laws for regions outside: as long as it defers nothing. It has no conditions. -/
namespace Go.Proofs.Ytkehgoailhpenaa
open Go.RowKit Go.Shelf
set_option linter.unusedVariables false

def noDefer (ops : Array Oper) : Bool := ops.toList.all fun o => match o.op with | .defer _ => false | _ => true
theorem noDefer_spec {ops : Array Oper} (h : noDefer ops = true) {i : Nat} {o : Oper} (ho : ops[i]? = some o) : ∀ c, o.op ≠ .defer c := by
  intro c hc
  have hm : o ∈ ops.toList := by rw [Array.mem_toList_iff]; exact Array.mem_of_getElem? ho
  have := List.all_eq_true.1 h o hm
  simp [hc] at this
theorem wpOpIn_of {l n : Nat} {P : Program} {ops : Array Oper} {Q : Exit → Act → World → Prop} {i : Nat} {K : Act → World → Prop} {a : Act} {w : World} (hd : noDefer ops = true) (hQ : ¬ LetsOut Q)
    (h : wpOp P ops Q i K a w) : wpOpIn (Fence.wide.inRound l) n P ops Q i K a w := by
  unfold wpOp at h
  unfold wpOpIn
  cases ho : ops[i]? with
  | none => rw [ho] at h; exact h
  | some o =>
    rw [ho] at h
    simp only at h ⊢
    split at h
    · rename_i hw
      rw [if_pos hw]
      have h1 : o.wp P a w K Q := h.resolve_right (fun x => hQ x.2)
      refine ⟨fun _ _ => trivial, ?_⟩
      rw [Oper.semAt_eq _ _ _ (noDefer_spec hd ho)]
      unfold Oper.wp at h1
      generalize (execOp a.eval o).run P w = r at h1 ⊢
      cases r with
      | ok nx w1 =>
        cases nx with
        | enter f args => exact ⟨fun x => by simp [Fence.wide, Fence.inRound] at x, CallsIn.inRound l (callsIn_wide.2 h1)⟩
        | row r args =>
          refine ⟨fun x => by simp [Fence.wide, Fence.inRound] at x, ?_⟩
          intro c cs _
          obtain ⟨v, w', r1, s1⟩ := h1 c cs
          exact ⟨v, w', r1, stepsIn_wide.2 s1⟩
        | _ => first | exact h1 | exact h1.elim
      | halt h w1 => cases h <;> first | exact h1 | exact h1.elim
    · rename_i hw
      rw [if_neg hw]
      exact ⟨fun _ _ => trivial, h⟩
theorem wpAnyIn_of {l n : Nat} {P : Program} {md : Region.Mode} {ops : Array Oper} {Q : Exit → Act → World → Prop} (hd : noDefer ops = true) (hQ : ¬ LetsOut Q) :
    ∀ (fuel : Nat) (listed : Array Bool) (a : Act) (w : World), wpAny P md ops Q fuel listed a w → wpAnyIn (Fence.wide.inRound l) n P md ops Q fuel listed a w := by
  intro fuel
  induction fuel with
  | zero => intro listed a w h; exact h
  | succ fuel ih =>
    intro listed a w h
    refine ⟨h.1, fun i hi => ?_⟩
    have h1 := wpOpIn_of (l := l) (n := n) hd hQ (h.2 i hi)
    exact wpOpIn_mono (fun a w k => ih _ a w k) h1
/-- The beginning: S holds in the world behind the draw. -/
theorem region_round {l n id : Nat} {P : Program} {ops : Array Oper} {Q : Exit → Act → World → Prop} {a : Act} {w : World} {S : World → Prop} (hm : P.follows .mixedOrders = true) (hd : noDefer ops = true) (hQ : ¬ LetsOut Q) (hS : S w.drew)
    (h : S w.drew → wpAnyH P .any ops Q S ops.size (Array.replicate ops.size false) a w.drew) : (Code.region id ops true).wpIn (Fence.wide.inRound l) n P Q a w :=
  wpIn_region_any hm (wpAnyIn_of hd hQ _ _ _ _ (wpAny_of_held _ _ _ _ (h hS)))

end Go.Proofs.Ytkehgoailhpenaa
