/- The contract of the reference's Read. Conditions: at most 100000 bytes are left. -/
import Derived.Test.YtfnpnomfdfdonaaQLists
namespace Go.Proofs.Ytfnpnomfdfdonaa
open Go.RowKit Go.Shelf
set_option linter.unusedVariables false

/-- A call hands back a value and leaves the reader in a state; it writes to the reader alone. -/
def QVPost (base p : Nat) (v : V) (st : Rs) (w : World) (e : Ending) (w' : World) : Prop :=
  ∃ ab cb al cl, e = .returned (.agg #[.int .i64 v.kind, .int .u64 v.u, .int .i64 v.n, .slice ab v.b.length cb, .slice al v.l.length cl]) ∧
    SliAt .u8 p w' ab cb v.b ∧ SlT .i64 3 w.heap.size w' al cl v.l ∧ Rq w' base p st ∧ Only (fun j => j = p) w w'
theorem rdInts_len {w : World} {base p : Nat} {st : Rs} (h : Rd w base p st) : (rdInts st).1.length ≤ 100000 := by
  cases hn : rdN st with
  | mk n s =>
    cases s with
    | bad e => rw [rdInts_nbad hn]; simp
    | ok r =>
      have h1 := rdN_ok hn
      have h2 : r.length ≤ 100000 := by
        unfold rdN at hn
        cases hu : rdU st with
        | mk m s =>
          rw [hu] at hn
          cases s with
          | bad e => simp at hn
          | ok q =>
            simp only at hn
            split at hn
            · simp at hn
            · simp only [Prod.mk.injEq, Rs.ok.injEq] at hn
              obtain ⟨_, rfl⟩ := hn
              exact (Rs.left_byt h hu).2
      cases hs : itS rdI (.ok r) n with
      | bad e => rw [rdInts_bad hn hs]; simp
      | ok r' => rw [rdInts_ok hn hs, itL_len]; omega
theorem rdV_len {w : World} {base p k : Nat} {st : Rs} (h : Rd w base p st) (hk : k ≤ 5) : (rdV k st).1.b.length ≤ 100000 ∧ (rdV k st).1.l.length ≤ 100000 := by
  have h1 := (rdRaw_byt h).2
  have h2 := rdInts_len h
  have hways : k = 0 ∨ k = 1 ∨ k = 2 ∨ k = 3 ∨ k = 4 ∨ k = 5 := by omega
  rcases hways with rfl | rfl | rfl | rfl | rfl | rfl <;> simp [rdV, h1, h2]
theorem leftQ_of_row {e : TypeId} {lo hi n cap : Nat} {w : World} {A : Option Addr} {xs : List Int} (h : Row .u8 e lo hi w A n cap xs) : LeftQ w hi A cap xs := by
  have hl := h.len
  rcases h.own.2 with ⟨hv, h0⟩ | ⟨g, cap', cur, hv, hr⟩
  · simp only [Value.slice.injEq] at hv
    obtain ⟨rfl, _, rfl⟩ := hv
    exact .inl ⟨rfl, List.eq_nil_of_length_eq_zero (by omega), rfl⟩
  · simp only [Value.slice.injEq, true_and] at hv
    obtain ⟨rfl, rfl⟩ := hv
    refine .inr ⟨g, 0, rfl, h.lt g rfl, fun j hj => ?_⟩
    rw [Nat.zero_add]
    exact row_cell h.own j (by omega)
theorem LeftQ.mono {w : World} {base base' cap : Nat} {a : Option Addr} {zs : List Int} (h : LeftQ w base a cap zs) (hb : base ≤ base') : LeftQ w base' a cap zs := by
  rcases h with h | ⟨b, off, ha, h1, hc⟩
  · exact .inl h
  · exact .inr ⟨b, off, ha, by omega, hc⟩
/-- A slice of bytes that lies in memory, ready to be read. -/
structure Dat (w : World) (base : Nat) (A : Option Addr) (n cap : Nat) (zs : List Int) : Prop where
  len : zs.length = n
  byt : Byt zs
  le : zs.length ≤ 2000
  lq : LeftQ w base A cap zs
  sl : SliAt .u8 base w A cap zs
theorem Dat.keep {w w' : World} {base n cap : Nat} {A : Option Addr} {zs : List Int} (h : Dat w base A n cap zs) (hb : Below base w w') : Dat w' base A n cap zs :=
  ⟨h.len, h.byt, h.le, h.lq.keep (fun b hb1 => hb.block b hb1), h.sl.below hb⟩
theorem Dat.mono {w : World} {base base' n cap : Nat} {A : Option Addr} {zs : List Int} (h : Dat w base A n cap zs) (hb : base ≤ base') : Dat w base' A n cap zs :=
  ⟨h.len, h.byt, h.le, h.lq.mono hb, h.sl.mono hb⟩
/-- The reference's Reader at its beginning. -/
theorem rq_new {w w1 : World} {D n cap : Nat} {A : Option Addr} {zs : List Int} (h : Dat w D A n cap zs) (hb : Below D w w1) (hD : D ≤ w.heap.size) : Rq (w1.alloc (.cells #[.slice A n cap, .int .i64 0] 47)) D w1.heap.size (.ok zs) := by
  have hb2 := hb.alloc (by have := hb.size; omega) (.cells #[.slice A n cap, .int .i64 0] 47)
  refine ⟨A, cap, zs, 0, ?_, by have := hb.size; omega, h.sl.le, h.sl.mx, h.lq.keep (fun b hb1 => hb2.block b hb1), h.byt, by have := h.le; omega, rfl, rfl⟩
  rw [h.len]
  exact Blk.new _ _ _
theorem sliAt_nil (k : IntKind) (p : Nat) (w : World) : SliAt k p w none 0 [] := ⟨by simp, by omega, fun _ => rfl, .inl rfl⟩
theorem qdec_post {base p R : Nat} {v : V} {st : Rs} {ab : Option Addr} {cb : Nat} {al : Option Addr} {cl : Nat} {w w2 w3 : World} (hR : R = w.heap.size) (hp : p < R) (hr : Rq w2 base p st) (ho : Only (fun j => j = p) w w2)
    (hb : SliAt .u8 p w2 ab cb v.b) (hl : SlT .i64 3 R w2 al cl v.l) (bV : Blk w2 R 28 zeroV) (bV2 : Blk w2 (R + 1) 28 zeroV ∨ True)
    (h3 : ∀ b, b ≠ R → b ≠ R + 1 → w3.heap[b]? = w2.heap[b]?) (ho3 : Only (fun j => j = p) w w3) (ht : ∃ ds, w2.heap[R + 1]? = some (.cells ds 28 (0, 0))) (e : Ending)
    (he : e = .returned (.agg #[.int .i64 v.kind, .int .u64 v.u, .int .i64 v.n, .slice ab v.b.length cb, .slice al v.l.length cl])) : QVPost base p v st w e w3 := by
  subst hR
  obtain ⟨ds, hds⟩ := ht
  have hne : ∀ (g : Nat) (cur : Array Value) (e : TypeId) (f : Nat × Nat), e ≠ 28 → w2.heap[g]? = some (.cells cur e f) → g ≠ w.heap.size ∧ g ≠ w.heap.size + 1 := by
    intro g cur e f he hg
    constructor
    · rintro rfl; unfold Blk at bV; rw [bV] at hg; injection hg with hg; injection hg with _ h2; exact he h2.symm
    · rintro rfl; rw [hds] at hg; injection hg with hg; injection hg with _ h2; exact he h2.symm
  refine ⟨ab, cb, al, cl, he, hb.keep (fun g hg => h3 g (by omega) (by omega)), hl.keep (fun g cur f _ hg => ?_), hr.keep (fun b hb2 => h3 b (by have := hr.lt.1; omega) (by have := hr.lt.1; omega)), ho3⟩
  exact h3 g (hne g cur _ f (by decide) hg).1 (hne g cur _ f (by decide) hg).2

set_option maxRecDepth 100000 in
set_option maxHeartbeats 4000000 in
theorem qread_any (base p k : Nat) (st : Rs) (w : World) (h : Rq w base p st) (hk : k ≤ 5) :
    Calls Try.prog 23 #[.pointer (some ⟨p, 0, none⟩), .int .i64 (k : Int)] w (QVPost base p (rdV k st).1 (rdV k st).2 w) := by
  have hp := h.lt.2
  obtain ⟨W1, hW1⟩ : ∃ W1, (w.alloc (.cells zeroV 28)).alloc (.cells (kindV k) 28) = W1 := ⟨_, rfl⟩
  have HW := Lib.hid hW1
  have hr1 : Rq W1 base p st := by rw [← hW1]; exact (h.below (below_new _ _)).below (below_new _ _)
  have bR : Blk W1 w.heap.size 28 zeroV := by rw [← hW1]; exact (Blk.new _ _ _).alloc _
  have bV : Blk W1 (w.heap.size + 1) 28 (kindV k) := by
    rw [← hW1]; have := Blk.new (w.alloc (.cells zeroV 28)) 28 (kindV k); rwa [World.size_alloc] at this
  have hs1 : W1.heap.size = w.heap.size + 2 := by rw [← hW1]; simp
  have ho1 : Only (fun j => j = p) w W1 := by rw [← hW1]; exact ((Only.refl _ _).alloc _).alloc _
  have H1 := Lib.hid (And.intro hr1 ho1)
  have HB := Lib.hid (And.intro bR bV)
  have HS := Lib.hid hs1
  clear hW1 h hr1 bR bV hs1 ho1
  have hways : k = 0 ∨ k = 1 ∨ k = 2 ∨ k = 3 ∨ k = 4 ∨ k = 5 := by omega
  clear hk
  rcases hways with rfl | rfl | rfl | rfl | rfl | rfl
  · obtain ⟨⟨n, s⟩, hR⟩ : ∃ R, rdU st = R := ⟨_, rfl⟩
    have c0 := quint_any base p st _ H1.out.1
    rw [hR] at c0
    have C0 := Lib.hid c0
    have hd : rdV 0 st = (⟨0, n, 0, [], []⟩, s) := by simp [rdV, hR]
    rw [hd]
    clear hd c0 hR
    go_enter Try.func23, Try.ntmps23
    go_wp2_with fail
    rw [show (w.alloc (.cells zeroV 28)).alloc (.cells #[.int .i64 0, .int .u64 0, .int .i64 0, .slice none 0 0, .slice none 0 0] 28) = W1 from HW.out]
    refine (C0.out).mono ?_
    rintro e w2 ⟨rfl, hr, ho⟩
    obtain ⟨bR, bV⟩ := after_call HB.out.1 HB.out.2 ho hp
    have H2 := Lib.hid (And.intro hr (H1.out.2.trans ho))
    have v0 := bV.cell 0; have v1 := bV.cell 1; have v2 := bV.cell 2; have v3 := bV.cell 3; have v4 := bV.cell 4
    have r0 := bR.cell 0; have r1 := bR.cell 1; have r2 := bR.cell 2; have r3 := bR.cell 3; have r4 := bR.cell 4
    have f0 := bV.frozen 0; have f1 := bV.frozen 1; have f2 := bV.frozen 2; have f3 := bV.frozen 3; have f4 := bV.frozen 4
    have g0 := bR.frozen 0; have g1 := bR.frozen 1; have g2 := bR.frozen 2; have g3 := bR.frozen 3; have g4 := bR.frozen 4
    simp at v0 v1 v2 v3 v4 r0 r1 r2 r3 r4
    have BB := Lib.hid (And.intro bR bV)
    clear bR bV
    clear hr ho
    go_wp2
    have hfar : ∀ b, b ≠ w.heap.size → b ≠ w.heap.size + 1 → (decW0 (w2.setCell ⟨w.heap.size + 1, 1, none⟩ (.int .u64 (n : Int))) w.heap.size (.int .i64 0) (.int .u64 (n : Int)) (.int .i64 0) (.slice none 0 0) (.slice none 0 0)).heap[b]? = w2.heap[b]? := fun b h1 h2 => (decW0_far _ _ _ _ _ _ _ b h1).trans (Below.heap_setCell w2 ⟨w.heap.size + 1, 1, none⟩ _ b h2)
    have hB3 := decW0_blk (w2 := (w2.setCell ⟨w.heap.size + 1, 1, none⟩ (.int .u64 (n : Int)))) (R := w.heap.size) (BB.out.1.same (Below.heap_setCell _ _ _ _ (by show w.heap.size ≠ w.heap.size + 1; omega))) (.int .i64 0) (.int .u64 (n : Int)) (.int .i64 0) (.slice none 0 0) (.slice none 0 0)
    have k0 := hB3.cell 0; have k1 := hB3.cell 1; have k2 := hB3.cell 2; have k3 := hB3.cell 3; have k4 := hB3.cell 4
    simp at k0 k1 k2 k3 k4
    refine bodyPost_ret (v := .agg #[.int .i64 0, .int .u64 (n : Int), .int .i64 0, .slice none 0 0, .slice none 0 0]) (by simp [results, Try.results23, go_sem, k0, k1, k2, k3, k4]) rfl ?_
    exact qdec_post rfl hp H2.out.1 H2.out.2 (sliAt_nil _ _ _) (SlT.nil_ _ _ _ _) BB.out.1 (.inr trivial) hfar (decW0_only (H2.out.2.setCell (p := ⟨w.heap.size + 1, 1, none⟩) (.inl (by show w.heap.size ≤ w.heap.size + 1; omega)) _) (Nat.le_refl _) _ _ _ _ _) ⟨_, BB.out.2⟩ _ rfl
  · obtain ⟨⟨n, s⟩, hR⟩ : ∃ R, rdI st = R := ⟨_, rfl⟩
    have c0 := qint_any base p st _ H1.out.1
    rw [hR] at c0
    have C0 := Lib.hid c0
    have hd : rdV 1 st = (⟨1, 0, n, [], []⟩, s) := by simp [rdV, hR]
    rw [hd]
    clear hd c0 hR
    go_enter Try.func23, Try.ntmps23
    go_wp2_with fail
    rw [show (w.alloc (.cells zeroV 28)).alloc (.cells #[.int .i64 1, .int .u64 0, .int .i64 0, .slice none 0 0, .slice none 0 0] 28) = W1 from HW.out]
    refine (C0.out).mono ?_
    rintro e w2 ⟨rfl, hr, ho⟩
    obtain ⟨bR, bV⟩ := after_call HB.out.1 HB.out.2 ho hp
    have H2 := Lib.hid (And.intro hr (H1.out.2.trans ho))
    have v0 := bV.cell 0; have v1 := bV.cell 1; have v2 := bV.cell 2; have v3 := bV.cell 3; have v4 := bV.cell 4
    have r0 := bR.cell 0; have r1 := bR.cell 1; have r2 := bR.cell 2; have r3 := bR.cell 3; have r4 := bR.cell 4
    have f0 := bV.frozen 0; have f1 := bV.frozen 1; have f2 := bV.frozen 2; have f3 := bV.frozen 3; have f4 := bV.frozen 4
    have g0 := bR.frozen 0; have g1 := bR.frozen 1; have g2 := bR.frozen 2; have g3 := bR.frozen 3; have g4 := bR.frozen 4
    simp at v0 v1 v2 v3 v4 r0 r1 r2 r3 r4
    have BB := Lib.hid (And.intro bR bV)
    clear bR bV
    clear hr ho
    go_wp2
    have hfar : ∀ b, b ≠ w.heap.size → b ≠ w.heap.size + 1 → (decW0 (w2.setCell ⟨w.heap.size + 1, 2, none⟩ (.int .i64 n)) w.heap.size (.int .i64 1) (.int .u64 0) (.int .i64 n) (.slice none 0 0) (.slice none 0 0)).heap[b]? = w2.heap[b]? := fun b h1 h2 => (decW0_far _ _ _ _ _ _ _ b h1).trans (Below.heap_setCell w2 ⟨w.heap.size + 1, 2, none⟩ _ b h2)
    have hB3 := decW0_blk (w2 := (w2.setCell ⟨w.heap.size + 1, 2, none⟩ (.int .i64 n))) (R := w.heap.size) (BB.out.1.same (Below.heap_setCell _ _ _ _ (by show w.heap.size ≠ w.heap.size + 1; omega))) (.int .i64 1) (.int .u64 0) (.int .i64 n) (.slice none 0 0) (.slice none 0 0)
    have k0 := hB3.cell 0; have k1 := hB3.cell 1; have k2 := hB3.cell 2; have k3 := hB3.cell 3; have k4 := hB3.cell 4
    simp at k0 k1 k2 k3 k4
    refine bodyPost_ret (v := .agg #[.int .i64 1, .int .u64 0, .int .i64 n, .slice none 0 0, .slice none 0 0]) (by simp [results, Try.results23, go_sem, k0, k1, k2, k3, k4]) rfl ?_
    exact qdec_post rfl hp H2.out.1 H2.out.2 (sliAt_nil _ _ _) (SlT.nil_ _ _ _ _) BB.out.1 (.inr trivial) hfar (decW0_only (H2.out.2.setCell (p := ⟨w.heap.size + 1, 2, none⟩) (.inl (by show w.heap.size ≤ w.heap.size + 1; omega)) _) (Nat.le_refl _) _ _ _ _ _) ⟨_, BB.out.2⟩ _ rfl
  · obtain ⟨⟨b, s⟩, hR⟩ : ∃ R, rdB st = R := ⟨_, rfl⟩
    have c0 := qbool_any base p st _ H1.out.1
    rw [hR] at c0
    have hd : rdV 2 st = (⟨2, 0, if b then 1 else 0, [], []⟩, s) := by simp [rdV, hR]
    rw [hd]
    have C0 := Lib.hid c0
    clear hd c0 hR
    cases b
    · go_enter Try.func23, Try.ntmps23
      go_wp2_with fail
      rw [show (w.alloc (.cells zeroV 28)).alloc (.cells #[.int .i64 2, .int .u64 0, .int .i64 0, .slice none 0 0, .slice none 0 0] 28) = W1 from HW.out]
      refine C0.out.mono ?_
      rintro e w2 ⟨rfl, hr, ho⟩
      obtain ⟨bR, bV⟩ := after_call HB.out.1 HB.out.2 ho hp
      have H2 := Lib.hid (And.intro hr (H1.out.2.trans ho))
      have v0 := bV.cell 0; have v1 := bV.cell 1; have v2 := bV.cell 2; have v3 := bV.cell 3; have v4 := bV.cell 4
      have r0 := bR.cell 0; have r1 := bR.cell 1; have r2 := bR.cell 2; have r3 := bR.cell 3; have r4 := bR.cell 4
      have f0 := bV.frozen 0; have f1 := bV.frozen 1; have f2 := bV.frozen 2; have f3 := bV.frozen 3; have f4 := bV.frozen 4
      have g0 := bR.frozen 0; have g1 := bR.frozen 1; have g2 := bR.frozen 2; have g3 := bR.frozen 3; have g4 := bR.frozen 4
      simp at v0 v1 v2 v3 v4 r0 r1 r2 r3 r4
      have BB := Lib.hid (And.intro bR bV)
      clear bR bV
      clear hr ho
      go_wp2
      have hfar : ∀ b, b ≠ w.heap.size → b ≠ w.heap.size + 1 → (decW0 w2 w.heap.size (.int .i64 2) (.int .u64 0) (.int .i64 0) (.slice none 0 0) (.slice none 0 0)).heap[b]? = w2.heap[b]? := fun b h1 h2 => decW0_far _ _ _ _ _ _ _ b h1
      have hB3 := decW0_blk (w2 := w2) (R := w.heap.size) BB.out.1 (.int .i64 2) (.int .u64 0) (.int .i64 0) (.slice none 0 0) (.slice none 0 0)
      have k0 := hB3.cell 0; have k1 := hB3.cell 1; have k2 := hB3.cell 2; have k3 := hB3.cell 3; have k4 := hB3.cell 4
      simp at k0 k1 k2 k3 k4
      refine bodyPost_ret (v := .agg #[.int .i64 2, .int .u64 0, .int .i64 0, .slice none 0 0, .slice none 0 0]) (by simp [results, Try.results23, go_sem, k0, k1, k2, k3, k4]) rfl ?_
      exact qdec_post rfl hp H2.out.1 H2.out.2 (sliAt_nil _ _ _) (SlT.nil_ _ _ _ _) BB.out.1 (.inr trivial) hfar (decW0_only H2.out.2 (Nat.le_refl _) _ _ _ _ _) ⟨_, BB.out.2⟩ _ rfl
    · go_enter Try.func23, Try.ntmps23
      go_wp2_with fail
      rw [show (w.alloc (.cells zeroV 28)).alloc (.cells #[.int .i64 2, .int .u64 0, .int .i64 0, .slice none 0 0, .slice none 0 0] 28) = W1 from HW.out]
      refine C0.out.mono ?_
      rintro e w2 ⟨rfl, hr, ho⟩
      obtain ⟨bR, bV⟩ := after_call HB.out.1 HB.out.2 ho hp
      have H2 := Lib.hid (And.intro hr (H1.out.2.trans ho))
      have v0 := bV.cell 0; have v1 := bV.cell 1; have v2 := bV.cell 2; have v3 := bV.cell 3; have v4 := bV.cell 4
      have r0 := bR.cell 0; have r1 := bR.cell 1; have r2 := bR.cell 2; have r3 := bR.cell 3; have r4 := bR.cell 4
      have f0 := bV.frozen 0; have f1 := bV.frozen 1; have f2 := bV.frozen 2; have f3 := bV.frozen 3; have f4 := bV.frozen 4
      have g0 := bR.frozen 0; have g1 := bR.frozen 1; have g2 := bR.frozen 2; have g3 := bR.frozen 3; have g4 := bR.frozen 4
      simp at v0 v1 v2 v3 v4 r0 r1 r2 r3 r4
      have BB := Lib.hid (And.intro bR bV)
      clear bR bV
      clear hr ho
      go_wp2
      have hfar : ∀ b, b ≠ w.heap.size → b ≠ w.heap.size + 1 → (decW0 (w2.setCell ⟨w.heap.size + 1, 2, none⟩ (.int .i64 1)) w.heap.size (.int .i64 2) (.int .u64 0) (.int .i64 1) (.slice none 0 0) (.slice none 0 0)).heap[b]? = w2.heap[b]? := fun b h1 h2 => (decW0_far _ _ _ _ _ _ _ b h1).trans (Below.heap_setCell w2 ⟨w.heap.size + 1, 2, none⟩ _ b h2)
      have hB3 := decW0_blk (w2 := (w2.setCell ⟨w.heap.size + 1, 2, none⟩ (.int .i64 1))) (R := w.heap.size) (BB.out.1.same (Below.heap_setCell _ _ _ _ (by show w.heap.size ≠ w.heap.size + 1; omega))) (.int .i64 2) (.int .u64 0) (.int .i64 1) (.slice none 0 0) (.slice none 0 0)
      have k0 := hB3.cell 0; have k1 := hB3.cell 1; have k2 := hB3.cell 2; have k3 := hB3.cell 3; have k4 := hB3.cell 4
      simp at k0 k1 k2 k3 k4
      refine bodyPost_ret (v := .agg #[.int .i64 2, .int .u64 0, .int .i64 1, .slice none 0 0, .slice none 0 0]) (by simp [results, Try.results23, go_sem, k0, k1, k2, k3, k4]) rfl ?_
      exact qdec_post rfl hp H2.out.1 H2.out.2 (sliAt_nil _ _ _) (SlT.nil_ _ _ _ _) BB.out.1 (.inr trivial) hfar (decW0_only (H2.out.2.setCell (p := ⟨w.heap.size + 1, 2, none⟩) (.inl (by show w.heap.size ≤ w.heap.size + 1; omega)) _) (Nat.le_refl _) _ _ _ _ _) ⟨_, BB.out.2⟩ _ rfl
  · obtain ⟨⟨Z, s⟩, hR⟩ : ∃ R, rdRaw st = R := ⟨_, rfl⟩
    have c0 := qraw_any base p st _ H1.out.1
    rw [hR] at c0
    have C0 := Lib.hid c0
    have hd : rdV 3 st = (⟨3, 0, 0, Z, []⟩, s) := by simp [rdV, hR]
    rw [hd]
    clear hd c0 hR
    go_enter Try.func23, Try.ntmps23
    go_wp2_with fail
    rw [show (w.alloc (.cells zeroV 28)).alloc (.cells #[.int .i64 3, .int .u64 0, .int .i64 0, .slice none 0 0, .slice none 0 0] 28) = W1 from HW.out]
    refine (C0.out).mono ?_
    rintro e w2 ⟨A, c, rfl, hsl, hr, ho⟩
    have HT := Lib.hid hsl
    clear hsl
    obtain ⟨bR, bV⟩ := after_call HB.out.1 HB.out.2 ho hp
    have H2 := Lib.hid (And.intro hr (H1.out.2.trans ho))
    have v0 := bV.cell 0; have v1 := bV.cell 1; have v2 := bV.cell 2; have v3 := bV.cell 3; have v4 := bV.cell 4
    have r0 := bR.cell 0; have r1 := bR.cell 1; have r2 := bR.cell 2; have r3 := bR.cell 3; have r4 := bR.cell 4
    have f0 := bV.frozen 0; have f1 := bV.frozen 1; have f2 := bV.frozen 2; have f3 := bV.frozen 3; have f4 := bV.frozen 4
    have g0 := bR.frozen 0; have g1 := bR.frozen 1; have g2 := bR.frozen 2; have g3 := bR.frozen 3; have g4 := bR.frozen 4
    simp at v0 v1 v2 v3 v4 r0 r1 r2 r3 r4
    have BB := Lib.hid (And.intro bR bV)
    clear bR bV
    clear hr ho
    go_wp2
    have hfar : ∀ b, b ≠ w.heap.size → b ≠ w.heap.size + 1 → (decW0 (w2.setCell ⟨w.heap.size + 1, 3, none⟩ (.slice A Z.length c)) w.heap.size (.int .i64 3) (.int .u64 0) (.int .i64 0) (.slice A Z.length c) (.slice none 0 0)).heap[b]? = w2.heap[b]? := fun b h1 h2 => (decW0_far _ _ _ _ _ _ _ b h1).trans (Below.heap_setCell w2 ⟨w.heap.size + 1, 3, none⟩ _ b h2)
    have hB3 := decW0_blk (w2 := (w2.setCell ⟨w.heap.size + 1, 3, none⟩ (.slice A Z.length c))) (R := w.heap.size) (BB.out.1.same (Below.heap_setCell _ _ _ _ (by show w.heap.size ≠ w.heap.size + 1; omega))) (.int .i64 3) (.int .u64 0) (.int .i64 0) (.slice A Z.length c) (.slice none 0 0)
    have k0 := hB3.cell 0; have k1 := hB3.cell 1; have k2 := hB3.cell 2; have k3 := hB3.cell 3; have k4 := hB3.cell 4
    simp at k0 k1 k2 k3 k4
    refine bodyPost_ret (v := .agg #[.int .i64 3, .int .u64 0, .int .i64 0, .slice A Z.length c, .slice none 0 0]) (by simp [results, Try.results23, go_sem, k0, k1, k2, k3, k4]) rfl ?_
    exact qdec_post rfl hp H2.out.1 H2.out.2 HT.out (SlT.nil_ _ _ _ _) BB.out.1 (.inr trivial) hfar (decW0_only (H2.out.2.setCell (p := ⟨w.heap.size + 1, 3, none⟩) (.inl (by show w.heap.size ≤ w.heap.size + 1; omega)) _) (Nat.le_refl _) _ _ _ _ _) ⟨_, BB.out.2⟩ _ rfl
  · obtain ⟨⟨Z, s⟩, hR⟩ : ∃ R, rdRaw st = R := ⟨_, rfl⟩
    have c0 := qraw_any base p st _ H1.out.1
    rw [hR] at c0
    have C0 := Lib.hid c0
    have hd : rdV 4 st = (⟨4, 0, 0, Z, []⟩, s) := by simp [rdV, hR]
    rw [hd]
    clear hd c0 hR
    go_enter Try.func23, Try.ntmps23
    go_wp2_with fail
    rw [show (w.alloc (.cells zeroV 28)).alloc (.cells #[.int .i64 4, .int .u64 0, .int .i64 0, .slice none 0 0, .slice none 0 0] 28) = W1 from HW.out]
    refine (C0.out).mono ?_
    rintro e w2 ⟨A, c, rfl, hsl, hr, ho⟩
    have HT := Lib.hid hsl
    clear hsl
    obtain ⟨bR, bV⟩ := after_call HB.out.1 HB.out.2 ho hp
    have H2 := Lib.hid (And.intro hr (H1.out.2.trans ho))
    have v0 := bV.cell 0; have v1 := bV.cell 1; have v2 := bV.cell 2; have v3 := bV.cell 3; have v4 := bV.cell 4
    have r0 := bR.cell 0; have r1 := bR.cell 1; have r2 := bR.cell 2; have r3 := bR.cell 3; have r4 := bR.cell 4
    have f0 := bV.frozen 0; have f1 := bV.frozen 1; have f2 := bV.frozen 2; have f3 := bV.frozen 3; have f4 := bV.frozen 4
    have g0 := bR.frozen 0; have g1 := bR.frozen 1; have g2 := bR.frozen 2; have g3 := bR.frozen 3; have g4 := bR.frozen 4
    simp at v0 v1 v2 v3 v4 r0 r1 r2 r3 r4
    have BB := Lib.hid (And.intro bR bV)
    clear bR bV
    clear hr ho
    go_wp2
    have hfar : ∀ b, b ≠ w.heap.size → b ≠ w.heap.size + 1 → (decW0 (w2.setCell ⟨w.heap.size + 1, 3, none⟩ (.slice A Z.length c)) w.heap.size (.int .i64 4) (.int .u64 0) (.int .i64 0) (.slice A Z.length c) (.slice none 0 0)).heap[b]? = w2.heap[b]? := fun b h1 h2 => (decW0_far _ _ _ _ _ _ _ b h1).trans (Below.heap_setCell w2 ⟨w.heap.size + 1, 3, none⟩ _ b h2)
    have hB3 := decW0_blk (w2 := (w2.setCell ⟨w.heap.size + 1, 3, none⟩ (.slice A Z.length c))) (R := w.heap.size) (BB.out.1.same (Below.heap_setCell _ _ _ _ (by show w.heap.size ≠ w.heap.size + 1; omega))) (.int .i64 4) (.int .u64 0) (.int .i64 0) (.slice A Z.length c) (.slice none 0 0)
    have k0 := hB3.cell 0; have k1 := hB3.cell 1; have k2 := hB3.cell 2; have k3 := hB3.cell 3; have k4 := hB3.cell 4
    simp at k0 k1 k2 k3 k4
    refine bodyPost_ret (v := .agg #[.int .i64 4, .int .u64 0, .int .i64 0, .slice A Z.length c, .slice none 0 0]) (by simp [results, Try.results23, go_sem, k0, k1, k2, k3, k4]) rfl ?_
    exact qdec_post rfl hp H2.out.1 H2.out.2 HT.out (SlT.nil_ _ _ _ _) BB.out.1 (.inr trivial) hfar (decW0_only (H2.out.2.setCell (p := ⟨w.heap.size + 1, 3, none⟩) (.inl (by show w.heap.size ≤ w.heap.size + 1; omega)) _) (Nat.le_refl _) _ _ _ _ _) ⟨_, BB.out.2⟩ _ rfl
  · obtain ⟨⟨Z, s⟩, hR⟩ : ∃ R, rdInts st = R := ⟨_, rfl⟩
    have c0 := qints_any base p st _ H1.out.1
    rw [hR] at c0
    have C0 := Lib.hid c0
    have hd : rdV 5 st = (⟨5, 0, 0, [], Z⟩, s) := by simp [rdV, hR]
    rw [hd]
    clear hd c0 hR
    go_enter Try.func23, Try.ntmps23
    go_wp2_with fail
    rw [show (w.alloc (.cells zeroV 28)).alloc (.cells #[.int .i64 5, .int .u64 0, .int .i64 0, .slice none 0 0, .slice none 0 0] 28) = W1 from HW.out]
    refine (C0.out).mono ?_
    rintro e w2 ⟨A, c, rfl, hsl, hr, ho⟩
    rw [HS.out] at hsl
    have HT := Lib.hid (hsl.mono (base' := w.heap.size) (by omega))
    clear hsl
    obtain ⟨bR, bV⟩ := after_call HB.out.1 HB.out.2 ho hp
    have H2 := Lib.hid (And.intro hr (H1.out.2.trans ho))
    have v0 := bV.cell 0; have v1 := bV.cell 1; have v2 := bV.cell 2; have v3 := bV.cell 3; have v4 := bV.cell 4
    have r0 := bR.cell 0; have r1 := bR.cell 1; have r2 := bR.cell 2; have r3 := bR.cell 3; have r4 := bR.cell 4
    have f0 := bV.frozen 0; have f1 := bV.frozen 1; have f2 := bV.frozen 2; have f3 := bV.frozen 3; have f4 := bV.frozen 4
    have g0 := bR.frozen 0; have g1 := bR.frozen 1; have g2 := bR.frozen 2; have g3 := bR.frozen 3; have g4 := bR.frozen 4
    simp at v0 v1 v2 v3 v4 r0 r1 r2 r3 r4
    have BB := Lib.hid (And.intro bR bV)
    clear bR bV
    clear hr ho
    go_wp2
    have hfar : ∀ b, b ≠ w.heap.size → b ≠ w.heap.size + 1 → (decW0 (w2.setCell ⟨w.heap.size + 1, 4, none⟩ (.slice A Z.length c)) w.heap.size (.int .i64 5) (.int .u64 0) (.int .i64 0) (.slice none 0 0) (.slice A Z.length c)).heap[b]? = w2.heap[b]? := fun b h1 h2 => (decW0_far _ _ _ _ _ _ _ b h1).trans (Below.heap_setCell w2 ⟨w.heap.size + 1, 4, none⟩ _ b h2)
    have hB3 := decW0_blk (w2 := (w2.setCell ⟨w.heap.size + 1, 4, none⟩ (.slice A Z.length c))) (R := w.heap.size) (BB.out.1.same (Below.heap_setCell _ _ _ _ (by show w.heap.size ≠ w.heap.size + 1; omega))) (.int .i64 5) (.int .u64 0) (.int .i64 0) (.slice none 0 0) (.slice A Z.length c)
    have k0 := hB3.cell 0; have k1 := hB3.cell 1; have k2 := hB3.cell 2; have k3 := hB3.cell 3; have k4 := hB3.cell 4
    simp at k0 k1 k2 k3 k4
    refine bodyPost_ret (v := .agg #[.int .i64 5, .int .u64 0, .int .i64 0, .slice none 0 0, .slice A Z.length c]) (by simp [results, Try.results23, go_sem, k0, k1, k2, k3, k4]) rfl ?_
    exact qdec_post rfl hp H2.out.1 H2.out.2 (sliAt_nil _ _ _) HT.out BB.out.1 (.inr trivial) hfar (decW0_only (H2.out.2.setCell (p := ⟨w.heap.size + 1, 4, none⟩) (.inl (by show w.heap.size ≤ w.heap.size + 1; omega)) _) (Nat.le_refl _) _ _ _ _ _) ⟨_, BB.out.2⟩ _ rfl

end Go.Proofs.Ytfnpnomfdfdonaa
