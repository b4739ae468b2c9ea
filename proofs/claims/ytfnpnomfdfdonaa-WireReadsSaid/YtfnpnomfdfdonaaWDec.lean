/- The contract of read: what each kind of reading returns. Conditions: at most 100000 bytes are left. -/
import Derived.Test.YtfnpnomfdfdonaaWEnc
namespace Go.Proofs.Ytfnpnomfdfdonaa
open Go.RowKit Go.Shelf
set_option linter.unusedVariables false

/-- Reading a value of a kind. -/
def rdV (k : Nat) (st : Rs) : V × Rs :=
  if k = 0 then (⟨0, (rdU st).1, 0, [], []⟩, (rdU st).2)
  else if k = 1 then (⟨1, 0, (rdI st).1, [], []⟩, (rdI st).2)
  else if k = 2 then (⟨2, 0, if (rdB st).1 then 1 else 0, [], []⟩, (rdB st).2)
  else if k = 3 then (⟨3, 0, 0, (rdRaw st).1, []⟩, (rdRaw st).2)
  else if k = 4 then (⟨4, 0, 0, (rdRaw st).1, []⟩, (rdRaw st).2)
  else (⟨5, 0, 0, [], (rdInts st).1⟩, (rdInts st).2)

/-- A call hands back a value and leaves the reader in a state; it writes to the reader alone. -/
def VPost (base p : Nat) (v : V) (st : Rs) (w : World) (e : Ending) (w' : World) : Prop :=
  ∃ ab cb al cl, e = .returned (.agg #[.int .i64 v.kind, .int .u64 v.u, .int .i64 v.n, .slice ab v.b.length cb, .slice al v.l.length cl]) ∧
    SlT .u8 5 w.heap.size w' ab cb v.b ∧ SlT .i64 3 w.heap.size w' al cl v.l ∧ Rd w' base p st ∧ Only (fun j => j = p) w w'

abbrev zeroV : Array Value := #[.int .i64 0, .int .u64 0, .int .i64 0, .slice none 0 0, .slice none 0 0]
abbrev kindV (k : Nat) : Array Value := #[.int .i64 (k : Int), .int .u64 0, .int .i64 0, .slice none 0 0, .slice none 0 0]

/-- The two variables of read behind the call that reads. -/
theorem after_call {p R : Nat} {cs ds : Array Value} {W W' : World} (h1 : Blk W R 28 cs) (h2 : Blk W (R + 1) 28 ds) (ho : Only (fun j => j = p) W W') (hp : p < R) : Blk W' R 28 cs ∧ Blk W' (R + 1) 28 ds :=
  ⟨h1.same (ho.block R h1.lt (by omega)), h2.same (ho.block (R + 1) h2.lt (by omega))⟩

/-- The world behind the copy of the value into the result. -/
abbrev decW (w2 : World) (R i : Nat) (x a0 a1 a2 a3 a4 : Value) : World :=
  (((((w2.setCell ⟨R + 1, i, none⟩ x).setCell ⟨R, 0, none⟩ a0).setCell ⟨R, 1, none⟩ a1).setCell ⟨R, 2, none⟩ a2).setCell ⟨R, 3, none⟩ a3).setCell ⟨R, 4, none⟩ a4
abbrev decW0 (w2 : World) (R : Nat) (a0 a1 a2 a3 a4 : Value) : World :=
  ((((w2.setCell ⟨R, 0, none⟩ a0).setCell ⟨R, 1, none⟩ a1).setCell ⟨R, 2, none⟩ a2).setCell ⟨R, 3, none⟩ a3).setCell ⟨R, 4, none⟩ a4
theorem decW0_blk {w2 : World} {R : Nat} (h : Blk w2 R 28 zeroV) (a0 a1 a2 a3 a4 : Value) : Blk (decW0 w2 R a0 a1 a2 a3 a4) R 28 #[a0, a1, a2, a3, a4] := by
  have := ((((h.set 0 a0).set 1 a1).set 2 a2).set 3 a3).set 4 a4
  simpa using this
theorem decW0_far (w2 : World) (R : Nat) (a0 a1 a2 a3 a4 : Value) (b : Nat) (hb : b ≠ R) : (decW0 w2 R a0 a1 a2 a3 a4).heap[b]? = w2.heap[b]? := by
  unfold decW0
  rw [Below.heap_setCell _ _ _ b (by show b ≠ R; exact hb), Below.heap_setCell _ _ _ b (by show b ≠ R; exact hb), Below.heap_setCell _ _ _ b (by show b ≠ R; exact hb), Below.heap_setCell _ _ _ b (by show b ≠ R; exact hb), Below.heap_setCell _ _ _ b (by show b ≠ R; exact hb)]
theorem decW0_only {T : Nat → Prop} {w w2 : World} {R : Nat} (h : Only T w w2) (hR : w.heap.size ≤ R) (a0 a1 a2 a3 a4 : Value) : Only T w (decW0 w2 R a0 a1 a2 a3 a4) :=
  ((((h.setCell (p := ⟨R, 0, none⟩) (.inl hR) a0).setCell (p := ⟨R, 1, none⟩) (.inl hR) a1).setCell (p := ⟨R, 2, none⟩) (.inl hR) a2).setCell (p := ⟨R, 3, none⟩) (.inl hR) a3).setCell (p := ⟨R, 4, none⟩) (.inl hR) a4
/-- What is owed at the end of read, where the world behind the copy is known. -/
theorem dec_post {base p R : Nat} {v : V} {st : Rs} {ab : Option Addr} {cb : Nat} {al : Option Addr} {cl : Nat} {w w2 w3 : World} (hR : R = w.heap.size) (hp : p < R) (hr : Rd w2 base p st) (ho : Only (fun j => j = p) w w2)
    (hb : SlT .u8 5 R w2 ab cb v.b) (hl : SlT .i64 3 R w2 al cl v.l) (bV : Blk w2 R 28 zeroV) (bV2 : Blk w2 (R + 1) 28 zeroV ∨ True)
    (h3 : ∀ b, b ≠ R → b ≠ R + 1 → w3.heap[b]? = w2.heap[b]?) (ho3 : Only (fun j => j = p) w w3) (ht : ∃ ds, w2.heap[R + 1]? = some (.cells ds 28 (0, 0))) (e : Ending)
    (he : e = .returned (.agg #[.int .i64 v.kind, .int .u64 v.u, .int .i64 v.n, .slice ab v.b.length cb, .slice al v.l.length cl])) : VPost base p v st w e w3 := by
  subst hR
  obtain ⟨ds, hds⟩ := ht
  have hne : ∀ (g : Nat) (cur : Array Value) (e : TypeId) (f : Nat × Nat), e ≠ 28 → w2.heap[g]? = some (.cells cur e f) → g ≠ w.heap.size ∧ g ≠ w.heap.size + 1 := by
    intro g cur e f he hg
    constructor
    · rintro rfl; unfold Blk at bV; rw [bV] at hg; injection hg with hg; injection hg with _ h2; exact he h2.symm
    · rintro rfl; rw [hds] at hg; injection hg with hg; injection hg with _ h2; exact he h2.symm
  refine ⟨ab, cb, al, cl, he, hb.keep (fun g cur f _ hg => ?_), hl.keep (fun g cur f _ hg => ?_), hr.keep (fun b _ hb2 => h3 b (by omega) (by omega)), ho3⟩
  · exact h3 g (hne g cur _ f (by decide) hg).1 (hne g cur _ f (by decide) hg).2
  · exact h3 g (hne g cur _ f (by decide) hg).1 (hne g cur _ f (by decide) hg).2

theorem bytesRow_get (s : ByteArray) (cap j : Nat) (hj : j < s.size) : (bytesRow s cap)[j]? = some (.int .u8 ((sb s)[j]?.getD 0)) := by
  have h2 : j < s.data.size := hj
  unfold bytesRow sb
  rw [Array.getElem?_append_left (by simpa using h2)]
  simp [Array.getElem?_eq_getElem h2]

set_option maxRecDepth 100000 in
set_option maxHeartbeats 4000000 in
theorem read_any (base p k : Nat) (st : Rs) (w : World) (h : Rd w base p st) (hk : k ≤ 5) :
    Calls Try.prog 22 #[.pointer (some ⟨p, 0, none⟩), .int .i64 (k : Int)] w (VPost base p (rdV k st).1 (rdV k st).2 w) := by
  have hp := h.lt.2
  obtain ⟨W1, hW1⟩ : ∃ W1, (w.alloc (.cells zeroV 28)).alloc (.cells (kindV k) 28) = W1 := ⟨_, rfl⟩
  have HW := Lib.hid hW1
  have hr1 : Rd W1 base p st := by rw [← hW1]; exact (h.below (below_new _ _)).below (below_new _ _)
  have bR : Blk W1 w.heap.size 28 zeroV := by rw [← hW1]; exact (Blk.new _ _ _).alloc _
  have bV : Blk W1 (w.heap.size + 1) 28 (kindV k) := by
    rw [← hW1]; have := Blk.new (w.alloc (.cells zeroV 28)) 28 (kindV k); rwa [World.size_alloc] at this
  have hs1 : W1.heap.size = w.heap.size + 2 := by rw [← hW1]; simp
  have ho1 : Only (fun j => j = p) w W1 := by rw [← hW1]; exact ((Only.refl _ _).alloc _).alloc _
  have H1 := Lib.hid (And.intro hr1 ho1)
  have HB := Lib.hid (And.intro bR bV)
  have HS := Lib.hid hs1
  clear hW1 h hr1 bR bV hs1 ho1
  have hways : k = 0 ∨ k = 1 ∨ k = 2 ∨ k = 3 ∨ k = 4 ∨ k = 5 := by omega
  clear hk
  rcases hways with rfl | rfl | rfl | rfl | rfl | rfl
  · obtain ⟨⟨n, s⟩, hR⟩ : ∃ R, rdU st = R := ⟨_, rfl⟩
    have c0 := ruint_any base p st _ H1.out.1
    rw [hR] at c0
    have C0 := Lib.hid c0
    have hd : rdV 0 st = (⟨0, n, 0, [], []⟩, s) := by simp [rdV, hR]
    rw [hd]
    clear hd c0 hR
    go_enter Try.func22, Try.ntmps22
    go_wp2_with fail
    rw [show (w.alloc (.cells zeroV 28)).alloc (.cells #[.int .i64 0, .int .u64 0, .int .i64 0, .slice none 0 0, .slice none 0 0] 28) = W1 from HW.out]
    refine (C0.out).mono ?_
    rintro e w2 ⟨rfl, hr, ho⟩
    obtain ⟨bR, bV⟩ := after_call HB.out.1 HB.out.2 ho hp
    have H2 := Lib.hid (And.intro hr (H1.out.2.trans ho))
    have v0 := bV.cell 0; have v1 := bV.cell 1; have v2 := bV.cell 2; have v3 := bV.cell 3; have v4 := bV.cell 4
    have r0 := bR.cell 0; have r1 := bR.cell 1; have r2 := bR.cell 2; have r3 := bR.cell 3; have r4 := bR.cell 4
    have f0 := bV.frozen 0; have f1 := bV.frozen 1; have f2 := bV.frozen 2; have f3 := bV.frozen 3; have f4 := bV.frozen 4
    have g0 := bR.frozen 0; have g1 := bR.frozen 1; have g2 := bR.frozen 2; have g3 := bR.frozen 3; have g4 := bR.frozen 4
    simp at v0 v1 v2 v3 v4 r0 r1 r2 r3 r4
    have BB := Lib.hid (And.intro bR bV)
    clear bR bV
    clear hr ho
    go_wp2
    have hfar : ∀ b, b ≠ w.heap.size → b ≠ w.heap.size + 1 → (decW0 (w2.setCell ⟨w.heap.size + 1, 1, none⟩ (.int .u64 (n : Int))) w.heap.size (.int .i64 0) (.int .u64 (n : Int)) (.int .i64 0) (.slice none 0 0) (.slice none 0 0)).heap[b]? = w2.heap[b]? := fun b h1 h2 => (decW0_far _ _ _ _ _ _ _ b h1).trans (Below.heap_setCell w2 ⟨w.heap.size + 1, 1, none⟩ _ b h2)
    have hB3 := decW0_blk (w2 := (w2.setCell ⟨w.heap.size + 1, 1, none⟩ (.int .u64 (n : Int)))) (R := w.heap.size) (BB.out.1.same (Below.heap_setCell _ _ _ _ (by show w.heap.size ≠ w.heap.size + 1; omega))) (.int .i64 0) (.int .u64 (n : Int)) (.int .i64 0) (.slice none 0 0) (.slice none 0 0)
    have k0 := hB3.cell 0; have k1 := hB3.cell 1; have k2 := hB3.cell 2; have k3 := hB3.cell 3; have k4 := hB3.cell 4
    simp at k0 k1 k2 k3 k4
    refine bodyPost_ret (v := .agg #[.int .i64 0, .int .u64 (n : Int), .int .i64 0, .slice none 0 0, .slice none 0 0]) (by simp [results, Try.results22, go_sem, k0, k1, k2, k3, k4]) rfl ?_
    exact dec_post rfl hp H2.out.1 H2.out.2 (SlT.nil_ _ _ _ _) (SlT.nil_ _ _ _ _) BB.out.1 (.inr trivial) hfar (decW0_only (H2.out.2.setCell (p := ⟨w.heap.size + 1, 1, none⟩) (.inl (by show w.heap.size ≤ w.heap.size + 1; omega)) _) (Nat.le_refl _) _ _ _ _ _) ⟨_, BB.out.2⟩ _ rfl
  · obtain ⟨⟨n, s⟩, hR⟩ : ∃ R, rdI st = R := ⟨_, rfl⟩
    have c0 := rint_any base p st _ H1.out.1
    rw [hR] at c0
    have C0 := Lib.hid c0
    have hd : rdV 1 st = (⟨1, 0, n, [], []⟩, s) := by simp [rdV, hR]
    rw [hd]
    clear hd c0 hR
    go_enter Try.func22, Try.ntmps22
    go_wp2_with fail
    rw [show (w.alloc (.cells zeroV 28)).alloc (.cells #[.int .i64 1, .int .u64 0, .int .i64 0, .slice none 0 0, .slice none 0 0] 28) = W1 from HW.out]
    refine (C0.out).mono ?_
    rintro e w2 ⟨rfl, hr, ho⟩
    obtain ⟨bR, bV⟩ := after_call HB.out.1 HB.out.2 ho hp
    have H2 := Lib.hid (And.intro hr (H1.out.2.trans ho))
    have v0 := bV.cell 0; have v1 := bV.cell 1; have v2 := bV.cell 2; have v3 := bV.cell 3; have v4 := bV.cell 4
    have r0 := bR.cell 0; have r1 := bR.cell 1; have r2 := bR.cell 2; have r3 := bR.cell 3; have r4 := bR.cell 4
    have f0 := bV.frozen 0; have f1 := bV.frozen 1; have f2 := bV.frozen 2; have f3 := bV.frozen 3; have f4 := bV.frozen 4
    have g0 := bR.frozen 0; have g1 := bR.frozen 1; have g2 := bR.frozen 2; have g3 := bR.frozen 3; have g4 := bR.frozen 4
    simp at v0 v1 v2 v3 v4 r0 r1 r2 r3 r4
    have BB := Lib.hid (And.intro bR bV)
    clear bR bV
    clear hr ho
    go_wp2
    have hfar : ∀ b, b ≠ w.heap.size → b ≠ w.heap.size + 1 → (decW0 (w2.setCell ⟨w.heap.size + 1, 2, none⟩ (.int .i64 n)) w.heap.size (.int .i64 1) (.int .u64 0) (.int .i64 n) (.slice none 0 0) (.slice none 0 0)).heap[b]? = w2.heap[b]? := fun b h1 h2 => (decW0_far _ _ _ _ _ _ _ b h1).trans (Below.heap_setCell w2 ⟨w.heap.size + 1, 2, none⟩ _ b h2)
    have hB3 := decW0_blk (w2 := (w2.setCell ⟨w.heap.size + 1, 2, none⟩ (.int .i64 n))) (R := w.heap.size) (BB.out.1.same (Below.heap_setCell _ _ _ _ (by show w.heap.size ≠ w.heap.size + 1; omega))) (.int .i64 1) (.int .u64 0) (.int .i64 n) (.slice none 0 0) (.slice none 0 0)
    have k0 := hB3.cell 0; have k1 := hB3.cell 1; have k2 := hB3.cell 2; have k3 := hB3.cell 3; have k4 := hB3.cell 4
    simp at k0 k1 k2 k3 k4
    refine bodyPost_ret (v := .agg #[.int .i64 1, .int .u64 0, .int .i64 n, .slice none 0 0, .slice none 0 0]) (by simp [results, Try.results22, go_sem, k0, k1, k2, k3, k4]) rfl ?_
    exact dec_post rfl hp H2.out.1 H2.out.2 (SlT.nil_ _ _ _ _) (SlT.nil_ _ _ _ _) BB.out.1 (.inr trivial) hfar (decW0_only (H2.out.2.setCell (p := ⟨w.heap.size + 1, 2, none⟩) (.inl (by show w.heap.size ≤ w.heap.size + 1; omega)) _) (Nat.le_refl _) _ _ _ _ _) ⟨_, BB.out.2⟩ _ rfl
  · obtain ⟨⟨b, s⟩, hR⟩ : ∃ R, rdB st = R := ⟨_, rfl⟩
    have c0 := rbool_any base p st _ H1.out.1
    rw [hR] at c0
    have hd : rdV 2 st = (⟨2, 0, if b then 1 else 0, [], []⟩, s) := by simp [rdV, hR]
    rw [hd]
    have C0 := Lib.hid c0
    clear hd c0 hR
    cases b
    · go_enter Try.func22, Try.ntmps22
      go_wp2_with fail
      rw [show (w.alloc (.cells zeroV 28)).alloc (.cells #[.int .i64 2, .int .u64 0, .int .i64 0, .slice none 0 0, .slice none 0 0] 28) = W1 from HW.out]
      refine C0.out.mono ?_
      rintro e w2 ⟨rfl, hr, ho⟩
      obtain ⟨bR, bV⟩ := after_call HB.out.1 HB.out.2 ho hp
      have H2 := Lib.hid (And.intro hr (H1.out.2.trans ho))
      have v0 := bV.cell 0; have v1 := bV.cell 1; have v2 := bV.cell 2; have v3 := bV.cell 3; have v4 := bV.cell 4
      have r0 := bR.cell 0; have r1 := bR.cell 1; have r2 := bR.cell 2; have r3 := bR.cell 3; have r4 := bR.cell 4
      have f0 := bV.frozen 0; have f1 := bV.frozen 1; have f2 := bV.frozen 2; have f3 := bV.frozen 3; have f4 := bV.frozen 4
      have g0 := bR.frozen 0; have g1 := bR.frozen 1; have g2 := bR.frozen 2; have g3 := bR.frozen 3; have g4 := bR.frozen 4
      simp at v0 v1 v2 v3 v4 r0 r1 r2 r3 r4
      have BB := Lib.hid (And.intro bR bV)
      clear bR bV
      clear hr ho
      go_wp2
      have hfar : ∀ b, b ≠ w.heap.size → b ≠ w.heap.size + 1 → (decW0 w2 w.heap.size (.int .i64 2) (.int .u64 0) (.int .i64 0) (.slice none 0 0) (.slice none 0 0)).heap[b]? = w2.heap[b]? := fun b h1 h2 => decW0_far _ _ _ _ _ _ _ b h1
      have hB3 := decW0_blk (w2 := w2) (R := w.heap.size) BB.out.1 (.int .i64 2) (.int .u64 0) (.int .i64 0) (.slice none 0 0) (.slice none 0 0)
      have k0 := hB3.cell 0; have k1 := hB3.cell 1; have k2 := hB3.cell 2; have k3 := hB3.cell 3; have k4 := hB3.cell 4
      simp at k0 k1 k2 k3 k4
      refine bodyPost_ret (v := .agg #[.int .i64 2, .int .u64 0, .int .i64 0, .slice none 0 0, .slice none 0 0]) (by simp [results, Try.results22, go_sem, k0, k1, k2, k3, k4]) rfl ?_
      exact dec_post rfl hp H2.out.1 H2.out.2 (SlT.nil_ _ _ _ _) (SlT.nil_ _ _ _ _) BB.out.1 (.inr trivial) hfar (decW0_only H2.out.2 (Nat.le_refl _) _ _ _ _ _) ⟨_, BB.out.2⟩ _ rfl
    · go_enter Try.func22, Try.ntmps22
      go_wp2_with fail
      rw [show (w.alloc (.cells zeroV 28)).alloc (.cells #[.int .i64 2, .int .u64 0, .int .i64 0, .slice none 0 0, .slice none 0 0] 28) = W1 from HW.out]
      refine C0.out.mono ?_
      rintro e w2 ⟨rfl, hr, ho⟩
      obtain ⟨bR, bV⟩ := after_call HB.out.1 HB.out.2 ho hp
      have H2 := Lib.hid (And.intro hr (H1.out.2.trans ho))
      have v0 := bV.cell 0; have v1 := bV.cell 1; have v2 := bV.cell 2; have v3 := bV.cell 3; have v4 := bV.cell 4
      have r0 := bR.cell 0; have r1 := bR.cell 1; have r2 := bR.cell 2; have r3 := bR.cell 3; have r4 := bR.cell 4
      have f0 := bV.frozen 0; have f1 := bV.frozen 1; have f2 := bV.frozen 2; have f3 := bV.frozen 3; have f4 := bV.frozen 4
      have g0 := bR.frozen 0; have g1 := bR.frozen 1; have g2 := bR.frozen 2; have g3 := bR.frozen 3; have g4 := bR.frozen 4
      simp at v0 v1 v2 v3 v4 r0 r1 r2 r3 r4
      have BB := Lib.hid (And.intro bR bV)
      clear bR bV
      clear hr ho
      go_wp2
      have hfar : ∀ b, b ≠ w.heap.size → b ≠ w.heap.size + 1 → (decW0 (w2.setCell ⟨w.heap.size + 1, 2, none⟩ (.int .i64 1)) w.heap.size (.int .i64 2) (.int .u64 0) (.int .i64 1) (.slice none 0 0) (.slice none 0 0)).heap[b]? = w2.heap[b]? := fun b h1 h2 => (decW0_far _ _ _ _ _ _ _ b h1).trans (Below.heap_setCell w2 ⟨w.heap.size + 1, 2, none⟩ _ b h2)
      have hB3 := decW0_blk (w2 := (w2.setCell ⟨w.heap.size + 1, 2, none⟩ (.int .i64 1))) (R := w.heap.size) (BB.out.1.same (Below.heap_setCell _ _ _ _ (by show w.heap.size ≠ w.heap.size + 1; omega))) (.int .i64 2) (.int .u64 0) (.int .i64 1) (.slice none 0 0) (.slice none 0 0)
      have k0 := hB3.cell 0; have k1 := hB3.cell 1; have k2 := hB3.cell 2; have k3 := hB3.cell 3; have k4 := hB3.cell 4
      simp at k0 k1 k2 k3 k4
      refine bodyPost_ret (v := .agg #[.int .i64 2, .int .u64 0, .int .i64 1, .slice none 0 0, .slice none 0 0]) (by simp [results, Try.results22, go_sem, k0, k1, k2, k3, k4]) rfl ?_
      exact dec_post rfl hp H2.out.1 H2.out.2 (SlT.nil_ _ _ _ _) (SlT.nil_ _ _ _ _) BB.out.1 (.inr trivial) hfar (decW0_only (H2.out.2.setCell (p := ⟨w.heap.size + 1, 2, none⟩) (.inl (by show w.heap.size ≤ w.heap.size + 1; omega)) _) (Nat.le_refl _) _ _ _ _ _) ⟨_, BB.out.2⟩ _ rfl
  · have hz := rdRaw_byt H1.out.1
    obtain ⟨⟨Z, s⟩, hR⟩ : ∃ R, rdRaw st = R := ⟨_, rfl⟩
    have c0 := rtext_any base p st _ H1.out.1
    rw [hR] at c0 hz
    have hd : rdV 3 st = (⟨3, 0, 0, Z, []⟩, s) := by simp [rdV, hR]
    rw [hd]
    have C0 := Lib.hid c0
    have HZ := Lib.hid hz
    clear hd c0 hR hz
    go_enter Try.func22, Try.ntmps22
    go_wp2_with fail
    rw [show (w.alloc (.cells zeroV 28)).alloc (.cells #[.int .i64 3, .int .u64 0, .int .i64 0, .slice none 0 0, .slice none 0 0] 28) = W1 from HW.out]
    refine C0.out.mono ?_
    rintro e w2 ⟨rfl, hr, ho⟩
    obtain ⟨bR0, bV0⟩ := after_call HB.out.1 HB.out.2 ho hp
    have hkc := run_bytes_of_string (P := Try.prog) w2 9 24 5 (bs Z) Try.underlying9 Try.underlying24 Try.underlying5
    have hG1 := grownCap_ge w2 (bs Z).size 0 5
    have hG2 := grownCap_le_maxLen w2 (bs Z).size 0 5 (by rw [bs_size]; have := HZ.out.2; unfold maxLen; omega)
    generalize grownCap w2 (bs Z).size 0 5 = G at hkc hG1 hG2
    unfold maxLen at hG2
    obtain ⟨W3, hW3⟩ : ∃ W3, w2.drew.alloc (.cells (bytesRow (bs Z) G) 5 ((bytesRow (bs Z) G).size, (bytesRow (bs Z) G).size + 1)) = W3 := ⟨_, rfl⟩
    have hb3 : Below w2.heap.size w2 W3 := by rw [← hW3]; exact ((Below.refl _ _).drew).alloc (Nat.le_refl _) _
    have hD : W3.heap[w2.heap.size]? = some (.cells (bytesRow (bs Z) G) 5 ((bytesRow (bs Z) G).size, (bytesRow (bs Z) G).size + 1)) := by rw [← hW3]; exact World.alloc_heap_new w2.drew _
    rw [hW3] at hkc
    rw [bs_size] at hkc hG1
    have hs2 := ho.size
    rw [HS.out] at hs2
    have HT : Hid (SlT .u8 5 w.heap.size W3 (some ⟨w2.heap.size, 0, none⟩) G Z) := by
      refine ⟨by omega, by omega, (fun h => by cases h), .inr ⟨w2.heap.size, 0, _, _, rfl, by omega, hD, fun j hj => ?_⟩⟩
      have := bytesRow_get (bs Z) G j (by rw [bs_size]; exact hj)
      rw [sb_bs HZ.out.1] at this
      rw [Nat.zero_add]; exact this
    have bR : Blk W3 w.heap.size 28 zeroV := bR0.same (hb3.block _ bR0.lt)
    have bV : Blk W3 (w.heap.size + 1) 28 (kindV 3) := bV0.same (hb3.block _ bV0.lt)
    have H2 := Lib.hid (And.intro (hr.below hb3) ((H1.out.2.trans ho).trans (Only.of_below hb3)))
    have v0 := bV.cell 0; have v1 := bV.cell 1; have v2 := bV.cell 2; have v3 := bV.cell 3; have v4 := bV.cell 4
    have r0 := bR.cell 0; have r1 := bR.cell 1; have r2 := bR.cell 2; have r3 := bR.cell 3; have r4 := bR.cell 4
    have f0 := bV.frozen 0; have f1 := bV.frozen 1; have f2 := bV.frozen 2; have f3 := bV.frozen 3; have f4 := bV.frozen 4
    have g0 := bR.frozen 0; have g1 := bR.frozen 1; have g2 := bR.frozen 2; have g3 := bR.frozen 3; have g4 := bR.frozen 4
    simp at v0 v1 v2 v3 v4 r0 r1 r2 r3 r4
    have BB := Lib.hid (And.intro bR bV)
    clear bR bV
    clear hr ho hW3 hb3 hD bR0 bV0 hs2
    go_wp2
    have hfar : ∀ b, b ≠ w.heap.size → b ≠ w.heap.size + 1 → (decW0 (W3.setCell ⟨w.heap.size + 1, 3, none⟩ (.slice (some ⟨w2.heap.size, 0, none⟩) Z.length G)) w.heap.size (.int .i64 3) (.int .u64 0) (.int .i64 0) (.slice (some ⟨w2.heap.size, 0, none⟩) Z.length G) (.slice none 0 0)).heap[b]? = W3.heap[b]? := fun b h1 h2 => (decW0_far _ _ _ _ _ _ _ b h1).trans (Below.heap_setCell W3 ⟨w.heap.size + 1, 3, none⟩ _ b h2)
    have hB3 := decW0_blk (w2 := (W3.setCell ⟨w.heap.size + 1, 3, none⟩ (.slice (some ⟨w2.heap.size, 0, none⟩) Z.length G))) (R := w.heap.size) (BB.out.1.same (Below.heap_setCell _ _ _ _ (by show w.heap.size ≠ w.heap.size + 1; omega))) (.int .i64 3) (.int .u64 0) (.int .i64 0) (.slice (some ⟨w2.heap.size, 0, none⟩) Z.length G) (.slice none 0 0)
    have k0 := hB3.cell 0; have k1 := hB3.cell 1; have k2 := hB3.cell 2; have k3 := hB3.cell 3; have k4 := hB3.cell 4
    simp at k0 k1 k2 k3 k4
    refine bodyPost_ret (v := .agg #[.int .i64 3, .int .u64 0, .int .i64 0, .slice (some ⟨w2.heap.size, 0, none⟩) Z.length G, .slice none 0 0]) (by simp [results, Try.results22, go_sem, k0, k1, k2, k3, k4]) rfl ?_
    exact dec_post rfl hp H2.out.1 H2.out.2 HT.out (SlT.nil_ _ _ _ _) BB.out.1 (.inr trivial) hfar (decW0_only (H2.out.2.setCell (p := ⟨w.heap.size + 1, 3, none⟩) (.inl (by show w.heap.size ≤ w.heap.size + 1; omega)) _) (Nat.le_refl _) _ _ _ _ _) ⟨_, BB.out.2⟩ _ rfl
  · obtain ⟨⟨Z, s⟩, hR⟩ : ∃ R, rdRaw st = R := ⟨_, rfl⟩
    have c0 := rraw_any base p st _ H1.out.1
    rw [hR] at c0
    have C0 := Lib.hid c0
    have hd : rdV 4 st = (⟨4, 0, 0, Z, []⟩, s) := by simp [rdV, hR]
    rw [hd]
    clear hd c0 hR
    go_enter Try.func22, Try.ntmps22
    go_wp2_with fail
    rw [show (w.alloc (.cells zeroV 28)).alloc (.cells #[.int .i64 4, .int .u64 0, .int .i64 0, .slice none 0 0, .slice none 0 0] 28) = W1 from HW.out]
    refine (C0.out).mono ?_
    rintro e w2 ⟨v, rfl, hown, hr, ho⟩
    obtain ⟨A, c, rfl⟩ := own_slice hown
    rw [HS.out] at hown
    have HT := Lib.hid ((slT_of_own hown).mono (base' := w.heap.size) (by omega))
    clear hown
    obtain ⟨bR, bV⟩ := after_call HB.out.1 HB.out.2 ho hp
    have H2 := Lib.hid (And.intro hr (H1.out.2.trans ho))
    have v0 := bV.cell 0; have v1 := bV.cell 1; have v2 := bV.cell 2; have v3 := bV.cell 3; have v4 := bV.cell 4
    have r0 := bR.cell 0; have r1 := bR.cell 1; have r2 := bR.cell 2; have r3 := bR.cell 3; have r4 := bR.cell 4
    have f0 := bV.frozen 0; have f1 := bV.frozen 1; have f2 := bV.frozen 2; have f3 := bV.frozen 3; have f4 := bV.frozen 4
    have g0 := bR.frozen 0; have g1 := bR.frozen 1; have g2 := bR.frozen 2; have g3 := bR.frozen 3; have g4 := bR.frozen 4
    simp at v0 v1 v2 v3 v4 r0 r1 r2 r3 r4
    have BB := Lib.hid (And.intro bR bV)
    clear bR bV
    clear hr ho
    go_wp2
    have hfar : ∀ b, b ≠ w.heap.size → b ≠ w.heap.size + 1 → (decW0 (w2.setCell ⟨w.heap.size + 1, 3, none⟩ (.slice A Z.length c)) w.heap.size (.int .i64 4) (.int .u64 0) (.int .i64 0) (.slice A Z.length c) (.slice none 0 0)).heap[b]? = w2.heap[b]? := fun b h1 h2 => (decW0_far _ _ _ _ _ _ _ b h1).trans (Below.heap_setCell w2 ⟨w.heap.size + 1, 3, none⟩ _ b h2)
    have hB3 := decW0_blk (w2 := (w2.setCell ⟨w.heap.size + 1, 3, none⟩ (.slice A Z.length c))) (R := w.heap.size) (BB.out.1.same (Below.heap_setCell _ _ _ _ (by show w.heap.size ≠ w.heap.size + 1; omega))) (.int .i64 4) (.int .u64 0) (.int .i64 0) (.slice A Z.length c) (.slice none 0 0)
    have k0 := hB3.cell 0; have k1 := hB3.cell 1; have k2 := hB3.cell 2; have k3 := hB3.cell 3; have k4 := hB3.cell 4
    simp at k0 k1 k2 k3 k4
    refine bodyPost_ret (v := .agg #[.int .i64 4, .int .u64 0, .int .i64 0, .slice A Z.length c, .slice none 0 0]) (by simp [results, Try.results22, go_sem, k0, k1, k2, k3, k4]) rfl ?_
    exact dec_post rfl hp H2.out.1 H2.out.2 HT.out (SlT.nil_ _ _ _ _) BB.out.1 (.inr trivial) hfar (decW0_only (H2.out.2.setCell (p := ⟨w.heap.size + 1, 3, none⟩) (.inl (by show w.heap.size ≤ w.heap.size + 1; omega)) _) (Nat.le_refl _) _ _ _ _ _) ⟨_, BB.out.2⟩ _ rfl
  · obtain ⟨⟨Z, s⟩, hR⟩ : ∃ R, rdInts st = R := ⟨_, rfl⟩
    have c0 := rints_any base p st _ H1.out.1
    rw [hR] at c0
    have C0 := Lib.hid c0
    have hd : rdV 5 st = (⟨5, 0, 0, [], Z⟩, s) := by simp [rdV, hR]
    rw [hd]
    clear hd c0 hR
    go_enter Try.func22, Try.ntmps22
    go_wp2_with fail
    rw [show (w.alloc (.cells zeroV 28)).alloc (.cells #[.int .i64 5, .int .u64 0, .int .i64 0, .slice none 0 0, .slice none 0 0] 28) = W1 from HW.out]
    refine (C0.out).mono ?_
    rintro e w2 ⟨v, rfl, hown, hr, ho⟩
    obtain ⟨A, c, rfl⟩ := own_slice hown
    rw [HS.out] at hown
    have HT := Lib.hid ((slT_of_own hown).mono (base' := w.heap.size) (by omega))
    clear hown
    obtain ⟨bR, bV⟩ := after_call HB.out.1 HB.out.2 ho hp
    have H2 := Lib.hid (And.intro hr (H1.out.2.trans ho))
    have v0 := bV.cell 0; have v1 := bV.cell 1; have v2 := bV.cell 2; have v3 := bV.cell 3; have v4 := bV.cell 4
    have r0 := bR.cell 0; have r1 := bR.cell 1; have r2 := bR.cell 2; have r3 := bR.cell 3; have r4 := bR.cell 4
    have f0 := bV.frozen 0; have f1 := bV.frozen 1; have f2 := bV.frozen 2; have f3 := bV.frozen 3; have f4 := bV.frozen 4
    have g0 := bR.frozen 0; have g1 := bR.frozen 1; have g2 := bR.frozen 2; have g3 := bR.frozen 3; have g4 := bR.frozen 4
    simp at v0 v1 v2 v3 v4 r0 r1 r2 r3 r4
    have BB := Lib.hid (And.intro bR bV)
    clear bR bV
    clear hr ho
    go_wp2
    have hfar : ∀ b, b ≠ w.heap.size → b ≠ w.heap.size + 1 → (decW0 (w2.setCell ⟨w.heap.size + 1, 4, none⟩ (.slice A Z.length c)) w.heap.size (.int .i64 5) (.int .u64 0) (.int .i64 0) (.slice none 0 0) (.slice A Z.length c)).heap[b]? = w2.heap[b]? := fun b h1 h2 => (decW0_far _ _ _ _ _ _ _ b h1).trans (Below.heap_setCell w2 ⟨w.heap.size + 1, 4, none⟩ _ b h2)
    have hB3 := decW0_blk (w2 := (w2.setCell ⟨w.heap.size + 1, 4, none⟩ (.slice A Z.length c))) (R := w.heap.size) (BB.out.1.same (Below.heap_setCell _ _ _ _ (by show w.heap.size ≠ w.heap.size + 1; omega))) (.int .i64 5) (.int .u64 0) (.int .i64 0) (.slice none 0 0) (.slice A Z.length c)
    have k0 := hB3.cell 0; have k1 := hB3.cell 1; have k2 := hB3.cell 2; have k3 := hB3.cell 3; have k4 := hB3.cell 4
    simp at k0 k1 k2 k3 k4
    refine bodyPost_ret (v := .agg #[.int .i64 5, .int .u64 0, .int .i64 0, .slice none 0 0, .slice A Z.length c]) (by simp [results, Try.results22, go_sem, k0, k1, k2, k3, k4]) rfl ?_
    exact dec_post rfl hp H2.out.1 H2.out.2 (SlT.nil_ _ _ _ _) HT.out BB.out.1 (.inr trivial) hfar (decW0_only (H2.out.2.setCell (p := ⟨w.heap.size + 1, 4, none⟩) (.inl (by show w.heap.size ≤ w.heap.size + 1; omega)) _) (Nat.le_refl _) _ _ _ _ _) ⟨_, BB.out.2⟩ _ rfl

end Go.Proofs.Ytfnpnomfdfdonaa
