/- The program's Path. Conditions: trees of at most 100000 nodes and 1000000000 bytes. -/
import Derived.Test.YtfecajeenmnoeaaSDp
import Derived.Test.YtfecajeenmnoeaaSCn
import Derived.Test.YtfecajeenmnoeaaRegH
namespace Go.Proofs.Ytfecajeenmnoeaa
open Go.RowKit Go.Shelf
set_option linter.unusedVariables false
attribute [local go_sem] Oper.semAt_some

/-- The leaf at a place holds the byte at the offset. -/
def Hit (o : Int) (s : Spot) : Prop := (s.off : Int) ≤ o ∧ o < (s.off : Int) + (s.nd.text.size : Int)
/-- What Path hands back. -/
def PathP (t : Nd) (o : Int) (w : World) (e : Ending) (w' : World) : Prop := Below w.heap.size w w' ∧
  ((∃ (k : Nat) (s : Spot) (v : Value), (lspots t)[k]? = some s ∧ (∀ j s', j < k → (lspots t)[j]? = some s' → ¬ Hit o s') ∧ Hit o s ∧ e = .returned (.tuple #[v, .bool true]) ∧ w'.ownsRow w.heap.size 3 1 v s.path.length (ints s.path)) ∨
   ((∀ s ∈ lspots t, ¬ Hit o s) ∧ e = .returned (.tuple #[.slice none 0 0, .bool false])))
mutual
theorem path_len : ∀ (t : Nd) (p : List Nat) (o : Nat), ∀ s ∈ spots t p o, s.path.length + s.nd.dep ≤ p.length + t.dep
  | .mk i k x ks, p, o, s, hs => by
    rw [spots] at hs
    rcases List.mem_cons.1 hs with rfl | hs
    · exact Nat.le_refl _
    · have := path_lenL ks p 0 _ s hs
      rw [Nd.dep]; omega
theorem path_lenL : ∀ (l : List Nd) (p : List Nat) (i o : Nat), ∀ s ∈ spotsL l p i o, s.path.length + s.nd.dep ≤ p.length + 1 + deps l
  | [], p, i, o, s, hs => by simp [spotsL] at hs
  | x :: l, p, i, o, s, hs => by
    rw [spotsL] at hs
    rcases List.mem_append.1 hs with hs | hs
    · have := path_len x (p ++ [i]) o s hs
      rw [List.length_append, List.length_singleton] at this
      rw [deps]; omega
    · have := path_lenL l p (i + 1) _ s hs
      rw [deps]; omega
end
mutual
theorem off_in : ∀ (t : Nd) (p : List Nat) (o : Nat), ∀ s ∈ spots t p o, o ≤ s.off ∧ s.off + s.nd.pw ≤ o + t.pw
  | .mk i k x ks, p, o, s, hs => by
    rw [spots] at hs
    rcases List.mem_cons.1 hs with rfl | hs
    · exact ⟨Nat.le_refl _, Nat.le_refl _⟩
    · have := off_inL ks p 0 _ s hs
      rw [Nd.pw]; omega
theorem off_inL : ∀ (l : List Nd) (p : List Nat) (i o : Nat), ∀ s ∈ spotsL l p i o, o ≤ s.off ∧ s.off + s.nd.pw ≤ o + pws l
  | [], p, i, o, s, hs => by simp [spotsL] at hs
  | x :: l, p, i, o, s, hs => by
    rw [spotsL] at hs
    rcases List.mem_append.1 hs with hs | hs
    · have := off_in x (p ++ [i]) o s hs
      rw [pws]; omega
    · have := off_inL l p (i + 1) _ s hs
      rw [pws]; omega
end
theorem off_leaf {t : Nd} {s : Spot} (h : s ∈ lspots t) : s.off + s.nd.text.size ≤ t.pw ∧ s.path.length ≤ t.dep := by
  obtain ⟨h1, h2⟩ := lspots_leaf h
  have h3 := off_in t [] 0 s h2
  have h4 := path_len t [] 0 s h2
  have h5 := s.nd.pw_eq
  rw [if_pos h1] at h5
  simp at h4
  omega

theorem boxed_on {w w' : World} {b : Nat} {t : TypeId} {v : Value} (h : Boxed w b t v) (hb : Below w.heap.size w w') : Boxed w' b t v := (hb.block b h.lt).trans h
/-- What the loop hands back where it has found the leaf. -/
def PaS (t : Nd) (o : Int) (q : Nat) (W2 : World) (T : Nat → Prop) (A : World) : Prop :=
  ∃ (k : Nat) (s : Spot) (v : Value), (lspots t)[k]? = some s ∧ (∀ j s', j < k → (lspots t)[j]? = some s' → ¬ Hit o s') ∧ Hit o s ∧ (∀ j, T j ↔ (j = q + 2 ∨ j = q + 3 ∨ v.ownBlock = some j)) ∧ Boxed A (q + 2) 22 v ∧ Boxed A (q + 3) 4 (.bool true) ∧ A.ownsRow (q + 5) 3 1 v s.path.length (ints s.path) ∧ Below (q + 2) W2 A ∧ q + 5 ≤ A.heap.size
theorem path_found {t : Nd} {o : Int} {q k : Nat} {W2 A w5 : World} {T : Nat → Prop} {s : Spot} {v : Value} (g1 : ∀ j, T j ↔ (j = q + 2 ∨ j = q + 3)) (g2 : ∀ j s', j < k → (lspots t)[j]? = some s' → ¬ Hit o s') (g3 : Boxed A (q + 2) 22 (.slice none 0 0)) (g4 : Boxed A (q + 3) 4 (.bool false)) (g5 : Below (q + 2) W2 A) (g6 : q + 5 ≤ A.heap.size)
    (hs : (lspots t)[k]? = some s) (hh : Hit o s) (hown : w5.ownsRow A.drew.heap.size 3 1 v s.path.length (ints s.path)) (b5 : Below A.drew.heap.size A.drew w5) :
    ∃ T', PaS t o q W2 T' ((w5.setCell ⟨q + 2, 0, none⟩ v).setCell ⟨q + 3, 0, none⟩ (.bool true)) ∧ Rnd T T' A ((w5.setCell ⟨q + 2, 0, none⟩ v).setCell ⟨q + 3, 0, none⟩ (.bool true)) := by
  have hz : A.heap.size ≤ w5.heap.size := b5.size
  have hb5 : Below A.heap.size A w5 := (Below.refl _ A).drew.trans b5
  have hol := hown.lt
  have hb : ∀ b, b ≠ q + 2 → b ≠ q + 3 → ((w5.setCell ⟨q + 2, 0, none⟩ v).setCell ⟨q + 3, 0, none⟩ (.bool true)).heap[b]? = w5.heap[b]? := fun b h1 h2 => (Below.heap_setCell _ ⟨q + 3, 0, none⟩ _ b h2).trans (Below.heap_setCell _ ⟨q + 2, 0, none⟩ _ b h1)
  have hs5 : ((w5.setCell ⟨q + 2, 0, none⟩ v).setCell ⟨q + 3, 0, none⟩ (.bool true)).heap.size = w5.heap.size := by simp [World.setCell]
  have e2 : Boxed w5 (q + 2) 22 (.slice none 0 0) := boxed_on g3 hb5
  have e3 : Boxed w5 (q + 3) 4 (.bool false) := boxed_on g4 hb5
  refine ⟨fun j => j = q + 2 ∨ j = q + 3 ∨ v.ownBlock = some j, ⟨k, s, v, hs, g2, hh, fun j => Iff.rfl, ?_, ?_, own_same (own_base2 hown (show q + 5 ≤ A.heap.size from g6)) (fun g hg => hb g (by have := (hol g hg).1; have : A.heap.size ≤ g := this; omega) (by have := (hol g hg).1; have : A.heap.size ≤ g := this; omega)), ?_, by rw [hs5]; omega⟩, by rw [hs5]; omega, fun j hj hT => ?_, fun j hj => ?_⟩
  · exact (Below.heap_setCell _ ⟨q + 3, 0, none⟩ _ (q + 2) (by show q + 2 ≠ q + 3; omega)).trans (e2.set _)
  · have : Boxed (w5.setCell ⟨q + 2, 0, none⟩ v) (q + 3) 4 (.bool false) := (Below.heap_setCell _ ⟨q + 2, 0, none⟩ _ (q + 3) (by show q + 3 ≠ q + 2; omega)).trans e3
    exact this.set _
  · exact ((g5.trans (hb5.mono (by omega))).setCell (p := ⟨q + 2, 0, none⟩) (by show q + 2 ≤ q + 2; omega) _).setCell (p := ⟨q + 3, 0, none⟩) (by show q + 2 ≤ q + 3; omega) _
  · exact (hb j (fun e => hT ((g1 j).2 (.inl e))) (fun e => hT ((g1 j).2 (.inr e)))).trans (hb5.block j hj)
  · rcases hj with h | h | h
    · exact .inl ((g1 j).2 (.inl h))
    · exact .inl ((g1 j).2 (.inr h))
    · exact .inr (hol j h).1

set_option maxRecDepth 100000 in
set_option maxHeartbeats 4000000 in
theorem ppath_any (t : Nd) (a : Option Addr) (n cap : Nat) (o : Int) (w : World) (G : Nat → Prop) (hK : KV G w a n cap t.kids) (hc : t.cnt ≤ 100000) (hw : t.pw ≤ 1000000000) (ho : -9223372036854775808 ≤ o ∧ o ≤ 9223372036854775807) :
    Calls Try.prog 33 #[ndv t a n cap, .int .i64 o] w (PathP t o w) := by
  obtain ⟨W1, hW1⟩ : ∃ W, w.alloc (.cells (ndc t a n cap) 25) = W := ⟨_, rfl⟩
  have b1 : Below w.heap.size w W1 := by rw [← hW1]; exact (Below.refl _ _).alloc (Nat.le_refl _) _
  have k1 : Blk W1 w.heap.size 25 (ndc t a n cap) := by rw [← hW1]; exact Blk.new _ _ _
  have hs1 : W1.heap.size = w.heap.size + 1 := by rw [← hW1]; simp
  obtain ⟨ad, had, hSH, hSI⟩ := root_ad hK b1 k1
  obtain ⟨q, hq⟩ : ∃ q, w.heap.size = q := ⟨_, rfl⟩
  rw [hq] at had hs1 b1
  obtain ⟨W2, hW2⟩ : ∃ W2, (((W1.alloc (.cells #[.int .i64 o] 3)).alloc (.cells #[.slice none 0 0] 22)).alloc (.cells #[.bool false] 4)).alloc (.cells #[.pointer (some ⟨q, 0, none⟩)] 82) = W2 := ⟨_, rfl⟩
  have b2 : Below (q + 1) W1 W2 := by rw [← hW2]; exact ((((Below.refl _ _).alloc (by omega) _).alloc (by simp; omega) _).alloc (by simp; omega) _).alloc (by simp; omega) _
  have hs2 : W2.heap.size = q + 5 := by rw [← hW2]; simp; omega
  have e1 : Boxed W2 (q + 1) 3 (.int .i64 o) := by rw [← hW2, ← hs1]; exact (((Boxed.new W1 _ _).alloc _).alloc _).alloc _
  have e3 : Boxed W2 (q + 2) 22 (.slice none 0 0) := by
    have := Boxed.new (W1.alloc (.cells #[.int .i64 o] 3)) 22 (.slice none 0 0)
    rw [World.size_alloc, hs1] at this
    rw [← hW2]; exact (this.alloc _).alloc _
  have e4 : Boxed W2 (q + 3) 4 (.bool false) := by
    have := Boxed.new ((W1.alloc (.cells #[.int .i64 o] 3)).alloc (.cells #[.slice none 0 0] 22)) 4 (.bool false)
    rw [World.size_alloc, World.size_alloc, hs1] at this
    rw [← hW2]; exact this.alloc _
  have e2 : Boxed W2 (q + 4) 82 (.pointer (some ⟨(ad []).1, (ad []).2, none⟩)) := by
    have := Boxed.new (((W1.alloc (.cells #[.int .i64 o] 3)).alloc (.cells #[.slice none 0 0] 22)).alloc (.cells #[.bool false] 4)) 82 (.pointer (some ⟨q, 0, none⟩))
    rw [World.size_alloc, World.size_alloc, World.size_alloc, hs1] at this
    rw [← hW2, had]; exact this
  have HG := Lib.hid (leaves_giw ad t (q + 4) W2 e2 hc hw)
  have HSH := Lib.hid hSH; have HQ := Lib.hid hq; have HB1 := Lib.hid b1; have HB2 := Lib.hid b2; have HS1 := Lib.hid hs1; have HS2 := Lib.hid hs2; have HE1 := Lib.hid e1; have HE3 := Lib.hid e3; have HE4 := Lib.hid e4; have HC := Lib.hid hc; have HP := Lib.hid hw
  have hmx : Try.prog.follows .mixedOrders = true := by kernel_rfl
  obtain ⟨id, hid⟩ : ∃ x, t.id = x := ⟨_, rfl⟩
  obtain ⟨kd, hkd⟩ : ∃ x, t.kind = x := ⟨_, rfl⟩
  obtain ⟨tx, htx⟩ : ∃ x, t.text = x := ⟨_, rfl⟩
  unfold ndv ndc at *
  rw [hid, hkd, htx] at hW1 ⊢
  have HW1 := Lib.hid hW1; have HW2 := Lib.hid hW2
  clear hK hc hw hW1 b1 k1 hs1 had hSH hSI hq hW2 b2 hs2 e1 e2 e3 e4 hid hkd htx
  refine (callsIn_wide (n := 0)).1 ?_
  refine callsIn_of_wp_marks Try.func33 rfl trivial ?_ rfl
  simp only [Try.ntmps33, List.size_toArray, List.length_cons, List.length_nil, Nat.reduceAdd, Nat.reduceSub, Array.replicate_succ, Array.replicate_zero, List.push_toArray, List.append_toArray, List.nil_append, List.cons_append]
  gi_wp2_with (first | (refine ⟨trivial, rfl, ?_⟩; gi_at_call 57; refine (callsIn_wide.2 (leaves_any _ _)).mono ?_; rintro e w' ⟨rfl, rfl⟩))
  rw [HW1.out, HQ.out, HW2.out]
  refine wpIn_giw (gf := 68) (lb := #[.pointer (some ⟨q + 1 + 1 + 1 + 1, 0, none⟩)]) rfl (enters_of Try.func68 (by kernel_rfl) rfl) HG.out rfl
    (fun k T A => (∀ j, T j ↔ (j = q + 2 ∨ j = q + 3)) ∧ (∀ j s', j < k → (lspots t)[j]? = some s' → ¬ Hit o s') ∧ Boxed A (q + 2) 22 (.slice none 0 0) ∧ Boxed A (q + 3) 4 (.bool false) ∧ Below (q + 2) W2 A ∧ q + 5 ≤ A.heap.size)
    (fun T A => PaS t o q W2 T A)
    ?hI ?hSt ?hS ?hSh (fun j => j = q + 2 ∨ j = q + 3) ?hT ?h0 ?hround ?hdone ?hret
  case hI =>
    rintro k T A C ⟨h1, h2, h3, h4, h5, h6⟩ ho
    rw [HS2.out] at ho
    exact ⟨h1, h2, (ho.block _ h3.lt (.inl (by omega))).trans h3, (ho.block _ h4.lt (.inl (by omega))).trans h4, h5.trans (ho.below (by omega) (by omega)), by have := ho.size; omega⟩
  case hSt =>
    rintro T A C ⟨k, s, v, h0, h1, h2, hT, h3, h4, h7, h5, h6⟩ ho
    rw [HS2.out] at ho
    exact ⟨k, s, v, h0, h1, h2, hT, (ho.block _ h3.lt (.inl (by omega))).trans h3, (ho.block _ h4.lt (.inl (by omega))).trans h4, own_same h7 (fun g hg => ho.block g (h7.lt g hg).2 (.inr ((hT g).2 (.inr (.inr hg))))), h5.trans (ho.below (by omega) (by omega)), by have := ho.size; omega⟩
  case hS =>
    rintro k T A ⟨h1, h2, h3, h4, h5, h6⟩ j hj
    have := (h1 j).1 hj; omega
  case hSh =>
    rintro k T A ⟨h1, h2, h3, h4, h5, h6⟩
    exact HSH.out.on (by rw [HS1.out]; exact HB2.out.trans (h5.mono (by omega)))
  case hT => intro k hk; rw [HS2.out]; omega
  case h0 => exact ⟨fun j => Iff.rfl, fun j s' hj => by omega, HE3.out, HE4.out, Below.refl _ _, by rw [HS2.out]; omega⟩
  case hround =>
    rintro l' k hk T A pa pc hl hlA hlr hTl ⟨h1, h2, h3, h4, h5, h6⟩ hrow hnR
    rw [HS2.out] at hl
    obtain ⟨s, hs⟩ : ∃ s, (lspots t)[k] = s := ⟨_, rfl⟩
    have hsk : (lspots t)[k]? = some s := by rw [← hs]; exact List.getElem?_eq_getElem hk
    have hsm := lspots_leaf (show s ∈ lspots t by rw [← hs]; exact List.getElem_mem hk)
    have hof := off_leaf (show s ∈ lspots t by rw [← hs]; exact List.getElem_mem hk)
    have hpw := HP.out
    have hpl : s.path.length ≤ 100000 := by have := Nd.dep_cnt t; have := HC.out; omega
    rw [hs] at hrow hnR ⊢
    refine ⟨?a1, ?W3, ?hb, ?asg, ?bo⟩
    case asg =>
      intro K hK
      gi_wp2
      exact hK
    case hb => exact (Below.refl _ _).alloc (Nat.le_refl _) _
    case bo =>
      intro A3 hA3 hsame hl3 hI3
      obtain ⟨g1, g2, g3, g4, g5, g6⟩ := hI3
      have hrow3 : A3.ownsRow (q + 5) 3 1 (.slice pa s.path.length pc) s.path.length (ints s.path) := by
        rw [HS2.out] at hrow
        refine own_base2 (own_same hrow (fun g hg => ?_)) (by omega)
        have hg2 := (hrow.lt g hg).2
        exact (hsame g (own_row_ne hrow hlr hg)).trans (((Below.refl _ A).alloc (Nat.le_refl _) _).block g hg2)
      have hS3 : SH A3 ad t [] := HSH.out.on (by rw [HS1.out]; exact HB2.out.trans (g5.mono (by omega)))
      have hS4 := SH.spot t.dep t [] 0 (Nat.le_refl _) hS3 s hsm.2
      have d1 := hS4.txt
      obtain ⟨b, hb⟩ : ∃ b, (ad s.path).1 = b := ⟨_, rfl⟩
      obtain ⟨f, hf⟩ : ∃ b, (ad s.path).2 = b := ⟨_, rfl⟩
      obtain ⟨x, hx⟩ : ∃ x, s.nd.text = x := ⟨_, rfl⟩
      obtain ⟨z, hz⟩ : ∃ z, s.off = z := ⟨_, rfl⟩
      obtain ⟨pn, hpn⟩ : ∃ z, s.path.length = z := ⟨_, rfl⟩
      have hBk : Blk A3 A.heap.size 84 #[.pointer (some ⟨b, f, none⟩), .slice pa pn pc, .int .i64 (z : Int)] := by
        rw [← hb, ← hf, ← hz, ← hpn]
        exact (hsame A.heap.size (by omega)).trans (Blk.new A _ _)
      have p0 := hBk.cell 0
      have p1 := hBk.cell 1
      have p2 := hBk.cell 2
      have eo : Boxed A3 (q + 1) 3 (.int .i64 o) := (g5.block (q + 1) (by omega)).trans HE1.out
      have c1 := eo.cell
      simp only [List.getElem?_toArray, List.getElem?_cons_zero, List.getElem?_cons_succ] at p0 p1 p2
      rw [hb, hf, hx] at d1
      rw [hb, hf, hz, hpn]
      rw [hz, hx] at hof
      have hzx : z + x.size ≤ 1000000000 := by omega
      have m1 : IntKind.i64.wrap ((z : Int) + (x.size : Int)) = (z : Int) + (x.size : Int) := by simp [IntKind.wrap, IntKind.signed, IntKind.bits]; omega
      have HNEXT : Hid (¬ Hit o s → ∃ T', ((∀ j, T' j ↔ (j = q + 2 ∨ j = q + 3)) ∧ (∀ j s', j < k + 1 → (lspots t)[j]? = some s' → ¬ Hit o s') ∧ Boxed A3.drew (q + 2) 22 (.slice none 0 0) ∧ Boxed A3.drew (q + 3) 4 (.bool false) ∧ Below (q + 2) W2 A3.drew ∧ q + 5 ≤ A3.drew.heap.size) ∧ Rnd T T' A3 A3.drew) := fun hn =>
        ⟨T, ⟨g1, fun j s' hj hjs => by
          by_cases hjk : j = k
          · subst hjk; rw [hsk] at hjs; cases hjs; exact hn
          · exact g2 j s' (by omega) hjs, g3, g4, g5.drew, g6⟩, ⟨Nat.le_refl _, fun j hj hT => rfl, fun j hj => .inl hj⟩⟩
      have f2 := g3.frozen
      have f3 := g4.frozen
      have y2 := g3.cell
      have y3 := g4.cell
      have HALL := Lib.hid (And.intro g1 (And.intro g2 (And.intro g3 (And.intro g4 (And.intro g5 g6)))))
      have HROW := Lib.hid hrow3
      have HPN := Lib.hid hpn
      have hpl' : pn ≤ 100000 := by omega
      have HHIT : Hid (Hit o s ↔ ((z : Int) ≤ o ∧ o < (z : Int) + (x.size : Int))) := by unfold Hit; rw [hz, hx]; exact Iff.rfl
      have HSK := Lib.hid hsk
      clear g1 g2 g3 g4 g5 hsame hrow hnR h1 h2 h3 h4 h5 hlr hS3 hS4 hBk hsm hof hx hz hpn hs hb hf hrow3 hsk eo hA3
      by_cases i1 : (z : Int) ≤ o
      · have j1 : decide ((z : Int) ≤ o) = true := by simp; omega
        by_cases i2 : o < (z : Int) + (x.size : Int)
        · have hh := HHIT.out.2 ⟨i1, i2⟩
          have HCL : Hid (Calls Try.prog 60 #[.slice pa pn pc] A3.drew fun e w' => ∃ v, e = .returned v ∧ w'.ownsRow A3.drew.heap.size 3 1 v pn (ints s.path) ∧ Below A3.drew.heap.size A3.drew w') := by
            have hr : A3.drew.ownsRow (q + 5) 3 1 (.slice pa s.path.length pc) s.path.length (ints s.path) := own_same HROW.out (fun _ _ => rfl)
            rw [HPN.out] at hr
            have hle : pn ≤ pc ∧ pc ≤ 9223372036854775807 := by
              rcases hr.2 with ⟨e, e0⟩ | ⟨g, c, cur, e, _, _, e4, e5, _⟩
              · simp only [Value.slice.injEq] at e; omega
              · simp only [Value.slice.injEq] at e; unfold maxLen at e5; omega
            refine cloneInt_any pa pn pc (ints s.path) A3.drew hpl' hle.1 hle.2 (by rw [List.length_map, HPN.out]; omega) (fun u hu => ?_) (fun e => ?_) (fun ad e => ?_)
            · obtain ⟨y, _, rfl⟩ := List.mem_map.1 hu; rfl
            · rcases hr.2 with ⟨_, e0⟩ | ⟨g, c, cur, e', _⟩
              · exact e0
              · rw [e] at e'; cases e'
            · subst e
              rcases hr.2 with ⟨e', e0⟩ | ⟨g, c, cur, e', _⟩
              · cases e'
              · simp only [Value.slice.injEq, Option.some.injEq] at e'
                obtain ⟨rfl, _, _⟩ := e'
                exact row_cells hr
          have HH := Lib.hid hh
          clear hh
          gi_wp2
          refine region_round (S := (fun V : World => V.cell? ⟨A.heap.size, 0, none⟩ = some (.pointer (some ⟨b, f, none⟩)) ∧ V.cell? ⟨A.heap.size, 2, none⟩ = some (.int .i64 (z : Int)) ∧ V.cell? ⟨q + 1, 0, none⟩ = some (.int .i64 o) ∧ V.cell? ⟨b, f + 2, none⟩ = some (.string x))) (by kernel_rfl) (by kernel_rfl) (fun ⟨_, _, h⟩ => h) ⟨p0, p2, c1, d1⟩ (fun hS0 => ?_)
          refine takeH (i := 0) (d := (some 9)) (v := ?_) rfl rfl (by kernel_rfl) (by kernel_rfl) (by kernel_rfl) (fun _ _ _ h => h) (Or.inl ⟨by kernel_rfl, ?_⟩) hS0 ?_
          rotate_left
          focus (intro w hSw; (try dsimp only at hSw); go_simp; first | done | with_reducible rfl)
          try simp only [Act.put]
          try simp only [List.setIfInBounds_toArray]
          try simp only [List.set_cons_succ]
          try simp only [List.set_cons_zero]
          refine takeH (i := 1) (d := (some 10)) (v := ?_) rfl rfl (by kernel_rfl) (by kernel_rfl) (by kernel_rfl) (fun _ _ _ h => h) (Or.inl ⟨by kernel_rfl, ?_⟩) hS0 ?_
          rotate_left
          focus (intro w hSw; (try dsimp only at hSw); go_simp; first | done | with_reducible rfl)
          try simp only [Act.put]
          try simp only [List.setIfInBounds_toArray]
          try simp only [List.set_cons_succ]
          try simp only [List.set_cons_zero]
          refine takeH (i := 2) (d := (some 11)) (v := ?_) rfl rfl (by kernel_rfl) (by kernel_rfl) (by kernel_rfl) (fun _ _ _ h => h) (Or.inl ⟨by kernel_rfl, ?_⟩) hS0 ?_
          rotate_left
          focus (intro w hSw; (try dsimp only at hSw); go_simp; first | done | with_reducible rfl)
          try simp only [Act.put]
          try simp only [List.setIfInBounds_toArray]
          try simp only [List.set_cons_succ]
          try simp only [List.set_cons_zero]
          refine takeH (i := 3) (d := (some 12)) (v := ?_) rfl rfl (by kernel_rfl) (by kernel_rfl) (by kernel_rfl) (fun _ _ _ h => h) (Or.inl ⟨by kernel_rfl, ?_⟩) hS0 ?_
          rotate_left
          focus (intro w hSw; (try dsimp only at hSw); go_simp; first | done | with_reducible rfl)
          try simp only [Act.put]
          try simp only [List.setIfInBounds_toArray]
          try simp only [List.set_cons_succ]
          try simp only [List.set_cons_zero]
          refine takeH (i := 4) (d := (some 13)) (v := ?_) rfl rfl (by kernel_rfl) (by kernel_rfl) (by kernel_rfl) (fun _ _ _ h => h) (Or.inl ⟨by kernel_rfl, ?_⟩) hS0 ?_
          rotate_left
          focus (intro w hSw; (try dsimp only at hSw); go_simp; first | done | with_reducible rfl)
          try simp only [Act.put]
          try simp only [List.setIfInBounds_toArray]
          try simp only [List.set_cons_succ]
          try simp only [List.set_cons_zero]
          refine takeH (i := 5) (d := (some 14)) (v := ?_) rfl rfl (by kernel_rfl) (by kernel_rfl) (by kernel_rfl) (fun _ _ _ h => h) (Or.inl ⟨by kernel_rfl, ?_⟩) hS0 ?_
          rotate_left
          focus (intro w hSw; (try dsimp only at hSw); go_simp; first | done | with_reducible rfl)
          try simp only [Act.put]
          try simp only [List.setIfInBounds_toArray]
          try simp only [List.set_cons_succ]
          try simp only [List.set_cons_zero]
          refine takeH (i := 6) (d := (some 15)) (v := ?_) rfl rfl (by kernel_rfl) (by kernel_rfl) (by kernel_rfl) (fun _ _ _ h => h) (Or.inl ⟨by kernel_rfl, ?_⟩) hS0 ?_
          rotate_left
          focus (intro w hSw; (try dsimp only at hSw); go_simp; first | done | with_reducible rfl)
          try simp only [Act.put]
          try simp only [List.setIfInBounds_toArray]
          try simp only [List.set_cons_succ]
          try simp only [List.set_cons_zero]
          refine takeH (i := 7) (d := (some 16)) (v := ?_) rfl rfl (by kernel_rfl) (by kernel_rfl) (by kernel_rfl) (fun _ _ _ h => h) (Or.inl ⟨by kernel_rfl, ?_⟩) hS0 ?_
          rotate_left
          focus (intro w hSw; (try dsimp only at hSw); go_simp; first | done | with_reducible rfl)
          try simp only [Act.put]
          try simp only [List.setIfInBounds_toArray]
          try simp only [List.set_cons_succ]
          try simp only [List.set_cons_zero]
          refine takeH (i := 8) (d := (some 17)) (v := ?_) rfl rfl (by kernel_rfl) (by kernel_rfl) (by kernel_rfl) (fun _ _ _ h => h) (Or.inl ⟨by kernel_rfl, ?_⟩) hS0 ?_
          rotate_left
          focus (intro w hSw; (try dsimp only at hSw); go_simp; first | done | with_reducible rfl)
          try simp only [Act.put]
          try simp only [List.setIfInBounds_toArray]
          try simp only [List.set_cons_succ]
          try simp only [List.set_cons_zero]
          refine takeH (i := 9) (d := (some 18)) (v := ?_) rfl rfl (by kernel_rfl) (by kernel_rfl) (by kernel_rfl) (fun _ _ _ h => h) (Or.inl ⟨by kernel_rfl, ?_⟩) hS0 ?_
          rotate_left
          focus (intro w hSw; (try dsimp only at hSw); go_simp; first | done | with_reducible rfl)
          try simp only [Act.put]
          try simp only [List.setIfInBounds_toArray]
          try simp only [List.set_cons_succ]
          try simp only [List.set_cons_zero]
          refine takeH (i := 10) (d := (some 19)) (v := ?_) rfl rfl (by kernel_rfl) (by kernel_rfl) (by kernel_rfl) (fun _ _ _ h => h) (Or.inl ⟨by kernel_rfl, ?_⟩) hS0 ?_
          rotate_left
          focus (intro w hSw; (try dsimp only at hSw); go_simp; first | done | with_reducible rfl)
          try simp only [Act.put]
          try simp only [List.setIfInBounds_toArray]
          try simp only [List.set_cons_succ]
          try simp only [List.set_cons_zero]
          refine takeH (i := 11) (d := (some 20)) (v := ?_) rfl rfl (by kernel_rfl) (by kernel_rfl) (by kernel_rfl) (fun _ _ _ h => h) (Or.inl ⟨by kernel_rfl, ?_⟩) hS0 ?_
          rotate_left
          focus (intro w hSw; (try dsimp only at hSw); go_simp; first | done | with_reducible rfl)
          try simp only [Act.put]
          try simp only [List.setIfInBounds_toArray]
          try simp only [List.set_cons_succ]
          try simp only [List.set_cons_zero]
          refine takeH (i := 12) (d := (some 21)) (v := ?_) rfl rfl (by kernel_rfl) (by kernel_rfl) (by kernel_rfl) (fun _ _ _ h => h) (Or.inl ⟨by kernel_rfl, ?_⟩) hS0 ?_
          rotate_left
          focus (intro w hSw; (try dsimp only at hSw); go_simp; first | done | with_reducible rfl)
          try simp only [Act.put]
          try simp only [List.setIfInBounds_toArray]
          try simp only [List.set_cons_succ]
          try simp only [List.set_cons_zero]
          refine takeH (i := 13) (d := (some 22)) (v := ?_) rfl rfl (by kernel_rfl) (by kernel_rfl) (by kernel_rfl) (fun _ _ _ h => h) (Or.inl ⟨by kernel_rfl, ?_⟩) hS0 ?_
          rotate_left
          focus (intro w hSw; (try dsimp only at hSw); go_simp; first | done | with_reducible rfl)
          try simp only [Act.put]
          try simp only [List.setIfInBounds_toArray]
          try simp only [List.set_cons_succ]
          try simp only [List.set_cons_zero]
          refine takeH (i := 14) (d := (some 23)) (v := ?_) rfl rfl (by kernel_rfl) (by kernel_rfl) (by kernel_rfl) (fun _ _ _ h => h) (Or.inl ⟨by kernel_rfl, ?_⟩) hS0 ?_
          rotate_left
          focus (intro w hSw; (try dsimp only at hSw); go_simp; first | done | with_reducible rfl)
          try simp only [Act.put]
          try simp only [List.setIfInBounds_toArray]
          try simp only [List.set_cons_succ]
          try simp only [List.set_cons_zero]
          refine takeH (i := 15) (d := (some 24)) (v := ?_) rfl rfl (by kernel_rfl) (by kernel_rfl) (by kernel_rfl) (fun _ _ _ h => h) (Or.inl ⟨by kernel_rfl, ?_⟩) hS0 ?_
          rotate_left
          focus (intro w hSw; (try dsimp only at hSw); go_simp; first | done | with_reducible rfl)
          try simp only [Act.put]
          try simp only [List.setIfInBounds_toArray]
          try simp only [List.set_cons_succ]
          try simp only [List.set_cons_zero]
          refine takeH (i := 16) (d := (some 25)) (v := ?_) rfl rfl (by kernel_rfl) (by kernel_rfl) (by kernel_rfl) (fun _ _ _ h => h) (Or.inl ⟨by kernel_rfl, ?_⟩) hS0 ?_
          rotate_left
          focus (intro w hSw; (try dsimp only at hSw); go_simp; first | done | with_reducible rfl)
          try simp only [Act.put]
          try simp only [List.setIfInBounds_toArray]
          try simp only [List.set_cons_succ]
          try simp only [List.set_cons_zero]
          refine wpAnyH_done (by kernel_rfl) ?_ _
          gi_wp2_with (first | (refine ⟨trivial, rfl, ?_⟩; gi_at_call 60; refine (CallsIn.inRound l' (callsIn_wide.2 HCL.out)).mono ?_; rintro e w5 ⟨v5, rfl, hown5, b5⟩; have z5 := b5.size; obtain ⟨av5, cv5, rfl⟩ := own_slice hown5; have w2 : Boxed w5 (q + 2) 22 (.slice none 0 0) := boxed_on HALL.out.2.2.1 ((Below.refl _ A3).drew.trans b5); have w3 : Boxed w5 (q + 3) 4 (.bool false) := boxed_on HALL.out.2.2.2.1 ((Below.refl _ A3).drew.trans b5); have u2 := w2.cell; have u3 := w3.cell; have v2 := w2.frozen; have v3 := w3.frozen; clear w2 w3; have HOWN := Lib.hid hown5; have HB5 := Lib.hid b5; clear hown5 b5))
          exact path_found HALL.out.1 HALL.out.2.1 HALL.out.2.2.1 HALL.out.2.2.2.1 HALL.out.2.2.2.2.1 HALL.out.2.2.2.2.2 HSK.out HH.out (by rw [HPN.out]; exact HOWN.out) HB5.out
        · have hn := HNEXT.out (fun h => i2 (HHIT.out.1 h).2)
          have HN := Lib.hid hn
          clear hn
          gi_wp2
          refine region_round (S := (fun V : World => V.cell? ⟨A.heap.size, 0, none⟩ = some (.pointer (some ⟨b, f, none⟩)) ∧ V.cell? ⟨A.heap.size, 2, none⟩ = some (.int .i64 (z : Int)) ∧ V.cell? ⟨q + 1, 0, none⟩ = some (.int .i64 o) ∧ V.cell? ⟨b, f + 2, none⟩ = some (.string x))) (by kernel_rfl) (by kernel_rfl) (fun ⟨_, _, h⟩ => h) ⟨p0, p2, c1, d1⟩ (fun hS0 => ?_)
          refine takeH (i := 0) (d := (some 9)) (v := ?_) rfl rfl (by kernel_rfl) (by kernel_rfl) (by kernel_rfl) (fun _ _ _ h => h) (Or.inl ⟨by kernel_rfl, ?_⟩) hS0 ?_
          rotate_left
          focus (intro w hSw; (try dsimp only at hSw); go_simp; first | done | with_reducible rfl)
          try simp only [Act.put]
          try simp only [List.setIfInBounds_toArray]
          try simp only [List.set_cons_succ]
          try simp only [List.set_cons_zero]
          refine takeH (i := 1) (d := (some 10)) (v := ?_) rfl rfl (by kernel_rfl) (by kernel_rfl) (by kernel_rfl) (fun _ _ _ h => h) (Or.inl ⟨by kernel_rfl, ?_⟩) hS0 ?_
          rotate_left
          focus (intro w hSw; (try dsimp only at hSw); go_simp; first | done | with_reducible rfl)
          try simp only [Act.put]
          try simp only [List.setIfInBounds_toArray]
          try simp only [List.set_cons_succ]
          try simp only [List.set_cons_zero]
          refine takeH (i := 2) (d := (some 11)) (v := ?_) rfl rfl (by kernel_rfl) (by kernel_rfl) (by kernel_rfl) (fun _ _ _ h => h) (Or.inl ⟨by kernel_rfl, ?_⟩) hS0 ?_
          rotate_left
          focus (intro w hSw; (try dsimp only at hSw); go_simp; first | done | with_reducible rfl)
          try simp only [Act.put]
          try simp only [List.setIfInBounds_toArray]
          try simp only [List.set_cons_succ]
          try simp only [List.set_cons_zero]
          refine takeH (i := 3) (d := (some 12)) (v := ?_) rfl rfl (by kernel_rfl) (by kernel_rfl) (by kernel_rfl) (fun _ _ _ h => h) (Or.inl ⟨by kernel_rfl, ?_⟩) hS0 ?_
          rotate_left
          focus (intro w hSw; (try dsimp only at hSw); go_simp; first | done | with_reducible rfl)
          try simp only [Act.put]
          try simp only [List.setIfInBounds_toArray]
          try simp only [List.set_cons_succ]
          try simp only [List.set_cons_zero]
          refine takeH (i := 4) (d := (some 13)) (v := ?_) rfl rfl (by kernel_rfl) (by kernel_rfl) (by kernel_rfl) (fun _ _ _ h => h) (Or.inl ⟨by kernel_rfl, ?_⟩) hS0 ?_
          rotate_left
          focus (intro w hSw; (try dsimp only at hSw); go_simp; first | done | with_reducible rfl)
          try simp only [Act.put]
          try simp only [List.setIfInBounds_toArray]
          try simp only [List.set_cons_succ]
          try simp only [List.set_cons_zero]
          refine takeH (i := 5) (d := (some 14)) (v := ?_) rfl rfl (by kernel_rfl) (by kernel_rfl) (by kernel_rfl) (fun _ _ _ h => h) (Or.inl ⟨by kernel_rfl, ?_⟩) hS0 ?_
          rotate_left
          focus (intro w hSw; (try dsimp only at hSw); go_simp; first | done | with_reducible rfl)
          try simp only [Act.put]
          try simp only [List.setIfInBounds_toArray]
          try simp only [List.set_cons_succ]
          try simp only [List.set_cons_zero]
          refine takeH (i := 6) (d := (some 15)) (v := ?_) rfl rfl (by kernel_rfl) (by kernel_rfl) (by kernel_rfl) (fun _ _ _ h => h) (Or.inl ⟨by kernel_rfl, ?_⟩) hS0 ?_
          rotate_left
          focus (intro w hSw; (try dsimp only at hSw); go_simp; first | done | with_reducible rfl)
          try simp only [Act.put]
          try simp only [List.setIfInBounds_toArray]
          try simp only [List.set_cons_succ]
          try simp only [List.set_cons_zero]
          refine takeH (i := 7) (d := (some 16)) (v := ?_) rfl rfl (by kernel_rfl) (by kernel_rfl) (by kernel_rfl) (fun _ _ _ h => h) (Or.inl ⟨by kernel_rfl, ?_⟩) hS0 ?_
          rotate_left
          focus (intro w hSw; (try dsimp only at hSw); go_simp; first | done | with_reducible rfl)
          try simp only [Act.put]
          try simp only [List.setIfInBounds_toArray]
          try simp only [List.set_cons_succ]
          try simp only [List.set_cons_zero]
          refine takeH (i := 8) (d := (some 17)) (v := ?_) rfl rfl (by kernel_rfl) (by kernel_rfl) (by kernel_rfl) (fun _ _ _ h => h) (Or.inl ⟨by kernel_rfl, ?_⟩) hS0 ?_
          rotate_left
          focus (intro w hSw; (try dsimp only at hSw); go_simp; first | done | with_reducible rfl)
          try simp only [Act.put]
          try simp only [List.setIfInBounds_toArray]
          try simp only [List.set_cons_succ]
          try simp only [List.set_cons_zero]
          refine takeH (i := 9) (d := (some 18)) (v := ?_) rfl rfl (by kernel_rfl) (by kernel_rfl) (by kernel_rfl) (fun _ _ _ h => h) (Or.inl ⟨by kernel_rfl, ?_⟩) hS0 ?_
          rotate_left
          focus (intro w hSw; (try dsimp only at hSw); go_simp; first | done | with_reducible rfl)
          try simp only [Act.put]
          try simp only [List.setIfInBounds_toArray]
          try simp only [List.set_cons_succ]
          try simp only [List.set_cons_zero]
          refine takeH (i := 10) (d := (some 19)) (v := ?_) rfl rfl (by kernel_rfl) (by kernel_rfl) (by kernel_rfl) (fun _ _ _ h => h) (Or.inl ⟨by kernel_rfl, ?_⟩) hS0 ?_
          rotate_left
          focus (intro w hSw; (try dsimp only at hSw); go_simp; first | done | with_reducible rfl)
          try simp only [Act.put]
          try simp only [List.setIfInBounds_toArray]
          try simp only [List.set_cons_succ]
          try simp only [List.set_cons_zero]
          refine takeH (i := 11) (d := (some 20)) (v := ?_) rfl rfl (by kernel_rfl) (by kernel_rfl) (by kernel_rfl) (fun _ _ _ h => h) (Or.inl ⟨by kernel_rfl, ?_⟩) hS0 ?_
          rotate_left
          focus (intro w hSw; (try dsimp only at hSw); go_simp; first | done | with_reducible rfl)
          try simp only [Act.put]
          try simp only [List.setIfInBounds_toArray]
          try simp only [List.set_cons_succ]
          try simp only [List.set_cons_zero]
          refine takeH (i := 12) (d := (some 21)) (v := ?_) rfl rfl (by kernel_rfl) (by kernel_rfl) (by kernel_rfl) (fun _ _ _ h => h) (Or.inl ⟨by kernel_rfl, ?_⟩) hS0 ?_
          rotate_left
          focus (intro w hSw; (try dsimp only at hSw); go_simp; first | done | with_reducible rfl)
          try simp only [Act.put]
          try simp only [List.setIfInBounds_toArray]
          try simp only [List.set_cons_succ]
          try simp only [List.set_cons_zero]
          refine takeH (i := 13) (d := (some 22)) (v := ?_) rfl rfl (by kernel_rfl) (by kernel_rfl) (by kernel_rfl) (fun _ _ _ h => h) (Or.inl ⟨by kernel_rfl, ?_⟩) hS0 ?_
          rotate_left
          focus (intro w hSw; (try dsimp only at hSw); go_simp; first | done | with_reducible rfl)
          try simp only [Act.put]
          try simp only [List.setIfInBounds_toArray]
          try simp only [List.set_cons_succ]
          try simp only [List.set_cons_zero]
          refine takeH (i := 14) (d := (some 23)) (v := ?_) rfl rfl (by kernel_rfl) (by kernel_rfl) (by kernel_rfl) (fun _ _ _ h => h) (Or.inl ⟨by kernel_rfl, ?_⟩) hS0 ?_
          rotate_left
          focus (intro w hSw; (try dsimp only at hSw); go_simp; first | done | with_reducible rfl)
          try simp only [Act.put]
          try simp only [List.setIfInBounds_toArray]
          try simp only [List.set_cons_succ]
          try simp only [List.set_cons_zero]
          refine takeH (i := 15) (d := (some 24)) (v := ?_) rfl rfl (by kernel_rfl) (by kernel_rfl) (by kernel_rfl) (fun _ _ _ h => h) (Or.inl ⟨by kernel_rfl, ?_⟩) hS0 ?_
          rotate_left
          focus (intro w hSw; (try dsimp only at hSw); go_simp; first | done | with_reducible rfl)
          try simp only [Act.put]
          try simp only [List.setIfInBounds_toArray]
          try simp only [List.set_cons_succ]
          try simp only [List.set_cons_zero]
          refine takeH (i := 16) (d := (some 25)) (v := ?_) rfl rfl (by kernel_rfl) (by kernel_rfl) (by kernel_rfl) (fun _ _ _ h => h) (Or.inl ⟨by kernel_rfl, ?_⟩) hS0 ?_
          rotate_left
          focus (intro w hSw; (try dsimp only at hSw); go_simp; first | done | with_reducible rfl)
          try simp only [Act.put]
          try simp only [List.setIfInBounds_toArray]
          try simp only [List.set_cons_succ]
          try simp only [List.set_cons_zero]
          refine wpAnyH_done (by kernel_rfl) ?_ _
          gi_wp2
          exact HN.out
      · have j1 : decide ((z : Int) ≤ o) = false := by simp; omega
        have hn := HNEXT.out (fun h => i1 (HHIT.out.1 h).1)
        have HN := Lib.hid hn
        clear hn
        gi_wp2
        refine region_round (S := (fun V : World => V.cell? ⟨A.heap.size, 0, none⟩ = some (.pointer (some ⟨b, f, none⟩)) ∧ V.cell? ⟨A.heap.size, 2, none⟩ = some (.int .i64 (z : Int)) ∧ V.cell? ⟨q + 1, 0, none⟩ = some (.int .i64 o) ∧ V.cell? ⟨b, f + 2, none⟩ = some (.string x))) (by kernel_rfl) (by kernel_rfl) (fun ⟨_, _, h⟩ => h) ⟨p0, p2, c1, d1⟩ (fun hS0 => ?_)
        refine takeH (i := 0) (d := (some 9)) (v := ?_) rfl rfl (by kernel_rfl) (by kernel_rfl) (by kernel_rfl) (fun _ _ _ h => h) (Or.inl ⟨by kernel_rfl, ?_⟩) hS0 ?_
        rotate_left
        focus (intro w hSw; (try dsimp only at hSw); go_simp; first | done | with_reducible rfl)
        try simp only [Act.put]
        try simp only [List.setIfInBounds_toArray]
        try simp only [List.set_cons_succ]
        try simp only [List.set_cons_zero]
        refine takeH (i := 1) (d := (some 10)) (v := ?_) rfl rfl (by kernel_rfl) (by kernel_rfl) (by kernel_rfl) (fun _ _ _ h => h) (Or.inl ⟨by kernel_rfl, ?_⟩) hS0 ?_
        rotate_left
        focus (intro w hSw; (try dsimp only at hSw); go_simp; first | done | with_reducible rfl)
        try simp only [Act.put]
        try simp only [List.setIfInBounds_toArray]
        try simp only [List.set_cons_succ]
        try simp only [List.set_cons_zero]
        refine takeH (i := 2) (d := (some 11)) (v := ?_) rfl rfl (by kernel_rfl) (by kernel_rfl) (by kernel_rfl) (fun _ _ _ h => h) (Or.inl ⟨by kernel_rfl, ?_⟩) hS0 ?_
        rotate_left
        focus (intro w hSw; (try dsimp only at hSw); go_simp; first | done | with_reducible rfl)
        try simp only [Act.put]
        try simp only [List.setIfInBounds_toArray]
        try simp only [List.set_cons_succ]
        try simp only [List.set_cons_zero]
        refine takeH (i := 3) (d := (some 12)) (v := ?_) rfl rfl (by kernel_rfl) (by kernel_rfl) (by kernel_rfl) (fun _ _ _ h => h) (Or.inl ⟨by kernel_rfl, ?_⟩) hS0 ?_
        rotate_left
        focus (intro w hSw; (try dsimp only at hSw); go_simp; first | done | with_reducible rfl)
        try simp only [Act.put]
        try simp only [List.setIfInBounds_toArray]
        try simp only [List.set_cons_succ]
        try simp only [List.set_cons_zero]
        refine takeH (i := 4) (d := (some 13)) (v := ?_) rfl rfl (by kernel_rfl) (by kernel_rfl) (by kernel_rfl) (fun _ _ _ h => h) (Or.inl ⟨by kernel_rfl, ?_⟩) hS0 ?_
        rotate_left
        focus (intro w hSw; (try dsimp only at hSw); go_simp; first | done | with_reducible rfl)
        try simp only [Act.put]
        try simp only [List.setIfInBounds_toArray]
        try simp only [List.set_cons_succ]
        try simp only [List.set_cons_zero]
        refine takeH (i := 5) (d := (some 14)) (v := undef) rfl rfl (by kernel_rfl) (by kernel_rfl) (by kernel_rfl) (fun _ _ _ h => h) (Or.inr ⟨by kernel_rfl, rfl⟩) hS0 ?_
        try simp only [Act.put]
        try simp only [List.setIfInBounds_toArray]
        try simp only [List.set_cons_succ]
        try simp only [List.set_cons_zero]
        refine takeH (i := 6) (d := (some 15)) (v := undef) rfl rfl (by kernel_rfl) (by kernel_rfl) (by kernel_rfl) (fun _ _ _ h => h) (Or.inr ⟨by kernel_rfl, rfl⟩) hS0 ?_
        try simp only [Act.put]
        try simp only [List.setIfInBounds_toArray]
        try simp only [List.set_cons_succ]
        try simp only [List.set_cons_zero]
        refine takeH (i := 7) (d := (some 16)) (v := undef) rfl rfl (by kernel_rfl) (by kernel_rfl) (by kernel_rfl) (fun _ _ _ h => h) (Or.inr ⟨by kernel_rfl, rfl⟩) hS0 ?_
        try simp only [Act.put]
        try simp only [List.setIfInBounds_toArray]
        try simp only [List.set_cons_succ]
        try simp only [List.set_cons_zero]
        refine takeH (i := 8) (d := (some 17)) (v := undef) rfl rfl (by kernel_rfl) (by kernel_rfl) (by kernel_rfl) (fun _ _ _ h => h) (Or.inr ⟨by kernel_rfl, rfl⟩) hS0 ?_
        try simp only [Act.put]
        try simp only [List.setIfInBounds_toArray]
        try simp only [List.set_cons_succ]
        try simp only [List.set_cons_zero]
        refine takeH (i := 9) (d := (some 18)) (v := undef) rfl rfl (by kernel_rfl) (by kernel_rfl) (by kernel_rfl) (fun _ _ _ h => h) (Or.inr ⟨by kernel_rfl, rfl⟩) hS0 ?_
        try simp only [Act.put]
        try simp only [List.setIfInBounds_toArray]
        try simp only [List.set_cons_succ]
        try simp only [List.set_cons_zero]
        refine takeH (i := 10) (d := (some 19)) (v := undef) rfl rfl (by kernel_rfl) (by kernel_rfl) (by kernel_rfl) (fun _ _ _ h => h) (Or.inr ⟨by kernel_rfl, rfl⟩) hS0 ?_
        try simp only [Act.put]
        try simp only [List.setIfInBounds_toArray]
        try simp only [List.set_cons_succ]
        try simp only [List.set_cons_zero]
        refine takeH (i := 11) (d := (some 20)) (v := undef) rfl rfl (by kernel_rfl) (by kernel_rfl) (by kernel_rfl) (fun _ _ _ h => h) (Or.inr ⟨by kernel_rfl, rfl⟩) hS0 ?_
        try simp only [Act.put]
        try simp only [List.setIfInBounds_toArray]
        try simp only [List.set_cons_succ]
        try simp only [List.set_cons_zero]
        refine takeH (i := 12) (d := (some 21)) (v := undef) rfl rfl (by kernel_rfl) (by kernel_rfl) (by kernel_rfl) (fun _ _ _ h => h) (Or.inr ⟨by kernel_rfl, rfl⟩) hS0 ?_
        try simp only [Act.put]
        try simp only [List.setIfInBounds_toArray]
        try simp only [List.set_cons_succ]
        try simp only [List.set_cons_zero]
        refine takeH (i := 13) (d := (some 22)) (v := undef) rfl rfl (by kernel_rfl) (by kernel_rfl) (by kernel_rfl) (fun _ _ _ h => h) (Or.inr ⟨by kernel_rfl, rfl⟩) hS0 ?_
        try simp only [Act.put]
        try simp only [List.setIfInBounds_toArray]
        try simp only [List.set_cons_succ]
        try simp only [List.set_cons_zero]
        refine takeH (i := 14) (d := (some 23)) (v := undef) rfl rfl (by kernel_rfl) (by kernel_rfl) (by kernel_rfl) (fun _ _ _ h => h) (Or.inr ⟨by kernel_rfl, rfl⟩) hS0 ?_
        try simp only [Act.put]
        try simp only [List.setIfInBounds_toArray]
        try simp only [List.set_cons_succ]
        try simp only [List.set_cons_zero]
        refine takeH (i := 15) (d := (some 24)) (v := undef) rfl rfl (by kernel_rfl) (by kernel_rfl) (by kernel_rfl) (fun _ _ _ h => h) (Or.inr ⟨by kernel_rfl, rfl⟩) hS0 ?_
        try simp only [Act.put]
        try simp only [List.setIfInBounds_toArray]
        try simp only [List.set_cons_succ]
        try simp only [List.set_cons_zero]
        refine takeH (i := 16) (d := (some 25)) (v := ?_) rfl rfl (by kernel_rfl) (by kernel_rfl) (by kernel_rfl) (fun _ _ _ h => h) (Or.inl ⟨by kernel_rfl, ?_⟩) hS0 ?_
        rotate_left
        focus (intro w hSw; (try dsimp only at hSw); go_simp; first | done | with_reducible rfl)
        try simp only [Act.put]
        try simp only [List.setIfInBounds_toArray]
        try simp only [List.set_cons_succ]
        try simp only [List.set_cons_zero]
        refine wpAnyH_done (by kernel_rfl) ?_ _
        gi_wp2
        exact HN.out
  case hdone =>
    rintro T A hA ⟨h1, h2, h3, h4, h5, h6⟩ hTw hK
    have c2 := h3.cell
    have c3 := h4.cell
    have f2 := h3.frozen
    have f3 := h4.frozen
    rw [HS2.out] at hK
    gi_wp2
    obtain ⟨W8, hW8⟩ : ∃ W, (A.setCell ⟨q + 2, 0, none⟩ (.slice none 0 0)).setCell ⟨q + 3, 0, none⟩ (.bool false) = W := ⟨_, rfl⟩
    have hK8 : W8.heap[q + 5]? = some (.deferred (some [])) := by rw [← hW8]; exact ((Below.heap_setCell _ ⟨q + 3, 0, none⟩ _ (q + 5) (by show q + 5 ≠ q + 3; omega)).trans (Below.heap_setCell _ ⟨q + 2, 0, none⟩ _ (q + 5) (by show q + 5 ≠ q + 2; omega))).trans hK
    have r2 : Boxed W8 (q + 2) 22 (.slice none 0 0) := by rw [← hW8]; exact (Below.heap_setCell _ ⟨q + 3, 0, none⟩ _ (q + 2) (by show q + 2 ≠ q + 3; omega)).trans (h3.set _)
    have r3 : Boxed W8 (q + 3) 4 (.bool false) := by
      rw [← hW8]
      have : Boxed (A.setCell ⟨q + 2, 0, none⟩ (.slice none 0 0)) (q + 3) 4 (.bool false) := (Below.heap_setCell _ ⟨q + 2, 0, none⟩ _ (q + 3) (by show q + 3 ≠ q + 2; omega)).trans h4
      exact this.set _
    have hb8 : Below q w W8 := by rw [← hW8]; exact (((HB1.out.trans (HB2.out.mono (by omega))).trans (h5.mono (by omega))).setCell (p := ⟨q + 2, 0, none⟩) (by show q ≤ q + 2; omega) _).setCell (p := ⟨q + 3, 0, none⟩) (by show q ≤ q + 3; omega) _
    have hF : PathP t o w (.returned (.tuple #[.slice none 0 0, .bool false])) (W8.putObj W2.heap.size (.deferred none)) := by
      refine ⟨by rw [HQ.out]; exact hb8.trans ⟨rfl, rfl, rfl, by simp, fun k hk => World.putObj_heap_other (by rw [HS2.out]; omega)⟩, .inr ⟨fun s hs => ?_, rfl⟩⟩
      obtain ⟨j, hj⟩ := List.getElem?_of_mem hs
      exact h2 j s (List.getElem?_eq_some_iff.1 hj).1 hj
    have r2' : (W8.putObj W2.heap.size (.deferred none)).cell? ⟨q + 2, 0, none⟩ = some (.slice none 0 0) := (show Boxed _ (q + 2) 22 _ from (World.putObj_heap_other (by rw [HS2.out]; omega)).trans r2).cell
    have r3' : (W8.putObj W2.heap.size (.deferred none)).cell? ⟨q + 3, 0, none⟩ = some (.bool false) := (show Boxed _ (q + 3) 4 _ from (World.putObj_heap_other (by rw [HS2.out]; omega)).trans r3).cell
    rw [show ((A.setCell ⟨q + 1 + 1, 0, none⟩ (.slice none 0 0)).setCell ⟨q + 1 + 1 + 1, 0, none⟩ (.bool false)) = W8 from hW8]
    refine ⟨by simp, .inl ⟨_, _, rfl, run_takeDeferred (by rw [HS2.out]; exact hK8), ?_⟩⟩
    exact ⟨.tuple #[.slice none 0 0, .bool false], by simp [results, Try.results33, go_sem, r2', r3'], hF⟩
  case hret =>
    rintro T A hA ⟨k, s, v, h0, h1, h2, hT, h3, h4, h7, h5, h6⟩ hTw hK
    rw [HS2.out] at hA
    have hb8 : Below q w A := (HB1.out.trans (HB2.out.mono (by omega))).trans (h5.mono (by omega))
    have hnv : ∀ g, v.ownBlock = some g → g ≠ W2.heap.size := fun g hg e => hTw ((hT _).2 (.inr (.inr (by rw [hg, e]))))
    have hF : PathP t o w (.returned (.tuple #[v, .bool true])) (A.putObj W2.heap.size (.deferred none)) :=
      ⟨by rw [HQ.out]; exact hb8.trans ⟨rfl, rfl, rfl, by simp, fun k hk => World.putObj_heap_other (by rw [HS2.out]; omega)⟩, .inl ⟨k, s, v, h0, h1, h2, rfl, own_base2 (own_same h7 (fun g hg => World.putObj_heap_other (hnv g hg))) (by rw [HQ.out]; omega)⟩⟩
    have r2' : (A.putObj W2.heap.size (.deferred none)).cell? ⟨q + 2, 0, none⟩ = some v := (show Boxed _ (q + 2) 22 _ from (World.putObj_heap_other (by rw [HS2.out]; omega)).trans h3).cell
    have r3' : (A.putObj W2.heap.size (.deferred none)).cell? ⟨q + 3, 0, none⟩ = some (.bool true) := (show Boxed _ (q + 3) 4 _ from (World.putObj_heap_other (by rw [HS2.out]; omega)).trans h4).cell
    gi_wp2
    refine ⟨by simp, .inl ⟨_, _, rfl, run_takeDeferred hK, ?_⟩⟩
    exact ⟨.tuple #[v, .bool true], by simp [results, Try.results33, go_sem, r2', r3'], hF⟩

end Go.Proofs.Ytfecajeenmnoeaa
