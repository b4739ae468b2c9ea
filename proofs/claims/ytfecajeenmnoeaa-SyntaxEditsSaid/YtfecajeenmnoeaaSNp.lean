/- The program's Number. Conditions: trees of at most 100000 nodes and 1000000000 bytes, first IDs of at most 1000000000. -/
import Derived.Test.YtfecajeenmnoeaaSNb
import Derived.BigRegionIn
namespace Go.Proofs.Ytfecajeenmnoeaa
open Go.RowKit Go.Shelf
set_option linter.unusedVariables false
attribute [local go_sem] Oper.semAt_some

theorem SQ.keepS {G : Nat → Prop} {w w' : World} {ad : List Nat → Nat × Nat} (hz : w.heap.size ≤ w'.heap.size) : ∀ (d : Nat) (t : Nd) (p : List Nat) (o : Nat), t.dep ≤ d → SQ G w ad t p → (∀ s ∈ spots t p o, w'.heap[(ad s.path).1]? = w.heap[(ad s.path).1]?) → SQ G w' ad t p
  | 0, t, p, o, hd, _, _ => by have := t.dep_eq; omega
  | d + 1, t, p, o, hd, h, hs => by
    cases h with
    | mk hb hm h1 h2 h3 hle hmx hnil ha hk =>
      have hsp := spots_eq t p o
      have e := hs ⟨p, t, o⟩ (by rw [hsp]; simp)
      simp only at e
      refine .mk (by omega) hm ?_ ?_ ?_ hle hmx hnil ha (fun i hi => ?_)
      · simp only [World.cell?, e] at h1 ⊢; exact h1
      · simp only [World.cell?, e] at h2 ⊢; exact h2
      · simp only [World.cell?, e] at h3 ⊢; exact h3
      · obtain ⟨pre, post, e1, _⟩ := spotsL_get t.kids p 0 (o + if t.leaf then t.text.size else 0) i hi
        rw [Nat.zero_add] at e1
        exact SQ.keepS hz d _ _ _ (by have := t.kid_dep (List.getElem_mem hi); omega) (hk i hi) (fun s hs' => hs s (by rw [hsp, e1]; exact List.mem_cons_of_mem _ (List.mem_append_left _ (List.mem_append_right _ hs'))))

/-- What the loop over the places keeps. -/
structure NpI (t : Nd) (ad : List Nat → Nat × Nat) (f : Int) (q nb : Nat) (W : World) (k : Nat) (T : Nat → Prop) (A : World) : Prop where
  hT : ∀ j, T j ↔ (q + 2 ≤ j ∧ j ≤ nb + 1)
  nx : Boxed A (nb + 1) 3 (.int .i64 (f + (k : Int)))
  sq : SQ (fun b => q + 2 ≤ b ∧ b ≤ nb) A ad t []
  ids : ∀ (j : Nat) (s : Spot), j < k → (spots t [] 0)[j]? = some s → A.cell? ⟨(ad s.path).1, (ad s.path).2, none⟩ = some (.int .i64 (f + (j : Int)))
  cl : ∀ s ∈ spots t [] 0, A.frozen? ⟨(ad s.path).1, (ad s.path).2, none⟩ = false ∧ ∃ v, A.cell? ⟨(ad s.path).1, (ad s.path).2, none⟩ = some v
  o : Below (q + 2) W A
  z : nb + 3 ≤ A.heap.size
/-- What is known of the places beforehand. -/
structure NpB (t : Nd) (ad : List Nat → Nat × Nat) (q nb : Nat) : Prop where
  bd : ∀ s ∈ spots t [] 0, q + 2 ≤ (ad s.path).1 ∧ (ad s.path).1 ≤ nb ∧ ∃ m, (ad s.path).2 = m * 4
  pw : (spots t [] 0).Pairwise (Apart ad)
theorem NpI.oth {t : Nd} {ad : List Nat → Nat × Nat} {f : Int} {q nb : Nat} {W A C : World} {k : Nat} {T : Nat → Prop} (hB : NpB t ad q nb) (h : NpI t ad f q nb W k T A) (ho : Oth T (nb + 3) A C) : NpI t ad f q nb W k T C := by
  have hb : ∀ b, b ≤ nb + 1 → C.heap[b]? = A.heap[b]? := fun b hb => ho.block b (by have := h.z; omega) (.inl (by omega))
  have hq : q ≤ nb := by
    obtain ⟨h1, h2, _⟩ := hB.bd ⟨[], t, 0⟩ (by rw [spots_eq]; simp)
    omega
  refine ⟨h.hT, (hb _ (Nat.le_refl _)).trans h.nx, h.sq.keepS ho.size t.dep t [] 0 (Nat.le_refl _) (fun s hs => hb _ (by have := (hB.bd s hs).2.1; omega)), fun j s hj hs => ?_, fun s hs => ?_, h.o.trans (ho.below (by omega) (by have := h.z; omega)), by have := h.z; have := ho.size; omega⟩
  · have := (hB.bd s (List.mem_of_getElem? hs)).2.1
    exact (World.cell?_of_block (w := A) (a := ⟨(ad s.path).1, (ad s.path).2, none⟩) (hb _ (by show (ad s.path).1 ≤ nb + 1; omega))).trans (h.ids j s hj hs)
  · have := (hB.bd s hs).2.1
    obtain ⟨h1, v, h2⟩ := h.cl s hs
    exact ⟨(World.frozen?_of_block (w := A) (a := ⟨(ad s.path).1, (ad s.path).2, none⟩) (hb _ (by show (ad s.path).1 ≤ nb + 1; omega))).trans h1, v, (World.cell?_of_block (w := A) (a := ⟨(ad s.path).1, (ad s.path).2, none⟩) (hb _ (by show (ad s.path).1 ≤ nb + 1; omega))).trans h2⟩
theorem frozen_set {w : World} {b o : Nat} {v : Value} {b' o' : Nat} : (w.setCell ⟨b, o, none⟩ v).frozen? ⟨b', o', none⟩ = w.frozen? ⟨b', o', none⟩ := World.frozen?_setCell ..
theorem cell_set_self {w : World} {b o : Nat} {v u : Value} (h : w.cell? ⟨b, o, none⟩ = some u) : (w.setCell ⟨b, o, none⟩ v).cell? ⟨b, o, none⟩ = some v := World.cell?_setCell_same _ _ _ h
theorem NpI.step {t : Nd} {ad : List Nat → Nat × Nat} {f : Int} {q nb : Nat} {W A : World} {k : Nat} {T : Nat → Prop} (hB : NpB t ad q nb) (h : NpI t ad f q nb W k T A) {s : Spot} (hs : (spots t [] 0)[k]? = some s) :
    NpI t ad f q nb W (k + 1) T ((A.setCell ⟨(ad s.path).1, (ad s.path).2, none⟩ (.int .i64 (f + (k : Int)))).setCell ⟨nb + 1, 0, none⟩ (.int .i64 (f + (k : Int) + 1))) ∧ Rnd T T A ((A.setCell ⟨(ad s.path).1, (ad s.path).2, none⟩ (.int .i64 (f + (k : Int)))).setCell ⟨nb + 1, 0, none⟩ (.int .i64 (f + (k : Int) + 1))) := by
  have hsm := List.mem_of_getElem? hs
  obtain ⟨b1, b2, M, hM⟩ := hB.bd s hsm
  obtain ⟨c1, v, c2⟩ := h.cl s hsm
  have hbx : ∀ b, b ≠ (ad s.path).1 → b ≠ nb + 1 → ((A.setCell ⟨(ad s.path).1, (ad s.path).2, none⟩ (.int .i64 (f + (k : Int)))).setCell ⟨nb + 1, 0, none⟩ (.int .i64 (f + (k : Int) + 1))).heap[b]? = A.heap[b]? := fun b h1 h2 => (Below.heap_setCell _ ⟨nb + 1, 0, none⟩ _ b h2).trans (Below.heap_setCell _ ⟨(ad s.path).1, (ad s.path).2, none⟩ _ b h1)
  have hsz : ((A.setCell ⟨(ad s.path).1, (ad s.path).2, none⟩ (.int .i64 (f + (k : Int)))).setCell ⟨nb + 1, 0, none⟩ (.int .i64 (f + (k : Int) + 1))).heap.size = A.heap.size := by simp [World.setCell]
  have hz := h.z
  have hcell : ∀ s' ∈ spots t [] 0, ad s.path ≠ ad s'.path → ((A.setCell ⟨(ad s.path).1, (ad s.path).2, none⟩ (.int .i64 (f + (k : Int)))).setCell ⟨nb + 1, 0, none⟩ (.int .i64 (f + (k : Int) + 1))).cell? ⟨(ad s'.path).1, (ad s'.path).2, none⟩ = A.cell? ⟨(ad s'.path).1, (ad s'.path).2, none⟩ := fun s' hs' hne => by
    have := (hB.bd s' hs').2.1
    rw [cell_set_ne (by omega), cell_set_ne (fun e => hne (Prod.ext e.1.symm e.2.symm))]
  have hself : ((A.setCell ⟨(ad s.path).1, (ad s.path).2, none⟩ (.int .i64 (f + (k : Int)))).setCell ⟨nb + 1, 0, none⟩ (.int .i64 (f + (k : Int) + 1))).cell? ⟨(ad s.path).1, (ad s.path).2, none⟩ = some (.int .i64 (f + (k : Int))) := by
    rw [cell_set_ne (by omega)]
    exact cell_set_self c2
  have hk := (List.getElem?_eq_some_iff.1 hs).1
  refine ⟨⟨h.hT, ?_, ?_, fun j s' hj hs' => ?_, fun s' hs' => ⟨?_, ?_⟩, ?_, by rw [hsz]; exact hz⟩, by rw [hsz]; omega, fun j hj hT => hbx j (fun e => hT ((h.hT j).2 (by omega))) (fun e => hT ((h.hT j).2 (by omega))), fun j hj => .inl hj⟩
  · have h1 : Boxed (A.setCell ⟨(ad s.path).1, (ad s.path).2, none⟩ (.int .i64 (f + (k : Int)))) (nb + 1) 3 (.int .i64 (f + (k : Int))) := (Below.heap_setCell _ ⟨(ad s.path).1, (ad s.path).2, none⟩ _ (nb + 1) (by show nb + 1 ≠ (ad s.path).1; omega)).trans h.nx
    have := h1.set (.int .i64 (f + (k : Int) + 1))
    rwa [show f + ((k + 1 : Nat) : Int) = f + (k : Int) + 1 by omega]
  · rw [hM]
    have := (h.sq.set (ad s.path).1 M (.int .i64 (f + (k : Int)))).set (nb + 1) 0 (.int .i64 (f + (k : Int) + 1))
    rwa [Nat.zero_mul] at this
  · by_cases hjk : j = k
    · subst hjk
      rw [hs] at hs'
      cases hs'
      exact hself
    · have hj' := (List.getElem?_eq_some_iff.1 hs').1
      have hp := List.pairwise_iff_getElem.1 hB.pw j k hj' hk (by omega)
      rw [(List.getElem?_eq_some_iff.1 hs').2, (List.getElem?_eq_some_iff.1 hs).2] at hp
      rw [hcell s' (List.mem_of_getElem? hs') (fun e => hp e.symm)]
      exact h.ids j s' (by omega) hs'
  · rw [frozen_set, frozen_set]; exact (h.cl s' hs').1
  · by_cases e : ad s.path = ad s'.path
    · rw [← e]; exact ⟨_, hself⟩
    · rw [hcell s' hs' e]; exact (h.cl s' hs').2
  · exact (h.o.setCell (p := ⟨(ad s.path).1, (ad s.path).2, none⟩) (by show q + 2 ≤ (ad s.path).1; omega) _).setCell (p := ⟨nb + 1, 0, none⟩) (by show q + 2 ≤ nb + 1; omega) _

set_option maxRecDepth 100000 in
set_option maxHeartbeats 4000000 in
theorem pnumber_any (t : Nd) (a : Option Addr) (n cap : Nat) (f : Int) (w : World) (G : Nat → Prop) (hK : KV G w a n cap t.kids) (hc : t.cnt ≤ 100000) (hw : t.pw ≤ 1000000000) (hf1 : -1000000000 ≤ f) (hf2 : f + (t.cnt : Int) ≤ 1000000000) :
    Calls Try.prog 24 #[ndv t a n cap, .int .i64 f] w (NumP t f n w) := by
  obtain ⟨q, hq⟩ : ∃ q, w.heap.size = q := ⟨_, rfl⟩
  obtain ⟨W2, hW2⟩ : ∃ W, (w.alloc (.cells (ndc t a n cap) 25)).alloc (.cells #[.int .i64 0, .int .i64 0, .string ⟨#[]⟩, .slice none 0 0] 25) = W := ⟨_, rfl⟩
  have b2 : Below q w W2 := by rw [← hW2, ← hq]; exact ((Below.refl _ _).alloc (Nat.le_refl _) _).alloc (by simp) _
  have k1 : Blk W2 q 25 (ndc t a n cap) := by rw [← hW2, ← hq]; exact (Blk.new _ _ _).alloc _
  have k2 : Blk W2 (q + 1) 25 #[.int .i64 0, .int .i64 0, .string ⟨#[]⟩, .slice none 0 0] := by
    rw [← hW2, ← hq]
    have := Blk.new (w.alloc (.cells (ndc t a n cap) 25)) 25 #[.int .i64 0, .int .i64 0, .string ⟨#[]⟩, .slice none 0 0]
    rw [World.size_alloc] at this
    exact this
  have s2 : W2.heap.size = q + 2 := by rw [← hW2, ← hq]; simp
  have hkl := hK.len.1
  have HCL := Lib.hid (clone_any t.dep t a n cap W2 G (Nat.le_refl _) (hK.on (by rw [hq]; exact b2)) hc)
  have HCT := Lib.hid hc; have HPW := Lib.hid hw
  obtain ⟨id, hid⟩ : ∃ x, t.id = x := ⟨_, rfl⟩
  obtain ⟨kd, hkd⟩ : ∃ x, t.kind = x := ⟨_, rfl⟩
  obtain ⟨tx, htx⟩ : ∃ x, t.text = x := ⟨_, rfl⟩
  unfold ndv ndc at *
  rw [hid, hkd, htx] at hW2 HCL ⊢
  have HW2 := Lib.hid hW2; have HQ := Lib.hid hq; have HK2 := Lib.hid k2; have HB2 := Lib.hid b2; have HS2 := Lib.hid s2; have HKL := Lib.hid hkl; have HKD := Lib.hid (And.intro hid (And.intro hkd htx))
  have hmx : Try.prog.follows .mixedOrders = true := by kernel_rfl
  clear hK hc hw hW2 b2 k1 k2 s2 hid hkd htx hq hkl
  refine (callsIn_wide (n := 0)).1 ?_
  refine callsIn_of_wp_marks Try.func24 rfl trivial ?_ rfl
  simp only [Try.ntmps24, List.size_toArray, List.length_cons, List.length_nil, Nat.reduceAdd, Nat.reduceSub, Array.replicate_succ, Array.replicate_zero, List.push_toArray, List.append_toArray, List.nil_append, List.cons_append]
  gi_wp2_with (first | (refine ⟨trivial, rfl, ?_⟩; gi_at_call 54; rw [HW2.out]; refine (callsIn_wide.2 HCL.out).mono ?_; rintro e w3 ⟨a', c', rfl, hki, b3⟩) | (refine ⟨trivial, rfl, ?_⟩; gi_at_call 55; refine (callsIn_wide.2 (places_any _ _)).mono ?_; rintro e w' ⟨rfl, rfl⟩))
  obtain ⟨nb, hnb⟩ : ∃ z, w3.heap.size = z := ⟨_, rfl⟩
  rw [HQ.out, hnb]
  obtain ⟨W5, hW5⟩ : ∃ W, ((w3.alloc (.cells #[.int .i64 id, .int .i64 kd, .string tx, .slice a' n c'] 25)).alloc (.cells #[.int .i64 f] 3)).alloc (.cells #[.pointer (some ⟨nb, 0, none⟩)] 82) = W := ⟨_, rfl⟩
  rw [hW5]
  have hs2 := HS2.out
  have hz3 := b3.size
  have b5 : Below nb w3 W5 := by rw [← hW5, ← hnb]; exact (((Below.refl _ _).alloc (Nat.le_refl _) _).alloc (by simp) _).alloc (by simp; omega) _
  have s5 : W5.heap.size = nb + 3 := by rw [← hW5, ← hnb]; simp
  have k5 : Blk W5 nb 25 #[.int .i64 id, .int .i64 kd, .string tx, .slice a' n c'] := by rw [← hW5, ← hnb]; exact ((Blk.new _ _ _).alloc _).alloc _
  have e1 : Boxed W5 (nb + 1) 3 (.int .i64 f) := by
    have := Boxed.new (w3.alloc (.cells #[.int .i64 id, .int .i64 kd, .string tx, .slice a' n c'] 25)) 3 (.int .i64 f)
    rw [World.size_alloc, hnb] at this
    rw [← hW5]; exact this.alloc _
  have e2 : Boxed W5 (nb + 2) 82 (.pointer (some ⟨nb, 0, none⟩)) := by
    have := Boxed.new ((w3.alloc (.cells #[.int .i64 id, .int .i64 kd, .string tx, .slice a' n c'] 25)).alloc (.cells #[.int .i64 f] 3)) 82 (.pointer (some ⟨nb, 0, none⟩))
    rw [World.size_alloc, World.size_alloc, hnb] at this
    rw [← hW5]; exact this
  obtain ⟨adk, h1, h2, h3, h4⟩ := ki_ad _ hki
  have hkv5 := ((KI.kv _ (G := fun _ => True) hki (fun _ _ _ => trivial)).on (by rw [hnb]; exact b5))
  obtain ⟨ad, had⟩ : ∃ ad : List Nat → Nat × Nat, ad = fun p => match p with
    | [] => (nb, 0)
    | i :: r => adk (i :: r) := ⟨_, rfl⟩
  have had0 : ad [] = (nb, 0) := by rw [had]
  have hadn : ∀ z, z ≠ [] → ad z = adk z := fun z hz => by
    cases z with
    | nil => exact absurd rfl hz
    | cons i r => rw [had]
  have hsp := spots_eq t [] 0
  have hkid : ∀ o, ∀ s ∈ spotsL t.kids [] 0 o, ad s.path = adk s.path := fun o s hs => by
    obtain ⟨j, z, hp⟩ := spotsL_path _ _ _ _ s hs
    exact hadn _ (by rw [hp]; simp)
  have hTA : TA W5 ad t [] := by
    obtain ⟨hk1, hk2, hk3⟩ := HKD.out
    have hn := HKL.out
    rw [← hn] at hkv5
    refine .mk (by rw [had0]; exact k5.lt) (by rw [had0, hk1]; exact k5.cell 0) (by rw [had0, hk2]; exact k5.cell 1) (by rw [had0, hk3]; exact k5.cell 2) (by rw [had0, hn]; exact k5.cell 3) hkv5 (fun i hi => ?_) (fun i hi => ?_)
    · rw [List.nil_append, hadn [i] (by simp)]
      exact ⟨0, (h1 i hi).1, by rw [Nat.zero_add]; exact (h1 i hi).2⟩
    · refine ((h2 i hi).on (by rw [hnb]; exact b5)).shift _ (fun r => ?_)
      rw [List.nil_append]
      exact hadn ([i] ++ r) (by simp)
  have hBD : NpB t ad q nb := by
    refine ⟨fun s hs => ?_, ?_⟩
    · rw [hsp] at hs
      rcases List.mem_cons.1 hs with rfl | hs
      · rw [had0]; exact ⟨by show q + 2 ≤ nb; omega, Nat.le_refl _, 0, rfl⟩
      · rw [hkid _ s hs]
        obtain ⟨g1, g2, _, _, _, _, g3⟩ := h3 _ s hs
        exact ⟨by omega, by omega, g3⟩
    · rw [hsp, List.pairwise_cons]
      refine ⟨fun s hs e => ?_, (h4 _).imp_of_mem ?_⟩
      · have e : ad [] = ad s.path := e
        rw [had0, hkid _ s hs] at e
        have := (h3 _ s hs).2.1
        rw [← e] at this
        have : nb < w3.heap.size := this
        omega
      · intro s s' hs hs' hne e
        have e : ad s.path = ad s'.path := e
        rw [hkid _ s hs, hkid _ s' hs'] at e
        exact hne e
  have hSQ : SQ (fun b => q + 2 ≤ b ∧ b ≤ nb) W5 ad t [] := TA.sq t.dep t [] 0 (Nat.le_refl _) hTA (fun s hs => (hBD.bd s hs).2.2) (fun s hs => have h := hBD.bd s (by rw [hsp]; exact List.mem_cons_of_mem _ hs); ⟨h.1, h.2.1⟩)
  have hI0 : NpI t ad f q nb W5 0 (fun j => q + 2 ≤ j ∧ j ≤ nb + 1) W5 := by
    refine ⟨fun j => Iff.rfl, by simpa using e1, hSQ, fun j s hj => by omega, fun s hs => ⟨?_, _, (SI.spot t.dep t [] 0 (Nat.le_refl _) hTA.si s hs).id⟩, Below.refl _ _, by omega⟩
    rw [hsp] at hs
    rcases List.mem_cons.1 hs with rfl | hs
    · rw [had0]; exact k5.frozen 0
    · rw [hkid _ s hs]
      obtain ⟨g1, g2, g3, _⟩ := h3 _ s hs
      exact (World.frozen?_of_block (w := w3) (a := ⟨(adk s.path).1, (adk s.path).2, none⟩) (b5.block _ (by show (adk s.path).1 < nb; omega))).trans g3
  have e2' : Boxed W5 (nb + 2) 82 (.pointer (some ⟨(ad []).1, (ad []).2, none⟩)) := by rw [had0]; exact e2
  have HG := Lib.hid (places_giw ad t (nb + 2) W5 e2' HCT.out HPW.out)
  have HI0 := Lib.hid hI0; have HBD := Lib.hid hBD; have HS5 := Lib.hid s5; have HAD0 := Lib.hid had0
  have HKR5 : Hid (Blk W5 (q + 1) 25 #[.int .i64 0, .int .i64 0, .string ⟨#[]⟩, .slice none 0 0]) := (HK2.out.same (b3.block _ HK2.out.lt)).same (b5.block _ (by omega))
  have HB5 : Hid (Below q w W5) := (HB2.out.trans (b3.mono (by omega))).trans (b5.mono (by omega))
  have hqnb : q + 2 ≤ nb := by omega
  clear hki b3 hW5 b5 k5 e1 e2 e2' h1 h2 h3 h4 hkv5 had had0 hadn hsp hkid hTA hBD hSQ hI0 hs2 hz3 hnb s5
  refine wpIn_giw (gf := 65) (lb := #[.pointer (some ⟨nb + 1 + 1, 0, none⟩)]) rfl (enters_of Try.func65 (by kernel_rfl) rfl) HG.out rfl
    (fun k T A => NpI t ad f q nb W5 k T A) (fun T A => False)
    ?hI ?hSt ?hS ?hSh (fun j => q + 2 ≤ j ∧ j ≤ nb + 1) ?hT ?h0 ?hround ?hdone ?hret
  case hI =>
    rintro k T A C h ho
    rw [HS5.out] at ho
    exact h.oth HBD.out ho
  case hSt => exact fun T A C h _ => h.elim
  case hS =>
    rintro k T A h j hj
    have := (h.hT j).1 hj
    have := h.z
    omega
  case hSh => exact fun k T A h => h.sq.sh
  case hT => intro k hk; rw [HS5.out]; omega
  case h0 => exact HI0.out
  case hround =>
    rintro l' k hk T A pa pc hl hlA hlr hTl hI hrow hnR
    rw [HS5.out] at hl
    obtain ⟨s, hs⟩ : ∃ s, (spots t [] 0)[k] = s := ⟨_, rfl⟩
    have hsk : (spots t [] 0)[k]? = some s := by rw [← hs]; exact List.getElem?_eq_getElem hk
    have hcn : k < t.cnt := by rw [spots_len] at hk; exact hk
    rw [hs]
    refine ⟨?a1, ?W3, ?hb, ?asg, ?bo⟩
    case asg =>
      intro K hK
      gi_wp2
      exact hK
    case hb => exact (Below.refl _ _).alloc (Nat.le_refl _) _
    case bo =>
      intro A3 hA3 hsame hl3 hI3
      have hst := hI3.step HBD.out hsk
      have hsm := List.mem_of_getElem? hsk
      obtain ⟨c1, v, c2⟩ := hI3.cl s hsm
      have hbd := (HBD.out.bd s hsm).2.1
      obtain ⟨b, hb⟩ : ∃ b, (ad s.path).1 = b := ⟨_, rfl⟩
      obtain ⟨o, ho⟩ : ∃ b, (ad s.path).2 = b := ⟨_, rfl⟩
      obtain ⟨g, hg⟩ : ∃ g : Int, f + (k : Int) = g := ⟨_, rfl⟩
      have hBk : Blk A3 A.heap.size 84 #[.pointer (some ⟨b, o, none⟩), .slice pa s.path.length pc, .int .i64 (s.off : Int)] := by
        rw [← hb, ← ho]
        exact (hsame A.heap.size (by omega)).trans (Blk.new A _ _)
      have p0 := hBk.cell 0
      have hnx := hI3.nx
      simp only [List.getElem?_toArray, List.getElem?_cons_zero] at p0
      rw [hb, ho, hg] at hst
      rw [hb, ho] at c1 c2
      rw [hb] at hbd
      rw [hg] at hnx
      have n1 := hnx.cell
      have n2 := hnx.frozen
      have n3 : ¬ (b = nb + 1) := by omega
      have n4 : ¬ (nb + 1 = b) := by omega
      have m1 : IntKind.i64.wrap (g + 1) = g + 1 := by simp [IntKind.wrap, IntKind.signed, IntKind.bits]; omega
      have HST := Lib.hid hst
      rw [hb, ho]
      clear hst hsk hs hI hrow hnR hlr hsame hI3 hBk hnx hsm hA3 hb ho hg
      gi_wp2
      exact ⟨T, HST.out⟩
  case hdone =>
    rintro T A hA hI hTw hK
    obtain ⟨hk1, hk2, hk3⟩ := HKD.out
    obtain ⟨p1, p2, p3, cr, ar, hp3, hki, hnx, hB5, k1⟩ : A.cell? ⟨nb, 0, none⟩ = some (.int .i64 f) ∧ A.cell? ⟨nb, 1, none⟩ = some (.int .i64 kd) ∧ A.cell? ⟨nb, 2, none⟩ = some (.string tx) ∧ ∃ cr ar, A.cell? ⟨nb, 3, none⟩ = some (.slice ar n cr) ∧ KV (fun b => q + 2 ≤ b ∧ b ≤ nb) A ar n cr (t.num f).kids ∧ Boxed A (nb + 1) 3 (.int .i64 (f + (t.cnt : Int))) ∧ Below q w A ∧ Blk A (q + 1) 25 #[.int .i64 0, .int .i64 0, .string ⟨#[]⟩, .slice none 0 0] := by
      have hsp := spots_eq t [] 0
      have h0 := hI.ids 0 ⟨[], t, 0⟩ (by rw [spots_len, t.cnt_eq]; omega) (by rw [hsp]; rfl)
      simp only [HAD0.out] at h0
      have hSI : SI A ad (t.num f) [] := SI.num t.dep t [] 0 f (Nat.le_refl _) (fun j s hj => ⟨hI.ids j s (List.getElem?_eq_some_iff.1 hj).1 hj, by
        have := (HBD.out.bd s (List.mem_of_getElem? hj)).2.1
        have := hI.z
        omega⟩)
      have hSN := SQ.num t.dep t [] f (Nat.le_refl _) hI.sq
      have hnx := hI.nx
      rw [spots_len] at hnx
      have hkv := fun a cap h => kv_of_sq t.dep (t.num f) [] (by rw [num_dep]; exact Nat.le_refl _) hSN hSI a t.kids.length cap h
      have hsq := hI.sq
      cases hsq with
      | @mk _ _ ar cr hb hm h1 h2 h3 hle hmx hnil ha hk =>
        have h3' := h3
        rw [HAD0.out] at h1 h2 h3
        rw [hk2] at h1; rw [hk3] at h2
        have hkv' := hkv ar cr h3'
        rw [HKL.out] at h3 hkv'
        exact ⟨by simpa using h0, by simpa using h1, by simpa using h2, cr, ar, by simpa using h3, hkv', hnx, HB5.out.trans (hI.o.mono (by omega)), HKR5.out.same (hI.o.block _ (by omega))⟩
    have n1 := hnx.cell
    have n2 := hnx.frozen
    have q0 := k1.cell 0
    have q1 := k1.cell 1
    have q2 := k1.cell 2
    have q3 := k1.cell 3
    have fz : ∀ i, A.frozen? ⟨q + 1, i, none⟩ = false := fun i => k1.frozen i
    have f0 := fz 0; have f1 := fz 1; have f2 := fz 2; have f3 := fz 3
    have d1 : ¬ (nb = q + 1) := by omega
    have d2 : ¬ (q + 1 = nb) := by omega
    have d3 : ¬ (nb + 1 = q + 1) := by omega
    have d4 : ¬ (q + 1 = nb + 1) := by omega
    have hz := hI.z
    rw [HS5.out] at hK
    have HKV := Lib.hid hki; have HK1 := Lib.hid k1; have HB6 := Lib.hid hB5; have HKN := Lib.hid hK; have HFZ := Lib.hid fz
    clear hk1 hk2 hk3 hI hTw hki hB5 k1 hK fz
    simp only [List.getElem?_toArray, List.getElem?_cons_zero, List.getElem?_cons_succ] at q0 q1 q2 q3
    obtain ⟨g, hg⟩ : ∃ g : Int, f + (t.cnt : Int) = g := ⟨_, rfl⟩
    rw [hg] at n1
    have HGE := Lib.hid hg
    clear hg
    gi_wp2
    gi_region
    obtain ⟨W8, hW8⟩ : ∃ W, ((((A.setCell ⟨q + 1, 0, none⟩ (.int .i64 f)).setCell ⟨q + 1, 1, none⟩ (.int .i64 kd)).setCell ⟨q + 1, 2, none⟩ (.string tx)).setCell ⟨q + 1, 3, none⟩ (.slice ar n cr)).drew = W := ⟨_, rfl⟩
    rw [hW8]
    have hbl : ∀ b, b ≠ q + 1 → W8.heap[b]? = A.heap[b]? := fun b hb => by
      rw [← hW8]
      exact (Below.heap_setCell _ ⟨q + 1, 3, none⟩ _ b hb).trans ((Below.heap_setCell _ ⟨q + 1, 2, none⟩ _ b hb).trans ((Below.heap_setCell _ ⟨q + 1, 1, none⟩ _ b hb).trans (Below.heap_setCell _ ⟨q + 1, 0, none⟩ _ b hb)))
    have z8 : W8.heap.size = A.heap.size := by rw [← hW8]; simp [World.setCell]
    have hK8 : W8.heap[nb + 3]? = some (.deferred (some [])) := (hbl _ (by omega)).trans HKN.out
    have k8 : Blk W8 (q + 1) 25 #[.int .i64 f, .int .i64 kd, .string tx, .slice ar n cr] := by rw [← hW8]; exact ((((HK1.out.set 0 (.int .i64 f)).set 1 (.int .i64 kd)).set 2 (.string tx)).set 3 (.slice ar n cr))
    have hb8 : Below q w W8 := by rw [← hW8]; exact ((((HB6.out.setCell (p := ⟨q + 1, 0, none⟩) (by show q ≤ q + 1; omega) _).setCell (p := ⟨q + 1, 1, none⟩) (by show q ≤ q + 1; omega) _).setCell (p := ⟨q + 1, 2, none⟩) (by show q ≤ q + 1; omega) _).setCell (p := ⟨q + 1, 3, none⟩) (by show q ≤ q + 1; omega) _).drew
    have hF : NumP t f n w (.returned (.tuple #[.agg #[.int .i64 f, .int .i64 kd, .string tx, .slice ar n cr], .int .i64 g])) (W8.putObj W5.heap.size (.deferred none)) := by
      obtain ⟨hk1, hk2, hk3⟩ := HKD.out
      refine ⟨ar, cr, by rw [hk2, hk3, HGE.out], ?_, ?_⟩
      · rw [HQ.out]
        exact HKV.out.keep (by rw [HS5.out]; simp; omega) (fun b hb hb' => (World.putObj_heap_other (by rw [HS5.out]; omega)).trans (hbl b (by omega))) (fun b hb _ => by omega)
      · rw [HQ.out]
        exact hb8.trans ⟨rfl, rfl, rfl, by simp, fun k hk => World.putObj_heap_other (by rw [HS5.out]; omega)⟩
    have k9 : Blk (W8.putObj W5.heap.size (.deferred none)) (q + 1) 25 #[.int .i64 f, .int .i64 kd, .string tx, .slice ar n cr] := k8.same (World.putObj_heap_other (by rw [HS5.out]; omega))
    have z0 := k9.cell 0
    have z1 := k9.cell 1
    have z2 := k9.cell 2
    have z3 := k9.cell 3
    simp only [List.getElem?_toArray, List.getElem?_cons_zero, List.getElem?_cons_succ] at z0 z1 z2 z3
    clear hbl k8 hb8 hW8 k9
    gi_wp2
    refine ⟨by simp, .inl ⟨_, _, rfl, run_takeDeferred (by rw [HS5.out]; exact hK8), ?_⟩⟩
    exact ⟨.tuple #[.agg #[.int .i64 f, .int .i64 kd, .string tx, .slice ar n cr], .int .i64 g], by simp [results, Try.results24, go_sem, z0, z1, z2, z3], hF⟩
  case hret => exact fun T A _ h => h.elim

end Go.Proofs.Ytfecajeenmnoeaa
