/- The program's IDs. Conditions: trees of at most 100000 nodes and 1000000000 bytes. -/
import Derived.Test.YtfecajeenmnoeaaSDp
import Derived.Test.YtfecajeenmnoeaaSId
import Derived.Test.YtfecajeenmnoeaaRegR
import Derived.Deep.RegionLaw
import Derived.Deep.AppendLies
import Derived.Lib.MinMax
namespace Go.Proofs.Ytfecajeenmnoeaa
open Go.RowKit Go.Shelf
set_option linter.unusedVariables false
attribute [local go_sem] Oper.semAt_some

/-- The IDs of places' nodes, as integers in memory. -/
abbrev sids (l : List Spot) : List Value := l.map fun (s : Spot) => Value.int .i64 s.nd.id
theorem sids_take (l : List Spot) (k : Nat) (h : k < l.length) : sids (l.take (k + 1)) = sids (l.take k) ++ [.int .i64 l[k].nd.id] := by
  unfold sids
  rw [List.take_succ_eq_append_getElem h, List.map_append]; rfl

/-- 'l = append(l, x)' in a round, l a variable in block q + 1. -/
theorem app_step {q k : Nat} {e ty : TypeId} {size : Nat} {V : Value} {gg cap1 : Nat} {xs ys : List Value} {T : Nat → Prop} {A3 X w1 W1 : World} (hT : ∀ j, T j ↔ (j = q + 1 ∨ V.ownBlock = some j)) (hbx : Boxed A3 (q + 1) ty V) (hrow : A3.ownsRow (q + 2) e size V k xs) (hB : Below (q + 1) W1 A3) (hz : q + 3 ≤ A3.heap.size)
    (hX : Below A3.heap.size A3 X) (hown : w1.ownsRow (q + 2) e size (.slice (some ⟨gg, 0, none⟩) (k + 1) cap1) (k + 1) ys) (hgrow : X.grownBy w1 V.ownBlock) (hat : V.ownBlock = some gg ∨ gg = A3.heap.size + 1) :
    ∃ T', (∃ v, (∀ j, T' j ↔ (j = q + 1 ∨ v.ownBlock = some j)) ∧ Boxed (w1.setCell ⟨q + 1, 0, none⟩ (.slice (some ⟨gg, 0, none⟩) (k + 1) cap1)) (q + 1) ty v ∧ (w1.setCell ⟨q + 1, 0, none⟩ (.slice (some ⟨gg, 0, none⟩) (k + 1) cap1)).ownsRow (q + 2) e size v (k + 1) ys ∧
      Below (q + 1) W1 (w1.setCell ⟨q + 1, 0, none⟩ (.slice (some ⟨gg, 0, none⟩) (k + 1) cap1)) ∧ q + 3 ≤ (w1.setCell ⟨q + 1, 0, none⟩ (.slice (some ⟨gg, 0, none⟩) (k + 1) cap1)).heap.size) ∧ Rnd T T' A3 (w1.setCell ⟨q + 1, 0, none⟩ (.slice (some ⟨gg, 0, none⟩) (k + 1) cap1)) := by
  have hg := grownBy_setCell' w1 (q + 1) (.slice (some ⟨gg, 0, none⟩) (k + 1) cap1)
  have hgs := hg.size
  have hxs := hX.size
  have hws := hgrow.size
  have hb : ∀ j, j < A3.heap.size → some j ≠ V.ownBlock → w1.heap[j]? = A3.heap[j]? := fun j hj hne => (hgrow.block j (by omega) hne).trans (hX.block j hj)
  have hrl := hrow.lt
  have hq : some (q + 1) ≠ V.ownBlock := fun e => by have := (hrl _ e.symm).1; omega
  have hbw : Boxed w1 (q + 1) ty V := (hb (q + 1) (by omega) hq).trans hbx
  have hgl := hown.lt gg rfl
  have hb2 : ∀ j, j < A3.heap.size → some j ≠ V.ownBlock → j ≠ q + 1 → (w1.setCell ⟨q + 1, 0, none⟩ (.slice (some ⟨gg, 0, none⟩) (k + 1) cap1)).heap[j]? = A3.heap[j]? := fun j hj hne h1 => (hg.block j (by omega) (fun e => h1 (by cases e; rfl))).trans (hb j hj hne)
  refine ⟨fun j => j = q + 1 ∨ (Value.slice (some ⟨gg, 0, none⟩) (k + 1) cap1).ownBlock = some j, ⟨_, fun j => Iff.rfl, hbw.set _, own_same hown (fun g h => hg.block g (hown.lt g h).2 (fun e => by have := (hown.lt g h).1; cases e; omega)), hB.trans ⟨?_, ?_, ?_, by omega, fun j hj => hb2 j (by omega) (fun e => by have := (hrl _ e.symm).1; omega) (by omega)⟩, by omega⟩, by omega, fun j hj hn => hb2 j hj (fun e => hn ((hT j).2 (.inr e.symm))) (fun e => hn ((hT j).2 (.inl e))), fun j hj => ?_⟩
  · exact hg.os.trans (hgrow.os.trans hX.os)
  · exact hg.tape.trans (hgrow.tape.trans hX.tape)
  · exact hg.output.trans (hgrow.output.trans hX.output)
  · rcases hj with h | h
    · exact .inl ((hT j).2 (.inl h))
    · simp only [Value.ownBlock, Option.some.injEq] at h
      subst h
      rcases hat with h | h
      · exact .inl ((hT gg).2 (.inr h))
      · exact .inr (by omega)

set_option maxRecDepth 100000 in
set_option maxHeartbeats 4000000 in
theorem pids_any (t : Nd) (a : Option Addr) (n cap : Nat) (w : World) (G : Nat → Prop) (hK : KV G w a n cap t.kids) (hc : t.cnt ≤ 100000) (hw : t.pw ≤ 1000000000) :
    Calls Try.prog 25 #[ndv t a n cap] w fun e w' => ∃ u, e = .returned u ∧ w'.ownsRow w.heap.size 3 1 u (sids (spots t [] 0)).length (sids (spots t [] 0)) ∧ Below w.heap.size w w' := by
  obtain ⟨W1, hW1⟩ : ∃ W, w.alloc (.cells (ndc t a n cap) 25) = W := ⟨_, rfl⟩
  have b1 : Below w.heap.size w W1 := by rw [← hW1]; exact (Below.refl _ _).alloc (Nat.le_refl _) _
  have k1 : Blk W1 w.heap.size 25 (ndc t a n cap) := by rw [← hW1]; exact Blk.new _ _ _
  have hs1 : W1.heap.size = w.heap.size + 1 := by rw [← hW1]; simp
  obtain ⟨ad, had, hSH, hSI⟩ := root_ad hK b1 k1
  obtain ⟨q, hq⟩ : ∃ q, w.heap.size = q := ⟨_, rfl⟩
  rw [hq] at had hs1 b1
  obtain ⟨W2, hW2⟩ : ∃ W2, (W1.alloc (.cells #[.slice none 0 0] 22)).alloc (.cells #[.pointer (some ⟨q, 0, none⟩)] 82) = W2 := ⟨_, rfl⟩
  have b2 : Below (q + 1) W1 W2 := by rw [← hW2]; exact ((Below.refl _ _).alloc (by omega) _).alloc (by simp; omega) _
  have hs2 : W2.heap.size = q + 3 := by rw [← hW2]; simp; omega
  have e1 : Boxed W2 (q + 1) 22 (.slice none 0 0) := by rw [← hW2, ← hs1]; exact (Boxed.new W1 _ _).alloc _
  have e2 : Boxed W2 (q + 2) 82 (.pointer (some ⟨(ad []).1, (ad []).2, none⟩)) := by
    have := Boxed.new (W1.alloc (.cells #[.slice none 0 0] 22)) 82 (.pointer (some ⟨q, 0, none⟩))
    rw [World.size_alloc, hs1] at this
    rw [← hW2, had]; exact this
  have HG := Lib.hid (places_giw ad t (q + 2) W2 e2 hc hw)
  have HSH := Lib.hid hSH; have HSI := Lib.hid hSI; have HQ := Lib.hid hq; have HB1 := Lib.hid b1; have HB2 := Lib.hid b2; have HS1 := Lib.hid hs1; have HS2 := Lib.hid hs2; have HE1 := Lib.hid e1; have HC := Lib.hid hc; have HP := Lib.hid hw
  have hmx : Try.prog.follows .mixedOrders = true := by kernel_rfl
  obtain ⟨id, hid⟩ : ∃ x, t.id = x := ⟨_, rfl⟩
  obtain ⟨kd, hkd⟩ : ∃ x, t.kind = x := ⟨_, rfl⟩
  obtain ⟨tx, htx⟩ : ∃ x, t.text = x := ⟨_, rfl⟩
  unfold ndv ndc at *
  rw [hid, hkd, htx] at hW1 ⊢
  have HW1 := Lib.hid hW1; have HW2 := Lib.hid hW2
  clear hK hc hw hW1 b1 k1 hs1 had hSH hSI hq hW2 b2 hs2 e1 e2 hid hkd htx
  refine (callsIn_wide (n := 0)).1 ?_
  refine callsIn_of_wp_marks Try.func25 rfl trivial ?_ rfl
  simp only [Try.ntmps25, List.size_toArray, List.length_cons, List.length_nil, Nat.reduceAdd, Nat.reduceSub, Array.replicate_succ, Array.replicate_zero, List.push_toArray, List.append_toArray, List.nil_append, List.cons_append]
  gi_wp2_with (first | (refine ⟨trivial, rfl, ?_⟩; gi_at_call 55; refine (callsIn_wide.2 (places_any _ _)).mono ?_; rintro e w' ⟨rfl, rfl⟩))
  rw [HW1.out, HQ.out, HW2.out]
  refine wpIn_giw (gf := 65) (lb := #[.pointer (some ⟨q + 1 + 1, 0, none⟩)]) rfl (enters_of Try.func65 (by kernel_rfl) rfl) HG.out rfl
    (fun k T A => ∃ v, (∀ j, T j ↔ (j = q + 1 ∨ v.ownBlock = some j)) ∧ Boxed A (q + 1) 22 v ∧ A.ownsRow (q + 2) 3 1 v k (sids ((spots t [] 0).take k)) ∧ Below (q + 1) W1 A ∧ q + 3 ≤ A.heap.size)
    (fun T A => False)
    ?hI ?hSt ?hS ?hSh (fun j => j = q + 1) ?hT ?h0 ?hround ?hdone ?hret
  case hI =>
    rintro k T A C ⟨v, h1, h2, h5, h3, h4⟩ ho
    rw [HS2.out] at ho
    exact ⟨v, h1, (ho.block _ h2.lt (.inl (by omega))).trans h2, own_same h5 (fun g hg => ho.block g (h5.lt g hg).2 (.inr ((h1 g).2 (.inr hg)))), h3.trans (ho.below (by omega) (by omega)), by have := ho.size; omega⟩
  case hSt => exact fun T A C h _ => h.elim
  case hS =>
    rintro k T A ⟨v, h1, h2, h5, h3, h4⟩ j hj
    rcases (h1 j).1 hj with rfl | h
    · omega
    · exact (h5.lt j h).2
  case hSh =>
    rintro k T A ⟨v, h1, h2, h5, h3, h4⟩
    exact HSH.out.on (by rw [HS1.out]; exact h3)
  case hT => intro k hk; rw [HS2.out]; omega
  case h0 => exact ⟨.slice none 0 0, fun j => by simp [Value.ownBlock], HE1.out, World.ownsRow_nil _ _ _ _, HB2.out, by rw [HS2.out]; omega⟩
  case hround =>
    rintro l' k hk T A pa pc hl hlA hlr hTl ⟨v0, h1, h2, h5, h3, h4⟩ hrow hnR
    rw [HS2.out] at hl
    obtain ⟨s, hs⟩ : ∃ s, (spots t [] 0)[k] = s := ⟨_, rfl⟩
    have hxt := sids_take (spots t [] 0) k hk
    have hk5 : k < 100000 := by rw [spots_len] at hk; have := HC.out; omega
    have hsm : s ∈ spots t [] 0 := by rw [← hs]; exact List.getElem_mem hk
    rw [hs] at hxt ⊢
    refine ⟨?a1, ?W3, ?hb, ?asg, ?bo⟩
    case asg =>
      intro K hK
      gi_wp2
      exact hK
    case hb => exact (Below.refl _ _).alloc (Nat.le_refl _) _
    case bo =>
      intro A3 hA3 hsame hl3 hI3
      obtain ⟨v1, g1, g2, g6, g3, g4⟩ := hI3
      have hS3 := (SI.spot t.dep t [] 0 (Nat.le_refl _) (HSI.out.on (by rw [HS1.out]; exact g3)) s hsm).id
      obtain ⟨b, hb⟩ : ∃ b, (ad s.path).1 = b := ⟨_, rfl⟩
      obtain ⟨f, hf⟩ : ∃ b, (ad s.path).2 = b := ⟨_, rfl⟩
      obtain ⟨x, hx⟩ : ∃ x, s.nd.id = x := ⟨_, rfl⟩
      have hBk : Blk A3 A.heap.size 84 #[.pointer (some ⟨b, f, none⟩), .slice pa s.path.length pc, .int .i64 (s.off : Int)] := by
        rw [← hb, ← hf]
        exact (hsame A.heap.size (by omega)).trans (Blk.new A _ _)
      have p0 := hBk.cell 0
      simp only [List.getElem?_toArray, List.getElem?_cons_zero] at p0
      rw [hb, hf, hx] at hS3
      rw [hb, hf]
      rw [hx] at hxt
      obtain ⟨av, cv, rfl⟩ := own_slice g6
      have c1 := g2.cell
      have f1 := g2.frozen
      obtain ⟨i3, hi3, iy0, iy1, iy2⟩ := info_parts info3
      have hqz : q + 2 ≤ A3.heap.size := by omega
      have hq1 : q + 1 < A3.heap.size := by omega
      have HO6 := Lib.hid g6
      have HI3 : Hid ((∀ j, T j ↔ (j = q + 1 ∨ (Value.slice av k cv).ownBlock = some j)) ∧ Boxed A3 (q + 1) 22 (.slice av k cv) ∧ Below (q + 1) W1 A3 ∧ q + 3 ≤ A3.heap.size) := ⟨g1, g2, g3, g4⟩
      have HXT := Lib.hid hxt
      have hnp : (Value.slice av k cv).ownBlock ≠ some (q + 1) := fun e => by have := (g6.lt _ e).1; omega
      have HG2 := Lib.hid g2
      clear g1 g2 g3 hsame hrow hnR h1 h2 h3 h5 hlr hBk hs hsm hx hxt g6 hA3
      gi_wp2
      refine wpIn_region_any (by kernel_rfl) (wpAnyIn_of (by kernel_rfl) (fun ⟨_, _, h⟩ => h) _ _ _ _ ?_)
      try (change wpAny _ _ _ _ _ _ _ (World.drew _))
      repeat' (first
        | (refine wpAny_done (by decide +kernel) ?_ _)
        | (refine wpAny_take (i := 1) (v := ?_) rfl (by kernel_rfl) (by decide +kernel) (by decide +kernel) (fun _ _ _ h => h) (Or.inl ⟨by rfl, ?_⟩) ?_; rotate_left; focus (intro w; go_simp; first | done | with_reducible rfl))
        | (refine wpAny_take (i := 3) (v := ?_) rfl (by kernel_rfl) (by decide +kernel) (by decide +kernel) (fun _ _ _ h => h) (Or.inl ⟨by rfl, ?_⟩) ?_; rotate_left; focus (intro w; go_simp; first | done | with_reducible rfl))
        | (refine wpAny_take (i := 4) (v := ?_) rfl (by kernel_rfl) (by decide +kernel) (by decide +kernel) (fun _ _ _ h => h) (Or.inl ⟨by rfl, ?_⟩) ?_; rotate_left; focus (intro w; go_simp; first | done | with_reducible rfl))
        | (refine wpAny_ready (rs := [0]) (by decide +kernel) (by simp) ?_; refine AllReady.cons rfl (fun K hK => ?_) AllReady.nil; go_simp; refine hK _ _ ?_; clear hK K)
        | (refine wpAny_ready (rs := [2]) (by decide +kernel) (by simp) ?_; refine AllReady.cons rfl (fun K hK => ?_) AllReady.nil; go_simp; refine hK _ _ ?_; clear hK K)
        | (refine wpAny_ready (rs := [5]) (by decide +kernel) (by simp) ?_; refine AllReady.cons rfl (fun K hK => ?_) AllReady.nil; go_simp; refine hK _ _ ?_; clear hK K)
        | (refine wpAny_ready (rs := [6]) (by decide +kernel) (by simp) ?_; refine AllReady.cons rfl (fun K hK => ?_) AllReady.nil; go_simp; refine hK _ _ ?_; clear hK K)
        | (refine wpAny_ready (rs := [8]) (by decide +kernel) (by simp) ?_; refine AllReady.cons rfl (fun K hK => ?_) AllReady.nil; go_simp; refine hK _ _ ?_; clear hK K)
        | (refine wpAny_ready (rs := [7]) (by decide +kernel) (by simp) ?_; refine AllReady.cons rfl (fun K hK => ?_) AllReady.nil; refine step_append_lies _ (by rfl) _ _ _ (by rfl) (q + 2) 3 i3 _ 1 8 Try.underlying22 hi3 iy0 iy1 iy2 rfl (by decide) (.slice av k cv) k (sids ((spots t [] 0).take k)) (by rfl) ((HO6.out.alloc _).drew) ⟨A3.heap.size, 0, none⟩ 1 1 [.int .i64 x] (by rfl) (by rfl) (World.news_of_block (cs := #[.int .i64 x]) (t := 3) (fr := (0, 0)) (World.alloc_heap_new A3 _)) (by simp [Value.oneCell']) (by omega) (by unfold maxLen; omega) (by omega) (by simp; omega) (A3.heap.size + 1) (by simp) ?_; intro gg cap1 w1 hown1 hgrow1 hat1 hlt1; have hs3 : w1.cell? ⟨q + 1, 0, none⟩ = some (.slice av k cv) := (hgrow1.cell_far ⟨q + 1, 0, none⟩ (by simp; omega) (Ne.symm hnp)).trans (HG2.out.alloc _).cell; have hsf : w1.frozen? ⟨q + 1, 0, none⟩ = false := (hgrow1.frozen_far ⟨q + 1, 0, none⟩ (by simp; omega) (Ne.symm hnp)).trans (HG2.out.alloc _).frozen; (try go_simp); refine hK _ _ ?_; clear hK K)
        | (refine wpAny_ready (rs := [0, 2]) (by decide +kernel) (by simp) ?_; refine AllReady.cons rfl (fun K hK => ?_) (AllReady.cons rfl (fun K hK => ?_) AllReady.nil) <;> (go_simp; refine hK _ _ ?_; clear hK K))
        | (refine wpAny_ready (rs := [0, 5]) (by decide +kernel) (by simp) ?_; refine AllReady.cons rfl (fun K hK => ?_) (AllReady.cons rfl (fun K hK => ?_) AllReady.nil) <;> (go_simp; refine hK _ _ ?_; clear hK K))
        | (refine wpAny_ready (rs := [0, 6]) (by decide +kernel) (by simp) ?_; refine AllReady.cons rfl (fun K hK => ?_) (AllReady.cons rfl (fun K hK => ?_) AllReady.nil) <;> (go_simp; refine hK _ _ ?_; clear hK K))
        )
      all_goals
        obtain ⟨g1, g2, g3, g4⟩ := HI3.out
        have hfin := app_step g1 g2 HO6.out g3 g4 (((Below.refl _ A3).alloc (Nat.le_refl _) (.cells #[.int .i64 x] 3)).drew) hown1 hgrow1 hat1
        have HFIN := Lib.hid hfin
        clear hfin hown1 hgrow1 hat1 hlt1 hs3 hsf g1 g2 g3 g4
        gi_wp2
        obtain ⟨T', ⟨v, k1, k2, k3, k4⟩, k5⟩ := HFIN.out
        exact ⟨T', ⟨v, k1, k2, by rw [HXT.out]; exact k3, k4⟩, k5⟩
  case hdone =>
    rintro T A hA ⟨v, h1, h2, h5, h3, h4⟩ hTw hK
    rw [List.take_length] at h5
    obtain ⟨av, cv, rfl⟩ := own_slice h5
    have c1 := h2.cell
    have HF : Hid (Below q w A) := HB1.out.trans (h3.mono (by omega))
    have hne : (Value.slice av (spots t [] 0).length cv).ownBlock ≠ some W2.heap.size := fun e => hTw ((h1 _).2 (.inr e))
    have HRW : Hid ((A.putObj W2.heap.size (.deferred none)).ownsRow w.heap.size 3 1 (.slice av (spots t [] 0).length cv) (sids (spots t [] 0)).length (sids (spots t [] 0))) := by
      rw [List.length_map]
      exact own_base2 (own_same h5 (fun g hg => World.putObj_heap_other (fun e => hne (by rw [hg, e])))) (by rw [HQ.out]; omega)
    rw [HS2.out] at hK
    clear h1 h2 h3 h5 hne
    gi_wp2
    refine ⟨by simp, .inl ⟨_, _, rfl, run_takeDeferred (by rw [HS2.out]; exact hK), ?_⟩⟩
    have hF : Below w.heap.size w (A.putObj W2.heap.size (.deferred none)) := by
      rw [HQ.out]
      exact HF.out.trans ⟨rfl, rfl, rfl, by simp, fun k hk => World.putObj_heap_other (by rw [HS2.out]; have := HQ.out; omega)⟩
    refine ⟨_, results_tmp (t := 2) rfl _ _ _, ⟨_, rfl, ?_, hF⟩⟩
    exact HRW.out
  case hret => exact fun T A _ h => h.elim

end Go.Proofs.Ytfecajeenmnoeaa
