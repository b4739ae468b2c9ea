/- SLe, with the texts that only it needs in front of it: SDp, SId, SPi. It has no conditions. -/
import Derived.Test.YtgfhhpodcnohpaaDoorSWi
import Derived.Lib.MinMax
import Derived.Test.YtgfhhpodcnohpaaDoorSNo
import Derived.Test.YtgfhhpodcnohpaaDoorRegR
import Derived.Deep.RegionLaw
import Derived.Deep.AppendLies
import Derived.Test.YtgfhhpodcnohpaaDoorSTd
import Derived.Test.YtgfhhpodcnohpaaDoorRegH

/- The program's Depth. Conditions: trees of at most 100000 nodes and 1000000000 bytes. -/
namespace Go.Proofs.YtgfhhpodcnohpaaDoor
open Go.RowKit Go.Shelf
set_option linter.unusedVariables false
attribute [local go_sem] Oper.semAt_some

/-- The greatest number of nodes on the way to one of the places. -/
def dmx : List Spot → Nat
  | [] => 0
  | s :: l => max (s.path.length + 1) (dmx l)
theorem dmx_app : ∀ (a b : List Spot), dmx (a ++ b) = max (dmx a) (dmx b)
  | [], b => by simp [dmx]
  | x :: a, b => by rw [List.cons_append, dmx, dmx, dmx_app a b]; omega
theorem dmx_take (l : List Spot) (k : Nat) (h : k < l.length) : dmx (l.take (k + 1)) = max (dmx (l.take k)) (l[k].path.length + 1) := by
  rw [List.take_succ_eq_append_getElem h, dmx_app]; simp [dmx]
theorem dmx_le (l : List Spot) (k : Nat) : dmx (l.take k) ≤ dmx l := by
  have h : dmx l = max (dmx (l.take k)) (dmx (l.drop k)) := by rw [← dmx_app, List.take_append_drop]
  omega
mutual
theorem dmx_spots : ∀ (t : Nd) (p : List Nat) (o : Nat), dmx (spots t p o) = p.length + t.dep
  | .mk i k x ks, p, o => by
    have h := dmx_spotsL ks p 0 (o + if 0 ≤ k ∧ k ≤ 8 then x.size else 0)
    rw [spots, Nd.dep, dmx, h]; omega
theorem dmx_spotsL : ∀ (l : List Nd) (p : List Nat) (i o : Nat), max (p.length + 1) (dmx (spotsL l p i o)) = p.length + 1 + deps l
  | [], p, i, o => by simp [spotsL, deps, dmx]
  | x :: l, p, i, o => by
    have h1 := dmx_spots x (p ++ [i]) o
    have h2 := dmx_spotsL l p (i + 1) (o + x.pw)
    rw [List.length_append, List.length_singleton] at h1
    rw [spotsL, dmx_app, deps, h1]; omega
end

set_option maxRecDepth 100000 in
set_option maxHeartbeats 4000000 in
theorem pdepth_any (t : Nd) (a : Option Addr) (n cap : Nat) (w : World) (G : Nat → Prop) (hK : KV G w a n cap t.kids) (hc : t.cnt ≤ 100000) (hw : t.pw ≤ 1000000000) :
    Calls Tryd.prog 73 #[ndv t a n cap] w fun e w' => e = .returned (.int .i64 (t.dep : Int)) ∧ Below w.heap.size w w' := by
  obtain ⟨W1, hW1⟩ : ∃ W, w.alloc (.cells (ndc t a n cap) 60) = W := ⟨_, rfl⟩
  have b1 : Below w.heap.size w W1 := by rw [← hW1]; exact (Below.refl _ _).alloc (Nat.le_refl _) _
  have k1 : Blk W1 w.heap.size 60 (ndc t a n cap) := by rw [← hW1]; exact Blk.new _ _ _
  have hs1 : W1.heap.size = w.heap.size + 1 := by rw [← hW1]; simp
  obtain ⟨ad, had, hSH, hSI⟩ := root_ad hK b1 k1
  obtain ⟨q, hq⟩ : ∃ q, w.heap.size = q := ⟨_, rfl⟩
  rw [hq] at had hs1 b1
  obtain ⟨W2, hW2⟩ : ∃ W2, (W1.alloc (.cells #[.int .i64 0] 3)).alloc (.cells #[.pointer (some ⟨q, 0, none⟩)] 107) = W2 := ⟨_, rfl⟩
  have b2 : Below (q + 1) W1 W2 := by rw [← hW2]; exact ((Below.refl _ _).alloc (by omega) _).alloc (by simp; omega) _
  have hs2 : W2.heap.size = q + 3 := by rw [← hW2]; simp; omega
  have e1 : Boxed W2 (q + 1) 3 (.int .i64 0) := by rw [← hW2, ← hs1]; exact (Boxed.new W1 _ _).alloc _
  have e2 : Boxed W2 (q + 2) 107 (.pointer (some ⟨(ad []).1, (ad []).2, none⟩)) := by
    have := Boxed.new (W1.alloc (.cells #[.int .i64 0] 3)) 107 (.pointer (some ⟨q, 0, none⟩))
    rw [World.size_alloc, hs1] at this
    rw [← hW2, had]; exact this
  have HG := Lib.hid (places_giw ad t (q + 2) W2 e2 hc hw)
  have HSH := Lib.hid hSH; have HQ := Lib.hid hq; have HB1 := Lib.hid b1; have HB2 := Lib.hid b2; have HS1 := Lib.hid hs1; have HS2 := Lib.hid hs2; have HE1 := Lib.hid e1; have HC := Lib.hid hc; have HP := Lib.hid hw
  have hmx : Tryd.prog.follows .mixedOrders = true := by kernel_rfl
  obtain ⟨id, hid⟩ : ∃ x, t.id = x := ⟨_, rfl⟩
  obtain ⟨kd, hkd⟩ : ∃ x, t.kind = x := ⟨_, rfl⟩
  obtain ⟨tx, htx⟩ : ∃ x, t.text = x := ⟨_, rfl⟩
  unfold ndv ndc at *
  rw [hid, hkd, htx] at hW1 ⊢
  have HW1 := Lib.hid hW1; have HW2 := Lib.hid hW2
  clear hK hc hw hW1 b1 k1 hs1 had hSH hSI hq hW2 b2 hs2 e1 e2 hid hkd htx
  refine (callsIn_wide (n := 0)).1 ?_
  refine callsIn_of_wp_marks Tryd.func73 rfl trivial ?_ rfl
  simp only [Tryd.ntmps73, List.size_toArray, List.length_cons, List.length_nil, Nat.reduceAdd, Nat.reduceSub, Array.replicate_succ, Array.replicate_zero, List.push_toArray, List.append_toArray, List.nil_append, List.cons_append]
  gi_wp2_with (first | (refine ⟨trivial, rfl, ?_⟩; gi_at_call 96; refine (callsIn_wide.2 (places_any _ _)).mono ?_; rintro e w' ⟨rfl, rfl⟩))
  rw [HW1.out, HQ.out, HW2.out]
  refine wpIn_giw (gf := 116) (lb := #[.pointer (some ⟨q + 1 + 1, 0, none⟩)]) rfl (enters_of Tryd.func116 (by kernel_rfl) rfl) HG.out rfl
    (fun k T A => (∀ j, T j ↔ j = q + 1) ∧ Boxed A (q + 1) 3 (.int .i64 (dmx ((spots t [] 0).take k) : Int)) ∧ Below (q + 1) W1 A ∧ q + 3 ≤ A.heap.size)
    (fun T A => False)
    ?hI ?hSt ?hS ?hSh (fun j => j = q + 1) ?hT ?h0 ?hround ?hdone ?hret
  case hI =>
    rintro k T A C ⟨h1, h2, h3, h4⟩ ho
    rw [HS2.out] at ho
    exact ⟨h1, (ho.block _ h2.lt (.inl (by omega))).trans h2, h3.trans (ho.below (by omega) (by omega)), by have := ho.size; omega⟩
  case hSt => exact fun T A C h _ => h.elim
  case hS =>
    rintro k T A ⟨h1, h2, h3, h4⟩ j hj
    have := (h1 j).1 hj; omega
  case hSh =>
    rintro k T A ⟨h1, h2, h3, h4⟩
    exact HSH.out.on (by rw [HS1.out]; exact h3)
  case hT => intro k hk; rw [HS2.out]; omega
  case h0 => exact ⟨fun j => Iff.rfl, (by simpa [dmx] using HE1.out), HB2.out, by rw [HS2.out]; omega⟩
  case hround =>
    rintro l' k hk T A pa pc hl hlA hlr hTl ⟨h1, h2, h3, h4⟩ hrow hnR
    rw [HS2.out] at hl
    obtain ⟨s, hs⟩ : ∃ s, (spots t [] 0)[k] = s := ⟨_, rfl⟩
    have hlt := dmx_take (spots t [] 0) k hk
    have hle := dmx_le (spots t [] 0) (k + 1)
    have htot := dmx_spots t [] 0
    have hcn : t.dep ≤ 100000 := by have := Nd.dep_cnt t; have := HC.out; omega
    rw [List.length_nil, Nat.zero_add] at htot
    rw [hs] at hlt ⊢
    refine ⟨?a1, ?W3, ?hb, ?asg, ?bo⟩
    case asg =>
      intro K hK
      gi_wp2
      exact hK
    case hb => exact (Below.refl _ _).alloc (Nat.le_refl _) _
    case bo =>
      intro A3 hA3 hsame hl3 hI3
      obtain ⟨g1, g2, g3, g4⟩ := hI3
      obtain ⟨z, hz⟩ : ∃ z, dmx ((spots t [] 0).take k) = z := ⟨_, rfl⟩
      obtain ⟨n1, hn1⟩ : ∃ n, s.path.length = n := ⟨_, rfl⟩
      have hBk : Blk A3 A.heap.size 109 #[.pointer (some ⟨(ad s.path).1, (ad s.path).2, none⟩), .slice pa n1 pc, .int .i64 (s.off : Int)] := by
        rw [← hn1]
        exact (hsame A.heap.size (by omega)).trans (Blk.new A _ _)
      have p1 := hBk.cell 1
      simp only [List.getElem?_toArray, List.getElem?_cons_zero, List.getElem?_cons_succ] at p1
      rw [hn1]
      rw [hz, hn1] at hlt
      rw [hz] at g2
      have c1 := g2.cell
      have f1 := g2.frozen
      have hzx : n1 + 1 ≤ 100000 := by omega
      have m1 : IntKind.i64.wrap (1 + (n1 : Int)) = ((n1 + 1 : Nat) : Int) := by simp [IntKind.wrap, IntKind.signed, IntKind.bits]; omega
      have m2 : max (z : Int) ((n1 + 1 : Nat) : Int) = ((max z (n1 + 1) : Nat) : Int) := by omega
      have m3 : max (z : Int) (1 + (n1 : Int)) = ((max z (n1 + 1) : Nat) : Int) := by omega
      have M4 : Hid (max (z : Int) ((n1 : Int) + 1) = ((max z (n1 + 1) : Nat) : Int)) := by show _ = _; omega
      have HI3 : Hid ((∀ j, T j ↔ j = q + 1) ∧ Boxed A3 (q + 1) 3 (.int .i64 (z : Int)) ∧ Below (q + 1) W1 A3 ∧ q + 3 ≤ A3.heap.size) := ⟨g1, g2, g3, g4⟩
      have HLT := Lib.hid hlt
      clear g1 g2 g3 hsame hrow hnR h1 h2 h3 hlr hBk hlt hle htot hn1 hz hs
      gi_wp2
      rw [M4.out]
      obtain ⟨g1, g2, g3, g5⟩ := HI3.out
      have hg := grownBy_setCell' A3 (q + 1) (.int .i64 (max z (n1 + 1) : Nat))
      refine ⟨T, ⟨g1, ?_, g3.setCell (p := ⟨q + 1, 0, none⟩) (by show q + 1 ≤ q + 1; omega) _, by have := hg.size; omega⟩, hg.size, fun j hj hT => hg.block j hj (fun e => hT ((g1 j).2 (by cases e; rfl))), fun j hj => .inl hj⟩
      rw [HLT.out]
      exact g2.set _
  case hdone =>
    rintro T A hA ⟨h1, h2, h3, h4⟩ hTw hK
    rw [List.take_length, dmx_spots, List.length_nil, Nat.zero_add] at h2
    have c1 := h2.cell
    have HF : Hid (Below q w A) := HB1.out.trans (h3.mono (by omega))
    rw [HS2.out] at hK
    clear h1 h2 h3
    gi_wp2
    refine ⟨by simp, .inl ⟨_, _, rfl, run_takeDeferred (by rw [HS2.out]; exact hK), ?_⟩⟩
    have hF : Below w.heap.size w (A.putObj W2.heap.size (.deferred none)) := by
      rw [HQ.out]
      exact HF.out.trans ⟨rfl, rfl, rfl, by simp, fun k hk => World.putObj_heap_other (by rw [HS2.out]; have := HQ.out; omega)⟩
    exact ⟨_, results_tmp rfl _ _ _, rfl, hF⟩
  case hret => exact fun T A _ h => h.elim

end Go.Proofs.YtgfhhpodcnohpaaDoor

/- The reference's IDs. Conditions: trees of at most 100000 nodes. -/
namespace Go.Proofs.YtgfhhpodcnohpaaDoor
open Go.RowKit Go.Shelf
set_option linter.unusedVariables false

/-- The IDs of nodes, as integers in memory. -/
abbrev idv (l : List Nd) : List Value := l.map fun (t : Nd) => Value.int .i64 t.id

end Go.Proofs.YtgfhhpodcnohpaaDoor

/- The program's IDs. Conditions: trees of at most 100000 nodes and 1000000000 bytes. -/
namespace Go.Proofs.YtgfhhpodcnohpaaDoor
open Go.RowKit Go.Shelf
set_option linter.unusedVariables false
attribute [local go_sem] Oper.semAt_some

/-- The IDs of places' nodes, as integers in memory. -/
abbrev sids (l : List Spot) : List Value := l.map fun (s : Spot) => Value.int .i64 s.nd.id
theorem sids_take (l : List Spot) (k : Nat) (h : k < l.length) : sids (l.take (k + 1)) = sids (l.take k) ++ [.int .i64 l[k].nd.id] := by
  unfold sids
  rw [List.take_succ_eq_append_getElem h, List.map_append]; rfl

/-- 'l = append(l, x)' in a round, l a variable in block q + 1. -/
theorem app_step {q k : Nat} {e ty : TypeId} {size : Nat} {V : Value} {gg cap1 : Nat} {xs ys : List Value} {T : Nat → Prop} {A3 X w1 W1 : World} (hT : ∀ j, T j ↔ (j = q + 1 ∨ V.ownBlock = some j)) (hbx : Boxed A3 (q + 1) ty V) (hrow : A3.ownsRow (q + 2) e size V k xs) (hB : Below (q + 1) W1 A3) (hz : q + 3 ≤ A3.heap.size)
    (hX : Below A3.heap.size A3 X) (hown : w1.ownsRow (q + 2) e size (.slice (some ⟨gg, 0, none⟩) (k + 1) cap1) (k + 1) ys) (hgrow : X.grownBy w1 V.ownBlock) (hat : V.ownBlock = some gg ∨ gg = A3.heap.size + 1) :
    ∃ T', (∃ v, (∀ j, T' j ↔ (j = q + 1 ∨ v.ownBlock = some j)) ∧ Boxed (w1.setCell ⟨q + 1, 0, none⟩ (.slice (some ⟨gg, 0, none⟩) (k + 1) cap1)) (q + 1) ty v ∧ (w1.setCell ⟨q + 1, 0, none⟩ (.slice (some ⟨gg, 0, none⟩) (k + 1) cap1)).ownsRow (q + 2) e size v (k + 1) ys ∧
      Below (q + 1) W1 (w1.setCell ⟨q + 1, 0, none⟩ (.slice (some ⟨gg, 0, none⟩) (k + 1) cap1)) ∧ q + 3 ≤ (w1.setCell ⟨q + 1, 0, none⟩ (.slice (some ⟨gg, 0, none⟩) (k + 1) cap1)).heap.size) ∧ Rnd T T' A3 (w1.setCell ⟨q + 1, 0, none⟩ (.slice (some ⟨gg, 0, none⟩) (k + 1) cap1)) := by
  have hg := grownBy_setCell' w1 (q + 1) (.slice (some ⟨gg, 0, none⟩) (k + 1) cap1)
  have hgs := hg.size
  have hxs := hX.size
  have hws := hgrow.size
  have hb : ∀ j, j < A3.heap.size → some j ≠ V.ownBlock → w1.heap[j]? = A3.heap[j]? := fun j hj hne => (hgrow.block j (by omega) hne).trans (hX.block j hj)
  have hrl := hrow.lt
  have hq : some (q + 1) ≠ V.ownBlock := fun e => by have := (hrl _ e.symm).1; omega
  have hbw : Boxed w1 (q + 1) ty V := (hb (q + 1) (by omega) hq).trans hbx
  have hgl := hown.lt gg rfl
  have hb2 : ∀ j, j < A3.heap.size → some j ≠ V.ownBlock → j ≠ q + 1 → (w1.setCell ⟨q + 1, 0, none⟩ (.slice (some ⟨gg, 0, none⟩) (k + 1) cap1)).heap[j]? = A3.heap[j]? := fun j hj hne h1 => (hg.block j (by omega) (fun e => h1 (by cases e; rfl))).trans (hb j hj hne)
  refine ⟨fun j => j = q + 1 ∨ (Value.slice (some ⟨gg, 0, none⟩) (k + 1) cap1).ownBlock = some j, ⟨_, fun j => Iff.rfl, hbw.set _, own_same hown (fun g h => hg.block g (hown.lt g h).2 (fun e => by have := (hown.lt g h).1; cases e; omega)), hB.trans ⟨?_, ?_, ?_, by omega, fun j hj => hb2 j (by omega) (fun e => by have := (hrl _ e.symm).1; omega) (by omega)⟩, by omega⟩, by omega, fun j hj hn => hb2 j hj (fun e => hn ((hT j).2 (.inr e.symm))) (fun e => hn ((hT j).2 (.inl e))), fun j hj => ?_⟩
  · exact hg.os.trans (hgrow.os.trans hX.os)
  · exact hg.tape.trans (hgrow.tape.trans hX.tape)
  · exact hg.output.trans (hgrow.output.trans hX.output)
  · rcases hj with h | h
    · exact .inl ((hT j).2 (.inl h))
    · simp only [Value.ownBlock, Option.some.injEq] at h
      subst h
      rcases hat with h | h
      · exact .inl ((hT gg).2 (.inr h))
      · exact .inr (by omega)

end Go.Proofs.YtgfhhpodcnohpaaDoor

/- The program's Leaves. Conditions: trees of at most 100000 nodes and 1000000000 bytes. -/
namespace Go.Proofs.YtgfhhpodcnohpaaDoor
open Go.RowKit Go.Shelf
set_option linter.unusedVariables false
attribute [local go_sem] Oper.semAt_some

/-- The leaves at places, as tokens. -/
def ltk (l : List Spot) : List (Int × ByteArray × Nat) := l.map fun s => (s.nd.kind, s.nd.text, s.off)
theorem ltk_len (l : List Spot) : (ltk l).length = l.length := List.length_map _
theorem ltk_take (l : List Spot) (k : Nat) (h : k < l.length) : tkv (ltk (l.take (k + 1))) = tkv (ltk (l.take k)) ++ [.int .i64 l[k].nd.kind, .string l[k].nd.text, .int .i64 (l[k].off : Int)] := by
  unfold ltk
  rw [List.take_succ_eq_append_getElem h, List.map_append, tkv_app]; rfl
theorem SH.lt {w : World} {ad : List Nat → Nat × Nat} {t : Nd} {p : List Nat} (h : SH w ad t p) : (ad p).1 < w.heap.size := by
  cases h with
  | mk hb h1 h2 h3 hle hmx ha hk => exact hb
theorem lspots_len (t : Nd) : (lspots t).length ≤ t.cnt := by
  have h := List.length_filter_le (fun s : Spot => decide s.nd.leaf) (spots t [] 0)
  rw [spots_len] at h
  exact h

set_option maxRecDepth 100000 in
set_option maxHeartbeats 4000000 in
theorem pleaves_any (t : Nd) (a : Option Addr) (n cap : Nat) (w : World) (G : Nat → Prop) (hK : KV G w a n cap t.kids) (hc : t.cnt ≤ 100000) (hw : t.pw ≤ 1000000000) :
    Calls Tryd.prog 40 #[ndv t a n cap] w fun e w' => ∃ u, e = .returned u ∧ NewTk w (ltk (lspots t)) u w' := by
  obtain ⟨W1, hW1⟩ : ∃ W, w.alloc (.cells (ndc t a n cap) 60) = W := ⟨_, rfl⟩
  have b1 : Below w.heap.size w W1 := by rw [← hW1]; exact (Below.refl _ _).alloc (Nat.le_refl _) _
  have k1 : Blk W1 w.heap.size 60 (ndc t a n cap) := by rw [← hW1]; exact Blk.new _ _ _
  have hs1 : W1.heap.size = w.heap.size + 1 := by rw [← hW1]; simp
  obtain ⟨ad, had, hSH, hSI⟩ := root_ad hK b1 k1
  obtain ⟨q, hq⟩ : ∃ q, w.heap.size = q := ⟨_, rfl⟩
  rw [hq] at had hs1 b1
  obtain ⟨W2, hW2⟩ : ∃ W2, (W1.alloc (.cells #[.slice none 0 0] 26)).alloc (.cells #[.pointer (some ⟨q, 0, none⟩)] 107) = W2 := ⟨_, rfl⟩
  have b2 : Below (q + 1) W1 W2 := by rw [← hW2]; exact ((Below.refl _ _).alloc (by omega) _).alloc (by simp; omega) _
  have hs2 : W2.heap.size = q + 3 := by rw [← hW2]; simp; omega
  have e1 : Boxed W2 (q + 1) 26 (.slice none 0 0) := by rw [← hW2, ← hs1]; exact (Boxed.new W1 _ _).alloc _
  have e2 : Boxed W2 (q + 2) 107 (.pointer (some ⟨(ad []).1, (ad []).2, none⟩)) := by
    have := Boxed.new (W1.alloc (.cells #[.slice none 0 0] 26)) 107 (.pointer (some ⟨q, 0, none⟩))
    rw [World.size_alloc, hs1] at this
    rw [← hW2, had]; exact this
  have HG := Lib.hid (leaves_giw ad t (q + 2) W2 e2 hc hw)
  have HSH := Lib.hid hSH; have HSI := Lib.hid hSI; have HQ := Lib.hid hq; have HB1 := Lib.hid b1; have HB2 := Lib.hid b2; have HS1 := Lib.hid hs1; have HS2 := Lib.hid hs2; have HE1 := Lib.hid e1; have HC := Lib.hid hc; have HP := Lib.hid hw
  have hmx : Tryd.prog.follows .mixedOrders = true := by kernel_rfl
  obtain ⟨id, hid⟩ : ∃ x, t.id = x := ⟨_, rfl⟩
  obtain ⟨kd, hkd⟩ : ∃ x, t.kind = x := ⟨_, rfl⟩
  obtain ⟨tx, htx⟩ : ∃ x, t.text = x := ⟨_, rfl⟩
  unfold ndv ndc at *
  rw [hid, hkd, htx] at hW1 ⊢
  have HW1 := Lib.hid hW1; have HW2 := Lib.hid hW2
  clear hK hc hw hW1 b1 k1 hs1 had hSH hSI hq hW2 b2 hs2 e1 e2 hid hkd htx
  refine (callsIn_wide (n := 0)).1 ?_
  refine callsIn_of_wp_marks Tryd.func40 rfl trivial ?_ rfl
  simp only [Tryd.ntmps40, List.size_toArray, List.length_cons, List.length_nil, Nat.reduceAdd, Nat.reduceSub, Array.replicate_succ, Array.replicate_zero, List.push_toArray, List.append_toArray, List.nil_append, List.cons_append]
  gi_wp2_with (first | (refine ⟨trivial, rfl, ?_⟩; gi_at_call 68; refine (callsIn_wide.2 (leaves_any _ _)).mono ?_; rintro e w' ⟨rfl, rfl⟩))
  rw [HW1.out, HQ.out, HW2.out]
  refine wpIn_giw (gf := 95) (lb := #[.pointer (some ⟨q + 1 + 1, 0, none⟩)]) rfl (enters_of Tryd.func95 (by kernel_rfl) rfl) HG.out rfl
    (fun k T A => ∃ v, (∀ j, T j ↔ (j = q + 1 ∨ v.ownBlock = some j)) ∧ Boxed A (q + 1) 26 v ∧ A.ownsRow (q + 2) 31 3 v k (tkv (ltk ((lspots t).take k))) ∧ Below (q + 1) W1 A ∧ q + 3 ≤ A.heap.size)
    (fun T A => False)
    ?hI ?hSt ?hS ?hSh (fun j => j = q + 1) ?hT ?h0 ?hround ?hdone ?hret
  case hI =>
    rintro k T A C ⟨v, h1, h2, h5, h3, h4⟩ ho
    rw [HS2.out] at ho
    exact ⟨v, h1, (ho.block _ h2.lt (.inl (by omega))).trans h2, own_same h5 (fun g hg => ho.block g (h5.lt g hg).2 (.inr ((h1 g).2 (.inr hg)))), h3.trans (ho.below (by omega) (by omega)), by have := ho.size; omega⟩
  case hSt => exact fun T A C h _ => h.elim
  case hS =>
    rintro k T A ⟨v, h1, h2, h5, h3, h4⟩ j hj
    rcases (h1 j).1 hj with rfl | h
    · omega
    · exact (h5.lt j h).2
  case hSh =>
    rintro k T A ⟨v, h1, h2, h5, h3, h4⟩
    exact HSH.out.on (by rw [HS1.out]; exact h3)
  case hT => intro k hk; rw [HS2.out]; omega
  case h0 => exact ⟨.slice none 0 0, fun j => by simp [Value.ownBlock], HE1.out, World.ownsRow_nil _ _ _ _, HB2.out, by rw [HS2.out]; omega⟩
  case hround =>
    rintro l' k hk T A pa pc hl hlA hlr hTl ⟨v0, h1, h2, h5, h3, h4⟩ hrow hnR
    rw [HS2.out] at hl
    have HTS : Hid (∀ j, T j → j < A.heap.size) := fun j hj => by
      rcases (h1 j).1 hj with rfl | h
      · omega
      · exact (h5.lt j h).2
    obtain ⟨s, hs⟩ : ∃ s, (lspots t)[k] = s := ⟨_, rfl⟩
    have hxt := ltk_take (lspots t) k hk
    have hk5 : k < 100000 := by have := lspots_len t; have := HC.out; omega
    have hsm := (lspots_leaf (show s ∈ lspots t by rw [← hs]; exact List.getElem_mem hk)).2
    rw [hs] at hxt ⊢
    refine ⟨?a1, ?W3, ?hb, ?asg, ?bo⟩
    case asg =>
      intro K hK
      gi_wp2
      exact hK
    case hb => exact (Below.refl _ _).alloc (Nat.le_refl _) _
    case bo =>
      intro A3 hA3 hsame hl3 hI3
      obtain ⟨v1, g1, g2, g6, g3, g4⟩ := hI3
      have hS3 := SH.spot t.dep t [] 0 (Nat.le_refl _) (HSH.out.on (by rw [HS1.out]; exact g3)) s hsm
      have d1 := hS3.kind
      have d2 := hS3.txt
      obtain ⟨b, hb⟩ : ∃ b, (ad s.path).1 = b := ⟨_, rfl⟩
      obtain ⟨f, hf⟩ : ∃ b, (ad s.path).2 = b := ⟨_, rfl⟩
      obtain ⟨x, hx⟩ : ∃ x, s.nd.text = x := ⟨_, rfl⟩
      obtain ⟨kk, hkk⟩ : ∃ x, s.nd.kind = x := ⟨_, rfl⟩
      obtain ⟨z, hz⟩ : ∃ x, s.off = x := ⟨_, rfl⟩
      have dl : b < A3.heap.size := by rw [← hb]; exact hS3.lt
      have hBk : Blk A3 A.heap.size 109 #[.pointer (some ⟨b, f, none⟩), .slice pa s.path.length pc, .int .i64 (z : Int)] := by
        rw [← hb, ← hf, ← hz]
        exact (hsame A.heap.size (by omega)).trans (Blk.new A _ _)
      have p0 := hBk.cell 0
      have p2 := hBk.cell 2
      have pl := hBk.lt
      simp only [List.getElem?_toArray, List.getElem?_cons_zero, List.getElem?_cons_succ] at p0 p2
      rw [hb, hf, hkk] at d1
      rw [hb, hf, hx] at d2
      rw [hb, hf, hz]
      rw [hx, hkk, hz] at hxt
      obtain ⟨av, cv, rfl⟩ := own_slice g6
      have c1 := g2.cell
      have f1 := g2.frozen
      obtain ⟨i3, hi3, iy0, iy1, iy2⟩ := info_parts infoTk
      have hqz : q + 2 ≤ A3.heap.size := by omega
      have hq1 : q + 1 < A3.heap.size := by omega
      have HO6 := Lib.hid g6
      have HI3 : Hid ((∀ j, T j ↔ (j = q + 1 ∨ (Value.slice av k cv).ownBlock = some j)) ∧ Boxed A3 (q + 1) 26 (.slice av k cv) ∧ Below (q + 1) W1 A3 ∧ q + 3 ≤ A3.heap.size) := ⟨g1, g2, g3, g4⟩
      have HXT := Lib.hid hxt
      have hnp : (Value.slice av k cv).ownBlock ≠ some (q + 1) := fun e => by have := (g6.lt _ e).1; omega
      have HG2 := Lib.hid g2
      have HNE : Hid (¬ (b = q + 1) ∧ ¬ (A.heap.size = q + 1)) := ⟨fun e => by have h1 := SH.spot t.dep t [] 0 (Nat.le_refl _) HSH.out s hsm; have h2 := h1.lt; rw [hb, HS1.out] at h2; omega, fun e => by omega⟩
      have HNR : Hid (∀ j, (j = b ∨ j = A.heap.size) → (Value.slice av k cv).ownBlock ≠ some j) := fun j hj e => by
        rcases hj with rfl | rfl
        · have h1 := SH.spot t.dep t [] 0 (Nat.le_refl _) HSH.out s hsm
          have h2 := h1.lt
          have h4 := (g6.lt _ e).1
          rw [hb, HS1.out] at h2; omega
        · obtain ⟨g1', g2', g3', g4'⟩ := HI3.out
          exact absurd ((g1' _).2 (.inr e)) (fun hT => by have := HTS.out _ hT; omega)
      have hqb : ¬ (b = q + 1) ∧ ¬ (A.heap.size = q + 1) := HNE.out
      have HSX : Hid (∀ V : World, (∀ j, (j = b ∨ j = A.heap.size) → V.heap[j]? = A3.heap[j]?) → V.cell? ⟨A.heap.size, 0, none⟩ = some (.pointer (some ⟨b, f, none⟩)) ∧ V.cell? ⟨A.heap.size, 2, none⟩ = some (.int .i64 (z : Int)) ∧ V.cell? ⟨b, f + 1, none⟩ = some (.int .i64 kk) ∧ V.cell? ⟨b, f + 2, none⟩ = some (.string x)) := fun V hV => by
        have e1 := hV b (.inl rfl)
        have e2 := hV A.heap.size (.inr rfl)
        simp only [World.cell?, e1, e2] at p0 p2 d1 d2 ⊢
        exact ⟨p0, p2, d1, d2⟩
      have hS1 := HSX.out ((A3.alloc (.cells #[.int .i64 kk, .string x, .int .i64 (z : Int)] 31)).drew) (fun j hj => Below.heap_alloc A3 _ j (by rcases hj with rfl | rfl <;> assumption))
      have HSA : Hid (∀ w1, ((A3.alloc (.cells #[.int .i64 kk, .string x, .int .i64 (z : Int)] 31)).drew).grownBy w1 (Value.slice av k cv).ownBlock → w1.cell? ⟨A.heap.size, 0, none⟩ = some (.pointer (some ⟨b, f, none⟩)) ∧ w1.cell? ⟨A.heap.size, 2, none⟩ = some (.int .i64 (z : Int)) ∧ w1.cell? ⟨b, f + 1, none⟩ = some (.int .i64 kk) ∧ w1.cell? ⟨b, f + 2, none⟩ = some (.string x)) := fun w1 hg => HSX.out w1 (fun j hj => (hg.block j (by simp; rcases hj with rfl | rfl <;> omega) (fun e => (HNR.out j hj) e.symm)).trans (Below.heap_alloc A3 _ j (by rcases hj with rfl | rfl <;> assumption)))
      have HSB : Hid (∀ w1 v, ((A3.alloc (.cells #[.int .i64 kk, .string x, .int .i64 (z : Int)] 31)).drew).grownBy w1 (Value.slice av k cv).ownBlock → (w1.setCell ⟨q + 1, 0, none⟩ v).cell? ⟨A.heap.size, 0, none⟩ = some (.pointer (some ⟨b, f, none⟩)) ∧ (w1.setCell ⟨q + 1, 0, none⟩ v).cell? ⟨A.heap.size, 2, none⟩ = some (.int .i64 (z : Int)) ∧ (w1.setCell ⟨q + 1, 0, none⟩ v).cell? ⟨b, f + 1, none⟩ = some (.int .i64 kk) ∧ (w1.setCell ⟨q + 1, 0, none⟩ v).cell? ⟨b, f + 2, none⟩ = some (.string x)) := fun w1 v hg => HSX.out _ (fun j hj => (Below.heap_setCell w1 ⟨q + 1, 0, none⟩ v j (by rcases hj with rfl | rfl; exact hqb.1; exact hqb.2)).trans ((hg.block j (by simp; rcases hj with rfl | rfl <;> omega) (fun e => (HNR.out j hj) e.symm)).trans (Below.heap_alloc A3 _ j (by rcases hj with rfl | rfl <;> assumption))))
      clear g1 g2 g3 hsame hrow hnR h1 h2 h3 h5 hlr hBk hs hsm hx hxt g6 hA3 hkk hz hS3
      gi_wp2
      refine region_round (S := (fun V : World => V.cell? ⟨A.heap.size, 0, none⟩ = some (.pointer (some ⟨b, f, none⟩)) ∧ V.cell? ⟨A.heap.size, 2, none⟩ = some (.int .i64 (z : Int)) ∧ V.cell? ⟨b, f + 1, none⟩ = some (.int .i64 kk) ∧ V.cell? ⟨b, f + 2, none⟩ = some (.string x))) (by kernel_rfl) (by kernel_rfl) (fun ⟨_, _, h⟩ => h) ⟨p0, p2, d1, d2⟩ (fun hS0 => ?_)
      refine takeH (i := 1) (d := (some 8)) (v := ?_) rfl rfl (by kernel_rfl) (by kernel_rfl) (by kernel_rfl) (fun _ _ _ h => h) (Or.inl ⟨by kernel_rfl, ?_⟩) hS0 ?_
      rotate_left
      focus (intro w hSw; (try dsimp only at hSw); go_simp; first | done | with_reducible rfl)
      try simp only [Act.put]
      try simp only [List.setIfInBounds_toArray]
      try simp only [List.set_cons_succ]
      try simp only [List.set_cons_zero]
      refine takeH (i := 2) (d := (some 9)) (v := ?_) rfl rfl (by kernel_rfl) (by kernel_rfl) (by kernel_rfl) (fun _ _ _ h => h) (Or.inl ⟨by kernel_rfl, ?_⟩) hS0 ?_
      rotate_left
      focus (intro w hSw; (try dsimp only at hSw); go_simp; first | done | with_reducible rfl)
      try simp only [Act.put]
      try simp only [List.setIfInBounds_toArray]
      try simp only [List.set_cons_succ]
      try simp only [List.set_cons_zero]
      refine takeH (i := 3) (d := (some 10)) (v := ?_) rfl rfl (by kernel_rfl) (by kernel_rfl) (by kernel_rfl) (fun _ _ _ h => h) (Or.inl ⟨by kernel_rfl, ?_⟩) hS0 ?_
      rotate_left
      focus (intro w hSw; (try dsimp only at hSw); go_simp; first | done | with_reducible rfl)
      try simp only [Act.put]
      try simp only [List.setIfInBounds_toArray]
      try simp only [List.set_cons_succ]
      try simp only [List.set_cons_zero]
      refine takeH (i := 4) (d := (some 11)) (v := ?_) rfl rfl (by kernel_rfl) (by kernel_rfl) (by kernel_rfl) (fun _ _ _ h => h) (Or.inl ⟨by kernel_rfl, ?_⟩) hS0 ?_
      rotate_left
      focus (intro w hSw; (try dsimp only at hSw); go_simp; first | done | with_reducible rfl)
      try simp only [Act.put]
      try simp only [List.setIfInBounds_toArray]
      try simp only [List.set_cons_succ]
      try simp only [List.set_cons_zero]
      refine takeH (i := 5) (d := (some 12)) (v := ?_) rfl rfl (by kernel_rfl) (by kernel_rfl) (by kernel_rfl) (fun _ _ _ h => h) (Or.inl ⟨by kernel_rfl, ?_⟩) hS0 ?_
      rotate_left
      focus (intro w hSw; (try dsimp only at hSw); go_simp; first | done | with_reducible rfl)
      try simp only [Act.put]
      try simp only [List.setIfInBounds_toArray]
      try simp only [List.set_cons_succ]
      try simp only [List.set_cons_zero]
      refine takeH (i := 6) (d := (some 13)) (v := ?_) rfl rfl (by kernel_rfl) (by kernel_rfl) (by kernel_rfl) (fun _ _ _ h => h) (Or.inl ⟨by kernel_rfl, ?_⟩) hS0 ?_
      rotate_left
      focus (intro w hSw; (try dsimp only at hSw); go_simp; first | done | with_reducible rfl)
      try simp only [Act.put]
      try simp only [List.setIfInBounds_toArray]
      try simp only [List.set_cons_succ]
      try simp only [List.set_cons_zero]
      refine takeH (i := 7) (d := (some 14)) (v := ?_) rfl rfl (by kernel_rfl) (by kernel_rfl) (by kernel_rfl) (fun _ _ _ h => h) (Or.inl ⟨by kernel_rfl, ?_⟩) hS0 ?_
      rotate_left
      focus (intro w hSw; (try dsimp only at hSw); go_simp; first | done | with_reducible rfl)
      try simp only [Act.put]
      try simp only [List.setIfInBounds_toArray]
      try simp only [List.set_cons_succ]
      try simp only [List.set_cons_zero]
      refine takeH (i := 8) (d := (some 15)) (v := ?_) rfl rfl (by kernel_rfl) (by kernel_rfl) (by kernel_rfl) (fun _ _ _ h => h) (Or.inl ⟨by kernel_rfl, ?_⟩) hS0 ?_
      rotate_left
      focus (intro w hSw; (try dsimp only at hSw); go_simp; first | done | with_reducible rfl)
      try simp only [Act.put]
      try simp only [List.setIfInBounds_toArray]
      try simp only [List.set_cons_succ]
      try simp only [List.set_cons_zero]
      refine takeH (i := 9) (d := (some 16)) (v := ?_) rfl rfl (by kernel_rfl) (by kernel_rfl) (by kernel_rfl) (fun _ _ _ h => h) (Or.inl ⟨by kernel_rfl, ?_⟩) hS0 ?_
      rotate_left
      focus (intro w hSw; (try dsimp only at hSw); go_simp; first | done | with_reducible rfl)
      try simp only [Act.put]
      try simp only [List.setIfInBounds_toArray]
      try simp only [List.set_cons_succ]
      try simp only [List.set_cons_zero]
      refine takeH (i := 10) (d := (some 17)) (v := ?_) rfl rfl (by kernel_rfl) (by kernel_rfl) (by kernel_rfl) (fun _ _ _ h => h) (Or.inl ⟨by kernel_rfl, ?_⟩) hS0 ?_
      rotate_left
      focus (intro w hSw; (try dsimp only at hSw); go_simp; first | done | with_reducible rfl)
      try simp only [Act.put]
      try simp only [List.setIfInBounds_toArray]
      try simp only [List.set_cons_succ]
      try simp only [List.set_cons_zero]
      refine takeH (i := 11) (d := (some 18)) (v := ?_) rfl rfl (by kernel_rfl) (by kernel_rfl) (by kernel_rfl) (fun _ _ _ h => h) (Or.inl ⟨by kernel_rfl, ?_⟩) hS0 ?_
      rotate_left
      focus (intro w hSw; (try dsimp only at hSw); go_simp; first | done | with_reducible rfl)
      try simp only [Act.put]
      try simp only [List.setIfInBounds_toArray]
      try simp only [List.set_cons_succ]
      try simp only [List.set_cons_zero]
      refine takeH (i := 12) (d := (some 19)) (v := ?_) rfl rfl (by kernel_rfl) (by kernel_rfl) (by kernel_rfl) (fun _ _ _ h => h) (Or.inl ⟨by kernel_rfl, ?_⟩) hS0 ?_
      rotate_left
      focus (intro w hSw; (try dsimp only at hSw); go_simp; first | done | with_reducible rfl)
      try simp only [Act.put]
      try simp only [List.setIfInBounds_toArray]
      try simp only [List.set_cons_succ]
      try simp only [List.set_cons_zero]
      refine takeH (i := 13) (d := (some 20)) (v := ?_) rfl rfl (by kernel_rfl) (by kernel_rfl) (by kernel_rfl) (fun _ _ _ h => h) (Or.inl ⟨by kernel_rfl, ?_⟩) hS0 ?_
      rotate_left
      focus (intro w hSw; (try dsimp only at hSw); go_simp; first | done | with_reducible rfl)
      try simp only [Act.put]
      try simp only [List.setIfInBounds_toArray]
      try simp only [List.set_cons_succ]
      try simp only [List.set_cons_zero]
      refine wpAnyH_ready (rs := [0, 14]) (by kernel_rfl) (by simp) ?_
      refine AllReadyH.cons (o := _) rfl (fun K hK => ?_) (AllReadyH.cons (o := _) rfl (fun K hK => ?_) AllReadyH.nil)
      case' refine_1 =>
        go_simp
        refine hK.out _ _ hS0 (fun hHeld => ?_)
        clear hK K hHeld
        try simp only [Act.put]
        try simp only [List.setIfInBounds_toArray]
        try simp only [List.set_cons_succ]
        try simp only [List.set_cons_zero]
        refine wpAnyH_ready (rs := [14]) (by kernel_rfl) (by simp) ?_
        refine AllReadyH.cons (o := _) rfl (fun K hK => ?_) AllReadyH.nil
        go_simp
        refine hK.out _ _ hS1 (fun hHeld => ?_)
        clear hK K hHeld
        try simp only [Act.put]
        try simp only [List.setIfInBounds_toArray]
        try simp only [List.set_cons_succ]
        try simp only [List.set_cons_zero]
      case' refine_2 =>
        go_simp
        refine hK.out _ _ hS1 (fun hHeld => ?_)
        clear hK K hHeld
        try simp only [Act.put]
        try simp only [List.setIfInBounds_toArray]
        try simp only [List.set_cons_succ]
        try simp only [List.set_cons_zero]
        refine wpAnyH_ready (rs := [0]) (by kernel_rfl) (by simp) ?_
        refine AllReadyH.cons (o := _) rfl (fun K hK => ?_) AllReadyH.nil
        go_simp
        refine hK.out _ _ hS1 (fun hHeld => ?_)
        clear hK K hHeld
        try simp only [Act.put]
        try simp only [List.setIfInBounds_toArray]
        try simp only [List.set_cons_succ]
        try simp only [List.set_cons_zero]
      all_goals
        refine wpAnyH_ready (rs := [15]) (by kernel_rfl) (by simp) ?_
        refine AllReadyH.cons (o := _) rfl (fun K hK => ?_) AllReadyH.nil
        refine step_append_lies _ (by rfl) _ _ _ (by rfl) (q + 2) 31 i3 _ 3 32 Tryd.underlying26 hi3 iy0 iy1 iy2 rfl (by decide) (.slice av k cv) k (tkv (ltk ((lspots t).take k))) (by rfl) ((HO6.out.alloc _).drew) ⟨A3.heap.size, 0, none⟩ 1 1 [.int .i64 kk, .string x, .int .i64 (z : Int)] (by rfl) (by rfl) (World.news_of_block (cs := #[.int .i64 kk, .string x, .int .i64 (z : Int)]) (t := 31) (fr := (0, 0)) (World.alloc_heap_new A3 _)) (fun u hu => by simp at hu; rcases hu with rfl | rfl | rfl <;> rfl) (by omega) (by unfold maxLen; omega) (by omega) (by simp; omega) (A3.heap.size + 1) (by simp) ?_
        intro gg cap1 w1 hown1 hgrow1 hat1 hlt1
        have hs3 : w1.cell? ⟨q + 1, 0, none⟩ = some (.slice av k cv) := (hgrow1.cell_far ⟨q + 1, 0, none⟩ (by simp; omega) (Ne.symm hnp)).trans (HG2.out.alloc _).cell
        have hsf : w1.frozen? ⟨q + 1, 0, none⟩ = false := (hgrow1.frozen_far ⟨q + 1, 0, none⟩ (by simp; omega) (Ne.symm hnp)).trans (HG2.out.alloc _).frozen
        have hS15 := HSA.out w1 hgrow1
        have hS16 := HSB.out w1 (.slice (some ⟨gg, 0, none⟩) (k + 1) cap1) hgrow1
        refine hK.out _ _ hS15 (fun hHeld => ?_)
        clear hK K hHeld
        try simp only [Act.put]
        try simp only [List.setIfInBounds_toArray]
        try simp only [List.set_cons_succ]
        try simp only [List.set_cons_zero]
        refine wpAnyH_ready (rs := [16]) (by kernel_rfl) (by simp) ?_
        refine AllReadyH.cons (o := _) rfl (fun K hK => ?_) AllReadyH.nil
        go_simp
        refine hK.out _ _ hS16 (fun hHeld => ?_)
        clear hK K hHeld
        try simp only [Act.put]
        try simp only [List.setIfInBounds_toArray]
        try simp only [List.set_cons_succ]
        try simp only [List.set_cons_zero]
        refine wpAnyH_done (by kernel_rfl) ?_ _
        obtain ⟨g1, g2, g3, g4⟩ := HI3.out
        have hfin := app_step g1 g2 HO6.out g3 g4 (((Below.refl _ A3).alloc (Nat.le_refl _) (.cells #[.int .i64 kk, .string x, .int .i64 (z : Int)] 31)).drew) hown1 hgrow1 hat1
        have HFIN := Lib.hid hfin
        clear hfin hown1 hgrow1 hat1 hlt1 hs3 hsf g1 g2 g3 g4 hS15 hS16
        gi_wp2
        obtain ⟨T', ⟨v, k1, k2, k3, k4⟩, k5⟩ := HFIN.out
        exact ⟨T', ⟨v, k1, k2, by rw [HXT.out]; exact k3, k4⟩, k5⟩
  case hdone =>
    rintro T A hA ⟨v, h1, h2, h5, h3, h4⟩ hTw hK
    rw [List.take_length] at h5
    obtain ⟨av, cv, rfl⟩ := own_slice h5
    have c1 := h2.cell
    have HF : Hid (Below q w A) := HB1.out.trans (h3.mono (by omega))
    have hne : (Value.slice av (lspots t).length cv).ownBlock ≠ some W2.heap.size := fun e => hTw ((h1 _).2 (.inr e))
    have HRW : Hid ((A.putObj W2.heap.size (.deferred none)).ownsRow w.heap.size 31 3 (.slice av (lspots t).length cv) (ltk (lspots t)).length (tkv (ltk (lspots t)))) := by
      rw [ltk_len]
      exact own_base2 (own_same h5 (fun g hg => World.putObj_heap_other (fun e => hne (by rw [hg, e])))) (by rw [HQ.out]; omega)
    rw [HS2.out] at hK
    clear h1 h2 h3 h5 hne
    gi_wp2
    refine ⟨by simp, .inl ⟨_, _, rfl, run_takeDeferred (by rw [HS2.out]; exact hK), ?_⟩⟩
    have hF : Below w.heap.size w (A.putObj W2.heap.size (.deferred none)) := by
      rw [HQ.out]
      exact HF.out.trans ⟨rfl, rfl, rfl, by simp, fun k hk => World.putObj_heap_other (by rw [HS2.out]; have := HQ.out; omega)⟩
    refine ⟨_, results_tmp (t := 2) rfl _ _ _, ⟨_, rfl, ?_, hF⟩⟩
    exact HRW.out
  case hret => exact fun T A _ h => h.elim

end Go.Proofs.YtgfhhpodcnohpaaDoor
