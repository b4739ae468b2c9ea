/- The program's Width. Conditions: trees of at most 100000 nodes and 1000000000 bytes. -/
import Derived.Test.YtgfhhpodcnohpaaDoorSCo
namespace Go.Proofs.YtgfhhpodcnohpaaDoor
open Go.RowKit Go.Shelf
set_option linter.unusedVariables false
attribute [local go_sem] Oper.semAt_some

/-- How many bytes the nodes of places have. -/
def lsum : List Spot → Nat
  | [] => 0
  | s :: l => s.nd.text.size + lsum l
theorem lsum_app : ∀ (a b : List Spot), lsum (a ++ b) = lsum a + lsum b
  | [], b => by simp [lsum]
  | x :: a, b => by rw [List.cons_append, lsum, lsum, lsum_app a b]; omega
theorem lsum_take (l : List Spot) (k : Nat) (h : k < l.length) : lsum (l.take (k + 1)) = lsum (l.take k) + l[k].nd.text.size := by
  rw [List.take_succ_eq_append_getElem h, lsum_app]; simp [lsum]
theorem lsum_le (l : List Spot) (k : Nat) : lsum (l.take k) ≤ lsum l := by
  have h : lsum l = lsum (l.take k) + lsum (l.drop k) := by rw [← lsum_app, List.take_append_drop]
  omega
theorem lspots_leaf {t : Nd} {s : Spot} (h : s ∈ lspots t) : s.nd.leaf ∧ s ∈ spots t [] 0 := by
  have := List.mem_filter.1 h
  exact ⟨by simpa using this.2, this.1⟩
mutual
theorem lsum_spots : ∀ (t : Nd) (p : List Nat) (o : Nat), lsum ((spots t p o).filter fun s => decide s.nd.leaf) = t.pw
  | .mk i k x ks, p, o => by
    have h := lsum_spotsL ks p 0 (o + if 0 ≤ k ∧ k ≤ 8 then x.size else 0)
    rw [spots, Nd.pw, List.filter_cons]
    by_cases hk : 0 ≤ k ∧ k ≤ 8
    · have hd : decide (⟨p, Nd.mk i k x ks, o⟩ : Spot).nd.leaf = true := decide_eq_true (show (Nd.mk i k x ks).leaf from hk)
      rw [if_pos hd, lsum, h, if_pos hk]; rfl
    · have hd : ¬ decide (⟨p, Nd.mk i k x ks, o⟩ : Spot).nd.leaf = true := fun e => hk (show 0 ≤ k ∧ k ≤ 8 from of_decide_eq_true e)
      rw [if_neg hd, h, if_neg hk]; omega
theorem lsum_spotsL : ∀ (l : List Nd) (p : List Nat) (i o : Nat), lsum ((spotsL l p i o).filter fun s => decide s.nd.leaf) = pws l
  | [], p, i, o => by simp [spotsL, pws, lsum]
  | x :: l, p, i, o => by rw [spotsL, List.filter_append, lsum_app, lsum_spots x, lsum_spotsL l, pws]
end

set_option maxRecDepth 100000 in
set_option maxHeartbeats 4000000 in
theorem pwidth_any (t : Nd) (a : Option Addr) (n cap : Nat) (w : World) (G : Nat → Prop) (hK : KV G w a n cap t.kids) (hc : t.cnt ≤ 100000) (hw : t.pw ≤ 1000000000) :
    Calls Tryd.prog 118 #[ndv t a n cap] w fun e w' => e = .returned (.int .i64 (t.pw : Int)) ∧ Below w.heap.size w w' := by
  obtain ⟨W1, hW1⟩ : ∃ W, w.alloc (.cells (ndc t a n cap) 60) = W := ⟨_, rfl⟩
  have b1 : Below w.heap.size w W1 := by rw [← hW1]; exact (Below.refl _ _).alloc (Nat.le_refl _) _
  have k1 : Blk W1 w.heap.size 60 (ndc t a n cap) := by rw [← hW1]; exact Blk.new _ _ _
  have hs1 : W1.heap.size = w.heap.size + 1 := by rw [← hW1]; simp
  obtain ⟨ad, had, hSH, hSI⟩ := root_ad hK b1 k1
  obtain ⟨q, hq⟩ : ∃ q, w.heap.size = q := ⟨_, rfl⟩
  rw [hq] at had hs1 b1
  obtain ⟨W2, hW2⟩ : ∃ W2, (W1.alloc (.cells #[.int .i64 0] 3)).alloc (.cells #[.pointer (some ⟨q, 0, none⟩)] 107) = W2 := ⟨_, rfl⟩
  have b2 : Below (q + 1) W1 W2 := by rw [← hW2]; exact ((Below.refl _ _).alloc (by omega) _).alloc (by simp; omega) _
  have hs2 : W2.heap.size = q + 3 := by rw [← hW2]; simp; omega
  have e1 : Boxed W2 (q + 1) 3 (.int .i64 0) := by rw [← hW2, ← hs1]; exact (Boxed.new W1 _ _).alloc _
  have e2 : Boxed W2 (q + 2) 107 (.pointer (some ⟨(ad []).1, (ad []).2, none⟩)) := by
    have := Boxed.new (W1.alloc (.cells #[.int .i64 0] 3)) 107 (.pointer (some ⟨q, 0, none⟩))
    rw [World.size_alloc, hs1] at this
    rw [← hW2, had]; exact this
  have HG := Lib.hid (leaves_giw ad t (q + 2) W2 e2 hc hw)
  have HSH := Lib.hid hSH; have HQ := Lib.hid hq; have HB1 := Lib.hid b1; have HB2 := Lib.hid b2; have HS1 := Lib.hid hs1; have HS2 := Lib.hid hs2; have HE1 := Lib.hid e1; have HC := Lib.hid hc; have HP := Lib.hid hw
  have hmx : Tryd.prog.follows .mixedOrders = true := by kernel_rfl
  obtain ⟨id, hid⟩ : ∃ x, t.id = x := ⟨_, rfl⟩
  obtain ⟨kd, hkd⟩ : ∃ x, t.kind = x := ⟨_, rfl⟩
  obtain ⟨tx, htx⟩ : ∃ x, t.text = x := ⟨_, rfl⟩
  unfold ndv ndc at *
  rw [hid, hkd, htx] at hW1 ⊢
  have HW1 := Lib.hid hW1; have HW2 := Lib.hid hW2
  clear hK hc hw hW1 b1 k1 hs1 had hSH hSI hq hW2 b2 hs2 e1 e2 hid hkd htx
  refine (callsIn_wide (n := 0)).1 ?_
  refine callsIn_of_wp_marks Tryd.func118 rfl trivial ?_ rfl
  simp only [Tryd.ntmps118, List.size_toArray, List.length_cons, List.length_nil, Nat.reduceAdd, Nat.reduceSub, Array.replicate_succ, Array.replicate_zero, List.push_toArray, List.append_toArray, List.nil_append, List.cons_append]
  gi_wp2_with (first | (refine ⟨trivial, rfl, ?_⟩; gi_at_call 68; refine (callsIn_wide.2 (leaves_any _ _)).mono ?_; rintro e w' ⟨rfl, rfl⟩))
  rw [HW1.out, HQ.out, HW2.out]
  refine wpIn_giw (gf := 95) (lb := #[.pointer (some ⟨q + 1 + 1, 0, none⟩)]) rfl (enters_of Tryd.func95 (by kernel_rfl) rfl) HG.out rfl
    (fun k T A => (∀ j, T j ↔ j = q + 1) ∧ Boxed A (q + 1) 3 (.int .i64 (lsum ((lspots t).take k) : Int)) ∧ Below (q + 1) W1 A ∧ q + 3 ≤ A.heap.size)
    (fun T A => False)
    ?hI ?hSt ?hS ?hSh (fun j => j = q + 1) ?hT ?h0 ?hround ?hdone ?hret
  case hI =>
    rintro k T A C ⟨h1, h2, h3, h4⟩ ho
    rw [HS2.out] at ho
    exact ⟨h1, (ho.block _ h2.lt (.inl (by omega))).trans h2, h3.trans (ho.below (by omega) (by omega)), by have := ho.size; omega⟩
  case hSt => exact fun T A C h _ => h.elim
  case hS =>
    rintro k T A ⟨h1, h2, h3, h4⟩ j hj
    have := (h1 j).1 hj; omega
  case hSh =>
    rintro k T A ⟨h1, h2, h3, h4⟩
    exact HSH.out.on (by rw [HS1.out]; exact h3)
  case hT => intro k hk; rw [HS2.out]; omega
  case h0 => exact ⟨fun j => Iff.rfl, (by simpa [lsum] using HE1.out), HB2.out, by rw [HS2.out]; omega⟩
  case hround =>
    rintro l' k hk T A pa pc hl hlA hlr hTl ⟨h1, h2, h3, h4⟩ hrow hnR
    rw [HS2.out] at hl
    obtain ⟨s, hs⟩ : ∃ s, (lspots t)[k] = s := ⟨_, rfl⟩
    have hsm := lspots_leaf (show s ∈ lspots t by rw [← hs]; exact List.getElem_mem hk)
    have hlt := lsum_take (lspots t) k hk
    have hle := lsum_le (lspots t) (k + 1)
    have htot := lsum_spots t [] 0
    rw [show (List.filter (fun s => decide s.nd.leaf) (spots t [] 0)) = lspots t from rfl] at htot
    have hpw := HP.out
    rw [hs] at hlt ⊢
    refine ⟨?a1, ?W3, ?hb, ?asg, ?bo⟩
    case asg =>
      intro K hK
      gi_wp2
      exact hK
    case hb => exact (Below.refl _ _).alloc (Nat.le_refl _) _
    case bo =>
      intro A3 hA3 hsame hl3 hI3
      obtain ⟨g1, g2, g3, g4⟩ := hI3
      have hS3 := SH.spot t.dep t [] 0 (Nat.le_refl _) (HSH.out.on (by rw [HS1.out]; exact g3)) s hsm.2
      have d1 := hS3.txt
      obtain ⟨b, hb⟩ : ∃ b, (ad s.path).1 = b := ⟨_, rfl⟩
      obtain ⟨f, hf⟩ : ∃ b, (ad s.path).2 = b := ⟨_, rfl⟩
      obtain ⟨x, hx⟩ : ∃ x, s.nd.text = x := ⟨_, rfl⟩
      obtain ⟨z, hz⟩ : ∃ z, lsum ((lspots t).take k) = z := ⟨_, rfl⟩
      have hBk : Blk A3 A.heap.size 109 #[.pointer (some ⟨b, f, none⟩), .slice pa s.path.length pc, .int .i64 (s.off : Int)] := by
        rw [← hb, ← hf]
        exact (hsame A.heap.size (by omega)).trans (Blk.new A _ _)
      have p0 := hBk.cell 0
      simp only [List.getElem?_toArray, List.getElem?_cons_zero] at p0
      rw [hb, hf, hx] at d1
      rw [hb, hf]
      rw [hz] at g2 hlt
      rw [hx] at hlt
      have c1 := g2.cell
      have f1 := g2.frozen
      have hzx : z + x.size ≤ 1000000000 := by omega
      have m1 : IntKind.i64.wrap ((z : Int) + (x.size : Int)) = ((z + x.size : Nat) : Int) := by simp [IntKind.wrap, IntKind.signed, IntKind.bits]; omega
      have HI3 : Hid ((∀ j, T j ↔ j = q + 1) ∧ Boxed A3 (q + 1) 3 (.int .i64 (z : Int)) ∧ Below (q + 1) W1 A3 ∧ q + 3 ≤ A3.heap.size) := ⟨g1, g2, g3, g4⟩
      have HLT := Lib.hid hlt
      clear g1 g2 g3 hsame hrow hnR h1 h2 h3 hlr hS3 hBk hsm hlt hle htot hx hz hs
      gi_wp2
      gi_region
      all_goals
        gi_wp2
        obtain ⟨g1, g2, g3, g5⟩ := HI3.out
        have hg := grownBy_setCell' A3 (q + 1) (.int .i64 ((z : Int) + (x.size : Int)))
        refine ⟨T, ⟨g1, ?_, (g3.setCell (p := ⟨q + 1, 0, none⟩) (by show q + 1 ≤ q + 1; omega) _).drew, by have := hg.size; show q + 3 ≤ (World.setCell A3 _ _).heap.size; omega⟩, hg.size, fun j hj hT => hg.block j hj (fun e => hT ((g1 j).2 (by cases e; rfl))), fun j hj => .inl hj⟩
        rw [HLT.out, Int.natCast_add]
        exact g2.set _
  case hdone =>
    rintro T A hA ⟨h1, h2, h3, h4⟩ hTw hK
    rw [List.take_length, show lsum (lspots t) = t.pw from lsum_spots t [] 0] at h2
    have c1 := h2.cell
    have HF : Hid (Below q w A) := HB1.out.trans (h3.mono (by omega))
    rw [HS2.out] at hK
    clear h1 h2 h3
    gi_wp2
    refine ⟨by simp, .inl ⟨_, _, rfl, run_takeDeferred (by rw [HS2.out]; exact hK), ?_⟩⟩
    have hF : Below w.heap.size w (A.putObj W2.heap.size (.deferred none)) := by
      rw [HQ.out]
      exact HF.out.trans ⟨rfl, rfl, rfl, by simp, fun k hk => World.putObj_heap_other (by rw [HS2.out]; have := HQ.out; omega)⟩
    exact ⟨_, results_tmp rfl _ _ _, rfl, hF⟩
  case hret => exact fun T A _ h => h.elim

end Go.Proofs.YtgfhhpodcnohpaaDoor
