/- The program's Text. Conditions: trees of at most 100000 nodes and 1000000000 bytes. -/
import Derived.Test.YtgfhhpodcnohpaaDoorSWi
import Derived.Test.YtgfhhpodcnohpaaDoorSBd
namespace Go.Proofs.YtgfhhpodcnohpaaDoor
open Go.RowKit Go.Shelf
set_option linter.unusedVariables false
attribute [local go_sem] Oper.semAt_some

/-- The bytes of places' nodes, one after the other. -/
def ltx (l : List Spot) : List Int := l.flatMap fun s => sb s.nd.text
theorem ltx_take (l : List Spot) (k : Nat) (h : k < l.length) : ltx (l.take (k + 1)) = ltx (l.take k) ++ sb l[k].nd.text := by
  unfold ltx
  rw [List.take_succ_eq_append_getElem h, List.flatMap_append, List.flatMap_cons, List.flatMap_nil, List.append_nil]
theorem ltx_len : ∀ (l : List Spot), (ltx l).length = lsum l
  | [] => rfl
  | s :: l => by
    have := ltx_len l
    simp only [ltx, List.flatMap_cons, List.length_append, lsum] at this ⊢
    rw [this, sb_len]
theorem ltx_byt (l : List Spot) : Byt (ltx l) := by
  intro c hc
  obtain ⟨p, _, h⟩ := List.mem_flatMap.1 hc
  exact sb_byt _ c h

set_option maxRecDepth 100000 in
set_option maxHeartbeats 4000000 in
theorem ptext_any (t : Nd) (a : Option Addr) (n cap : Nat) (w : World) (G : Nat → Prop) (hK : KV G w a n cap t.kids) (hc : t.cnt ≤ 100000) (hw : t.pw ≤ 1000000000) :
    Calls Tryd.prog 38 #[ndv t a n cap] w fun e w' => e = .returned (.string (bs (ltx (lspots t)))) ∧ Below w.heap.size w w' := by
  obtain ⟨W1, hW1⟩ : ∃ W, w.alloc (.cells (ndc t a n cap) 60) = W := ⟨_, rfl⟩
  have b1 : Below w.heap.size w W1 := by rw [← hW1]; exact (Below.refl _ _).alloc (Nat.le_refl _) _
  have k1 : Blk W1 w.heap.size 60 (ndc t a n cap) := by rw [← hW1]; exact Blk.new _ _ _
  have hs1 : W1.heap.size = w.heap.size + 1 := by rw [← hW1]; simp
  obtain ⟨ad, had, hSH, hSI⟩ := root_ad hK b1 k1
  obtain ⟨q, hq⟩ : ∃ q, w.heap.size = q := ⟨_, rfl⟩
  rw [hq] at had hs1 b1
  obtain ⟨W2, hW2⟩ : ∃ W2, (W1.alloc (.cells #[.pointer none, .slice none 0 0] 94)).alloc (.cells #[.pointer (some ⟨q, 0, none⟩)] 107) = W2 := ⟨_, rfl⟩
  have b2 : Below (q + 1) W1 W2 := by rw [← hW2]; exact ((Below.refl _ _).alloc (by omega) _).alloc (by simp; omega) _
  have hs2 : W2.heap.size = q + 3 := by rw [← hW2]; simp; omega
  have e1 : Blk W2 (q + 1) 94 #[.pointer none, .slice none 0 0] := by rw [← hW2, ← hs1]; exact (Blk.new W1 _ _).alloc _
  have e2 : Boxed W2 (q + 2) 107 (.pointer (some ⟨(ad []).1, (ad []).2, none⟩)) := by
    have := Boxed.new (W1.alloc (.cells #[.pointer none, .slice none 0 0] 94)) 107 (.pointer (some ⟨q, 0, none⟩))
    rw [World.size_alloc, hs1] at this
    rw [← hW2, had]; exact this
  have HG := Lib.hid (leaves_giw ad t (q + 2) W2 e2 hc hw)
  have HSH := Lib.hid hSH; have HQ := Lib.hid hq; have HB1 := Lib.hid b1; have HB2 := Lib.hid b2; have HS1 := Lib.hid hs1; have HS2 := Lib.hid hs2; have HE1 := Lib.hid e1; have HC := Lib.hid hc; have HP := Lib.hid hw
  have hmx : Tryd.prog.follows .mixedOrders = true := by kernel_rfl
  obtain ⟨id, hid⟩ : ∃ x, t.id = x := ⟨_, rfl⟩
  obtain ⟨kd, hkd⟩ : ∃ x, t.kind = x := ⟨_, rfl⟩
  obtain ⟨tx, htx⟩ : ∃ x, t.text = x := ⟨_, rfl⟩
  unfold ndv ndc at *
  rw [hid, hkd, htx] at hW1 ⊢
  have HW1 := Lib.hid hW1; have HW2 := Lib.hid hW2
  clear hK hc hw hW1 b1 k1 hs1 had hSH hSI hq hW2 b2 hs2 e1 e2 hid hkd htx
  refine (callsIn_wide (n := 0)).1 ?_
  refine callsIn_of_wp_marks Tryd.func38 rfl trivial ?_ rfl
  simp only [Tryd.ntmps38, List.size_toArray, List.length_cons, List.length_nil, Nat.reduceAdd, Nat.reduceSub, Array.replicate_succ, Array.replicate_zero, List.push_toArray, List.append_toArray, List.nil_append, List.cons_append]
  gi_wp2_with (first | (refine ⟨trivial, rfl, ?_⟩; gi_at_call 68; refine (callsIn_wide.2 (leaves_any _ _)).mono ?_; rintro e w' ⟨rfl, rfl⟩))
  rw [HW1.out, HQ.out, HW2.out]
  refine wpIn_giw (gf := 95) (lb := #[.pointer (some ⟨q + 1 + 1, 0, none⟩)]) rfl (enters_of Tryd.func95 (by kernel_rfl) rfl) HG.out rfl
    (fun k T A => Bl (q + 1) T (ltx ((lspots t).take k)) A ∧ Below (q + 1) W1 A ∧ q + 3 ≤ A.heap.size)
    (fun T A => False)
    ?hI ?hSt ?hS ?hSh (fun j => j = q + 1) ?hT ?h0 ?hround ?hdone ?hret
  case hI =>
    rintro k T A C ⟨h2, h3, h4⟩ ho
    rw [HS2.out] at ho
    exact ⟨h2.oth ho, h3.trans (ho.below (by omega) (by omega)), by have := ho.size; omega⟩
  case hSt => exact fun T A C h _ => h.elim
  case hS =>
    rintro k T A ⟨h2, h3, h4⟩
    exact h2.lt
  case hSh =>
    rintro k T A ⟨h2, h3, h4⟩
    exact HSH.out.on (by rw [HS1.out]; exact h3)
  case hT => intro k hk; rw [HS2.out]; omega
  case h0 => exact ⟨⟨_, _, HE1.out, World.ownsRow_nil _ _ _ _, .inl rfl, fun j => by simp [Value.ownBlock], fun _ => rfl⟩, HB2.out, by rw [HS2.out]; omega⟩
  case hround =>
    rintro l' k hk T A pa pc hl hlA hlr hTl ⟨h2, h3, h4⟩ hrow hnR
    rw [HS2.out] at hl
    obtain ⟨s, hs⟩ : ∃ s, (lspots t)[k] = s := ⟨_, rfl⟩
    have hsm := lspots_leaf (show s ∈ lspots t by rw [← hs]; exact List.getElem_mem hk)
    have hlt := lsum_take (lspots t) k hk
    have hxt := ltx_take (lspots t) k hk
    have hle := lsum_le (lspots t) (k + 1)
    have htot := lsum_spots t [] 0
    rw [show (List.filter (fun s => decide s.nd.leaf) (spots t [] 0)) = lspots t from rfl] at htot
    have hpw := HP.out
    rw [hs] at hlt hxt ⊢
    refine ⟨?a1, ?W3, ?hb, ?asg, ?bo⟩
    case asg =>
      intro K hK
      gi_wp2
      exact hK
    case hb => exact (Below.refl _ _).alloc (Nat.le_refl _) _
    case bo =>
      intro A3 hA3 hsame hl3 hI3
      obtain ⟨g2, g3, g4⟩ := hI3
      have hS3 := SH.spot t.dep t [] 0 (Nat.le_refl _) (HSH.out.on (by rw [HS1.out]; exact g3)) s hsm.2
      have d1 := hS3.txt
      obtain ⟨b, hb⟩ : ∃ b, (ad s.path).1 = b := ⟨_, rfl⟩
      obtain ⟨f, hf⟩ : ∃ b, (ad s.path).2 = b := ⟨_, rfl⟩
      obtain ⟨x, hx⟩ : ∃ x, s.nd.text = x := ⟨_, rfl⟩
      have hBk : Blk A3 A.heap.size 109 #[.pointer (some ⟨b, f, none⟩), .slice pa s.path.length pc, .int .i64 (s.off : Int)] := by
        rw [← hb, ← hf]
        exact (hsame A.heap.size (by omega)).trans (Blk.new A _ _)
      have p0 := hBk.cell 0
      simp only [List.getElem?_toArray, List.getElem?_cons_zero] at p0
      rw [hb, hf, hx] at d1
      rw [hb, hf]
      have hzl : (ltx ((lspots t).take k)).length + s.nd.text.size ≤ 70000000000 := by rw [ltx_len]; omega
      have CW := Lib.hid (write_any (q + 1) T _ s.nd.text A3 g2 hzl)
      rw [hx] at CW hxt
      have HI3 : Hid (Below (q + 1) W1 A3 ∧ q + 3 ≤ A3.heap.size) := ⟨g3, g4⟩
      have HXT := Lib.hid hxt
      clear g2 g3 hsame hrow hnR h2 h3 hlr hS3 hBk hsm hlt hle htot hx hs hzl hxt
      gi_wp2_with (refine ⟨trivial, rfl, ?_⟩; gi_at_call 65; refine (CallsIn.inRound l' (callsIn_wide.2 CW.out)).mono ?_; rintro e w' ⟨⟨r, rfl⟩, ⟨T', hb', hr'⟩, hbw⟩)
      obtain ⟨g3, g5⟩ := HI3.out
      refine ⟨T', ⟨?_, g3.trans hbw, by have := hbw.size; omega⟩, hr'⟩
      rw [HXT.out]
      exact hb'
  case hdone =>
    rintro T A hA ⟨h2, h3, h4⟩ hTw hK
    rw [List.take_length] at h2
    have hln : (ltx (lspots t)).length ≤ 70000000000 := by
      have htot := lsum_spots t [] 0
      rw [show (List.filter (fun s => decide s.nd.leaf) (spots t [] 0)) = lspots t from rfl] at htot
      rw [ltx_len]; have := HP.out; omega
    have CS := Lib.hid (string_any (q + 1) T _ A h2 (ltx_byt _) hln)
    have HF : Hid (Below (q + 1) W1 A) := h3
    have HKK := Lib.hid hK
    clear h2 h3 hln hK
    gi_wp2_with (refine ⟨trivial, rfl, ?_⟩; gi_at_call 66; refine (callsIn_wide.2 CS.out).mono ?_; rintro e w' ⟨rfl, hbw, hrw⟩)
    have hK2 : w'.heap[W2.heap.size]? = some (.deferred (some [])) := (hrw.block _ (by omega) hTw).trans HKK.out
    have hF : Below w.heap.size w (w'.putObj W2.heap.size (.deferred none)) := by
      rw [HQ.out]
      exact (HB1.out.trans ((HF.out.trans hbw).mono (by omega))).trans ⟨rfl, rfl, rfl, by simp, fun k hk => World.putObj_heap_other (by rw [HS2.out]; have := HQ.out; omega)⟩
    refine ⟨by simp, .inl ⟨_, _, rfl, run_takeDeferred hK2, ?_⟩⟩
    exact ⟨_, results_tmp rfl _ _ _, rfl, hF⟩
  case hret => exact fun T A _ h => h.elim

end Go.Proofs.YtgfhhpodcnohpaaDoor
