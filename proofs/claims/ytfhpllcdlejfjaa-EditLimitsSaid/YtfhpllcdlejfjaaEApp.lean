/- The contract of the program's Apply. Conditions: texts of at most 10000000 bytes, lists of at most 1000 edits. -/
import Derived.Test.YtfhpllcdlejfjaaEPart
import Derived.Test.YtfhpllcdlejfjaaEBld
namespace Go.Proofs.Ytfhpllcdlejfjaa
open Go.RowKit Go.Shelf
set_option linter.unusedVariables false
attribute [local go_sem] Oper.semAt_some

/-- The bytes of parts. -/
def ptx (l : List Pc) : List Int := l.flatMap fun p => sb p.x
theorem ptx_byt (l : List Pc) : Byt (ptx l) := by
  intro c hc
  obtain ⟨p, _, h⟩ := List.mem_flatMap.1 hc
  exact sb_byt _ c h
theorem ptx_take {l : List Pc} {k : Nat} (h : k < l.length) : ptx (l.take (k + 1)) = ptx (l.take k) ++ sb (pg l k).x := by
  unfold ptx pg
  rw [List.take_add_one, List.getElem?_eq_getElem h, List.flatMap_append]
  simp
theorem ptx_prl (s : ByteArray) : ∀ (es : List Er) (f q : Nat), (∀ e ∈ es, 0 ≤ e.f) → ptx (prl s f q es) = appl (sb s) f (ees es) := by
  intro es
  induction es with
  | nil =>
    intro f q _
    simp only [prl, ptx, List.flatMap_cons, List.flatMap_nil, List.append_nil, ees, List.map_nil, appl]
    rw [sb_cut, List.take_of_length_le (by rw [List.length_drop, sb_len]; exact Nat.le_refl _)]
  | cons e es ih =>
    intro f q h
    simp only [prl, ptx, List.flatMap_cons]
    rw [show List.flatMap (fun p => sb p.x) (prl s e.t.toNat (q + (e.f.toNat - f) + e.x.size) es) = appl (sb s) e.t.toNat (ees es) from ih _ _ (fun x hx => h x (by simp [hx]))]
    rw [sb_cut, ees_cons]
    rfl
theorem ptx_len {s : ByteArray} : ∀ {es : List Er} {f q : Nat}, (∀ e ∈ es, e.x.size ≤ 100000) → ∀ l, l <+: prl s f q es → (ptx l).length ≤ (es.length + 1) * (s.size + 100000) := by
  intro es
  induction es with
  | nil =>
    intro f q _ l hl
    have h1 : (ptx l).length ≤ (ptx (prl s f q [])).length := by
      obtain ⟨r, hr⟩ := hl
      rw [← hr]; simp [ptx]
    have h2 : (ptx (prl s f q [])).length ≤ s.size := by simp [ptx, prl, sb_len]
    simp only [List.length_nil]; omega
  | cons e es ih =>
    intro f q h l hl
    have hx := h e (by simp)
    obtain ⟨r, hr⟩ := hl
    have h0 : (ptx l).length ≤ (ptx (prl s f q (e :: es))).length := by rw [← hr]; simp [ptx]
    have h1 : (ptx (prl s f q (e :: es))).length ≤ s.size + 100000 + (ptx (prl s e.t.toNat (q + (e.f.toNat - f) + e.x.size) es)).length := by
      simp [ptx, prl, sb_len]; omega
    have h2 := ih (f := e.t.toNat) (q := q + (e.f.toNat - f) + e.x.size) (fun x hx => h x (by simp [hx])) _ (List.prefix_refl _)
    simp only [List.length_cons]
    rw [Nat.add_mul (es.length + 1) 1]
    omega

set_option maxRecDepth 100000 in
set_option maxHeartbeats 1000000 in
theorem papply_any (s : ByteArray) (a : Option Addr) (cap : Nat) (es : List Er) (w : World) (hs : s.size ≤ 10000000) (hn : es.length ≤ 1000) (hfit : ∀ e ∈ es, e.Fit) (hS : ES w.heap.size w a cap es) :
    Calls Try.prog 26 #[.string s, .slice a es.length cap] w fun e w' => e = .returned (.tuple #[.string (apS s es), .int .i64 (vErr (s.size : Int) es)]) ∧ Below w.heap.size w w' := by
  have CV := Lib.hid (pvalid_any s a cap es w hs hn hfit hS)
  have HS := Lib.hid hS; have HF := Lib.hid hfit
  obtain ⟨n, hn'⟩ : ∃ n, es.length = n := ⟨_, rfl⟩
  rw [hn'] at CV hn ⊢
  by_cases hv : vErr (s.size : Int) es = 0
  · have HV := Lib.hid hv
    rw [hv] at CV ⊢
    have HN := Lib.hid hn'
    clear hv hn' hS hfit
    refine (callsIn_wide (n := 0)).1 ?_
    refine callsIn_of_wp_marks Try.func26 rfl trivial ?_ rfl
    simp only [Try.ntmps26, List.size_toArray, List.length_cons, List.length_nil, Nat.reduceAdd, Nat.reduceSub, Array.replicate_succ, Array.replicate_zero, List.push_toArray, List.append_toArray, List.nil_append, List.cons_append]
    gi_wp2_with (first | (refine ⟨trivial, rfl, ?_⟩; gi_at_call 21; refine (callsIn_wide.2 CV.out).mono ?_; rintro e w1 ⟨rfl, hb1⟩) | (refine ⟨trivial, rfl, ?_⟩; gi_at_call 46; refine (callsIn_wide.2 (parts_any _ _ _ _ _)).mono ?_; rintro e w' ⟨rfl, rfl⟩))
    obtain ⟨b0, hb0⟩ : ∃ b, w1.heap.size = b := ⟨_, rfl⟩
    obtain ⟨W0, hW0⟩ : ∃ W, ((w1.alloc (.cells #[.pointer none, .slice none 0 0] 78)).alloc (.cells #[.string s] 9)).alloc (.cells #[.slice a n cap] 22) = W := ⟨_, rfl⟩
    have hs0 : W0.heap.size = b0 + 3 := by rw [← hW0, ← hb0]; simp
    have hB0 : Below b0 w1 W0 := by rw [← hW0, ← hb0]; exact (((Below.refl _ _).alloc (Nat.le_refl _) _).alloc (by simp) _).alloc (by simp; omega) _
    have bB : Blk W0 b0 78 #[.pointer none, .slice none 0 0] := by rw [← hW0, ← hb0]; exact ((Blk.new _ _ _).alloc _).alloc _
    have bS : Boxed W0 (b0 + 1) 9 (.string s) := by
      rw [← hW0, ← hb0]
      have := Boxed.new (w1.alloc (.cells #[.pointer none, .slice none 0 0] 78)) 9 (.string s)
      rw [World.size_alloc] at this; exact this.alloc _
    have bL : Boxed W0 (b0 + 2) 22 (.slice a n cap) := by
      rw [← hW0, ← hb0]
      have := Boxed.new ((w1.alloc (.cells #[.pointer none, .slice none 0 0] 78)).alloc (.cells #[.string s] 9)) 22 (.slice a n cap)
      rw [World.size_alloc, World.size_alloc] at this; exact this
    rw [hW0, hb0]
    have hwb : w.heap.size ≤ b0 := by rw [← hb0]; exact hb1.size
    have hbw0 : Below w.heap.size w W0 := hb1.trans (hB0.mono hwb)
    have hBl0 : Bl b0 (fun j => j = b0) (ptx ((prl s 0 0 es).take 0)) W0 := ⟨_, _, bB, World.ownsRow_nil _ _ _ _, .inl rfl, fun j => by simp [Value.ownBlock], fun _ => rfl⟩
    obtain ⟨hlim, hvld, hbd⟩ := vErr_ok HV.out
    have hxs : ∀ e ∈ es, e.x.size ≤ 100000 := fun e he => (HF.out e he).x
    have hnl := HN.out
    have hG := part_giv s (b0 + 2) (b0 + 1) a cap es W0 hs HV.out hxs (by rw [hnl]; exact bL) bS ((HS.out.on hbw0))
    have hRa : ∀ k, (k = b0 + 1 ∨ 0 < es.length ∧ ∃ off, a = some ⟨k, off, none⟩) → k ≠ b0 := by
      rintro k (rfl | ⟨hp, off, rfl⟩)
      · omega
      · rcases HS.out.cells with h0 | ⟨g, o, hg, hlt, _⟩
        · omega
        · cases hg; omega
    refine wpIn_giv (gf := 67) (lb := #[.pointer (some ⟨b0 + 1 + 1, 0, none⟩), .pointer (some ⟨b0 + 1, 0, none⟩)]) rfl (enters_of Try.func67 (by kernel_rfl) rfl)
      hG (fun _ => rfl)
      (fun k T A => Bl b0 T (ptx ((prl s 0 0 es).take k)) A ∧ Below w.heap.size w A)
      (fun k T A C hi ho => ⟨hi.1.oth ho, hi.2.trans (ho.below (by omega) hi.2.size)⟩)
      (fun k T A hi => hi.1.lt)
      (fun j => j = b0) (fun k hk => ⟨by omega, fun h => hRa k h hk⟩) ⟨hBl0, hbw0⟩
      (fun k B => { tmps := #[.string s, .slice a n cap, undef, undef, .string ⟨#[]⟩, .int .i64 0, .int .i64 0, .pointer (some ⟨b0, 0, none⟩), .pointer (some ⟨B, 0, none⟩), .string s, .slice a n cap, .int .i64 0, .int .i64 0, .bool false, undef,
        .string s, .slice a n cap, .func (.func 67) #[] #[.pointer (some ⟨b0 + 1 + 1, 0, none⟩), .pointer (some ⟨b0 + 1, 0, none⟩)], (pg (prl s 0 0 es) k).val, undef, undef, undef, undef], defers := [] })
      (fun k => (pg (prl s 0 0 es) k).cells) 74 ?assign ?body ?done
    case assign =>
      intro l' k A K hK
      simp only [Pc.val, Pc.cells] at hK ⊢
      gi_wp2
      exact hK
    case body =>
      rintro l' k T B A hk hl hlB hBk hTB hl' hTl ⟨hBl, hBA⟩
      have hkl : k < (prl s 0 0 es).length := by rw [prl_len]; exact hk
      obtain ⟨p, hp⟩ : ∃ p, pg (prl s 0 0 es) k = p := ⟨_, rfl⟩
      simp only [hp] at hBk ⊢
      have c3 : A.cell? ⟨B, 3, none⟩ = some (.string p.x) := by simpa [Pc.cells] using hBk.cell 3
      have hxl : (ptx ((prl s 0 0 es).take k)).length + p.x.size ≤ 70000000000 := by
        have h1 := ptx_len (s := s) (f := 0) (q := 0) hxs _ (List.take_prefix (k + 1) (prl s 0 0 es))
        rw [ptx_take hkl, hp, List.length_append, sb_len] at h1
        have h2 : (es.length + 1) * (s.size + 100000) ≤ 65 * 10100000 := Nat.mul_le_mul (by omega) (by omega)
        omega
      have CW := Lib.hid (write_any b0 T _ p.x A hBl hxl)
      have HBA := Lib.hid hBA; have HP := Lib.hid hp; have HT := Lib.hid (ptx_take hkl)
      clear hBk hBl hBA hxl hp
      gi_wp2_with (refine ⟨trivial, rfl, ?_⟩; gi_at_call 48; refine (CallsIn.inRound l' (callsIn_wide.2 CW.out)).mono ?_; rintro e w' ⟨⟨r, rfl⟩, ⟨T', hb', hr'⟩, hbw⟩)
      refine ⟨T', ⟨?_, HBA.out.trans (hbw.mono hwb)⟩, hr'⟩
      rw [HT.out, HP.out]
      exact hb'
    case done =>
      rintro T A hA ⟨hBl, hBA⟩ hTw hK
      have htx : ptx ((prl s 0 0 es).take (2 * es.length + 1)) = appl (sb s) 0 (ees es) := by
        rw [List.take_of_length_le (by rw [prl_len]; exact Nat.le_refl _)]
        exact ptx_prl s es 0 0 (fun e he => (hbd e he).1)
      have hln : (ptx ((prl s 0 0 es).take (2 * es.length + 1))).length ≤ 70000000000 := by
        have h1 := ptx_len (s := s) (f := 0) (q := 0) hxs _ (List.take_prefix (2 * es.length + 1) (prl s 0 0 es))
        have h2 : (es.length + 1) * (s.size + 100000) ≤ 65 * 10100000 := Nat.mul_le_mul (by omega) (by omega)
        omega
      have CS := string_any b0 T _ A hBl (ptx_byt _) hln
      rw [htx] at CS
      have hap : bs (appl (sb s) 0 (ees es)) = apS s es := by unfold apS; rw [if_pos HV.out]
      rw [hap] at CS
      have CS := Lib.hid CS; have HBA := Lib.hid hBA; have HKK := Lib.hid hK
      clear hBl hBA htx hln hap hK
      gi_wp2_with (refine ⟨trivial, rfl, ?_⟩; gi_at_call 49; refine (callsIn_wide.2 CS.out).mono ?_; rintro e w' ⟨rfl, hbw, hrw⟩)
      have hK2 : w'.heap[W0.heap.size]? = some (.deferred (some [])) := (hrw.block _ (by omega) hTw).trans HKK.out
      have hF : Below w.heap.size w (w'.putObj W0.heap.size (.deferred none)) := (HBA.out.trans (hbw.mono hwb)).trans ⟨rfl, rfl, rfl, by simp, fun k hk => World.putObj_heap_other (by omega)⟩
      rw [hs0] at hK2 hF
      refine ⟨by simp, .inl ⟨_, _, rfl, run_takeDeferred hK2, ?_⟩⟩
      exact ⟨_, results_tmp2 rfl _ _ _, rfl, hF⟩
  · have hap : apS s es = ⟨#[]⟩ := apS_bad hv
    have HV := Lib.hid hv
    have hq : (vErr (s.size : Int) es != 0) = true := by simp [hv]
    generalize vErr (s.size : Int) es = er at CV HV hq hv ⊢
    rw [hap]
    clear hv hn' hS hfit hap
    go_enter Try.func26, Try.ntmps26
    go_wp2_with fail
    refine CV.out.mono ?_
    rintro e w1 ⟨rfl, hb1⟩
    go_wp2
    go_ret2
    exact ⟨rfl, hb1⟩

end Go.Proofs.Ytfhpllcdlejfjaa
