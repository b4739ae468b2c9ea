/- The contract of the program's Invert. Conditions: texts of at most 10000000 bytes, lists of at most 1000 edits. -/
import Derived.Test.YtfhpllcdlejfjaaEIv
import Derived.Test.YtfhpllcdlejfjaaEGn
namespace Go.Proofs.Ytfhpllcdlejfjaa
open Go.RowKit Go.Shelf
set_option linter.unusedVariables false
attribute [local go_sem] Oper.semAt_some

/-- The edits that lead back, or none if the edits are not valid. -/
def ivS (s : ByteArray) (es : List Er) : List Er := if vErr (s.size : Int) es = 0 then ers (invl (sb s) 0 0 (ees es)) else []

theorem ivl_len (s : ByteArray) : ∀ l : List Pc, (ivl s l).length ≤ l.length := by
  intro l
  induction l with
  | nil => exact Nat.le_refl _
  | cons p l ih =>
    simp only [ivl]
    split
    · simp only [List.length_cons]; omega
    · simp only [List.length_cons]; omega

set_option maxRecDepth 100000 in
set_option maxHeartbeats 2000000 in
theorem pinvert_any (s : ByteArray) (a : Option Addr) (cap : Nat) (es : List Er) (w : World) (hs : s.size ≤ 10000000) (hn : es.length ≤ 1000) (hfit : ∀ e ∈ es, e.Fit) (hS : ES w.heap.size w a cap es) :
    Calls Try.prog 24 #[.string s, .slice a es.length cap] w (NewES w (ivS s es) (vErr (s.size : Int) es)) := by
  obtain ⟨i3, hi3, jy0, jy1, jy2⟩ := info_parts infoEd
  obtain ⟨p0, hp0⟩ : ∃ p, w.heap.size = p := ⟨_, rfl⟩
  obtain ⟨W0, hW0⟩ : ∃ W, w.alloc (.cells #[.string s] 9) = W := ⟨_, rfl⟩
  have bS0 : Boxed W0 p0 9 (.string s) := by rw [← hW0, ← hp0]; exact Boxed.new _ _ _
  have z0 : W0.heap.size = p0 + 1 := by rw [← hW0, ← hp0]; simp
  have b0 : Below p0 w W0 := by rw [← hW0, ← hp0]; exact (Below.refl _ _).alloc (Nat.le_refl _) _
  have CV := Lib.hid (pvalid_any s a cap es W0 hs hn hfit ((hS.below (by rw [hp0]; exact b0)).mono (by omega)))
  have cs0 := bS0.cell
  have HS := Lib.hid hS; have HF := Lib.hid hfit; have HB0 := Lib.hid b0; have HW0 := Lib.hid hW0; have HP0 := Lib.hid hp0; have HBS := Lib.hid bS0
  obtain ⟨n, hn'⟩ : ∃ n, es.length = n := ⟨_, rfl⟩
  rw [hn'] at CV hn ⊢
  by_cases hv : vErr (s.size : Int) es = 0
  · have HV := Lib.hid hv
    obtain ⟨R, hR⟩ : ∃ R, ivS s es = R := ⟨_, rfl⟩
    have hRv : R = ers (invl (sb s) 0 0 (ees es)) := by rw [← hR]; unfold ivS; rw [if_pos hv]
    rw [hv] at CV ⊢
    rw [hR]
    have HN := Lib.hid hn'; have HRV := Lib.hid hRv
    obtain ⟨hlim, hvld, hbd⟩ := vErr_ok HV.out
    rw [hn'] at hlim
    clear hv hn' hS hfit hR hRv b0 hW0 hp0 bS0 hvld hbd
    refine (callsIn_wide (n := 0)).1 ?_
    refine callsIn_of_wp_marks Try.func24 rfl trivial ?_ rfl
    simp only [Try.ntmps24, List.size_toArray, List.length_cons, List.length_nil, Nat.reduceAdd, Nat.reduceSub, Array.replicate_succ, Array.replicate_zero, List.push_toArray, List.append_toArray, List.nil_append, List.cons_append]
    gi_wp2_with (fail)
    rw [show w.alloc (.cells #[.string s] 9) = W0 from HW0.out, HP0.out]
    gi_wp2_with (first | (refine ⟨trivial, rfl, ?_⟩; gi_at_call 21; refine (callsIn_wide.2 CV.out).mono ?_; rintro e w1 ⟨rfl, hb1⟩) | (gi_at_make; refine wpListIn_make_own _ rfl _ _ 22 rfl w1.heap.size 32 i3 (.agg #[.int .i64 0, .int .i64 0, .string ⟨#[]⟩]) 3 Try.underlying22 hi3 jy0 jy1 .i64 .i64 (n : Int) n rfl rfl rfl (by rw [jy2]; omega) (by unfold maxLen; omega) (Nat.le_refl _) ?_; intro w2 hown2 hgrow2; have bs2 : Boxed w2 p0 9 (.string s) := (hgrow2.block p0 (by have := hb1.size; omega) (fun h => by cases h)).trans ((hb1.block p0 (by omega)).trans HBS.out); have cs2 := (bs2.alloc (.cells #[.slice (some ⟨w1.heap.size, 0, none⟩) 0 n] 22)).cell) | (refine ⟨trivial, rfl, ?_⟩; gi_at_call 46; refine (callsIn_wide.2 (parts_any _ _ _ _ _)).mono ?_; rintro e w' ⟨rfl, rfl⟩))
    obtain ⟨lo, hlo⟩ : ∃ p, w1.heap.size = p := ⟨_, rfl⟩
    obtain ⟨b, hb⟩ : ∃ b, w2.heap.size = b := ⟨_, rfl⟩
    obtain ⟨W3, hW3⟩ : ∃ W, ((w2.alloc (.cells #[.slice (some ⟨w1.heap.size, 0, none⟩) 0 n] 22)).alloc (.cells #[.string s] 9)).alloc (.cells #[.slice a n cap] 22) = W := ⟨_, rfl⟩
    have hlp : p0 < lo := by have := hb1.size; omega
    have hbl : lo < b := by have h := (hown2.lt w1.heap.size rfl).2; omega
    have hs3 : W3.heap.size = b + 3 := by rw [← hW3, ← hb]; simp
    have h23 : Below b w2 W3 := by rw [← hW3, ← hb]; exact (((Below.refl _ _).alloc (Nat.le_refl _) _).alloc (by simp) _).alloc (by simp; omega) _
    have h12 : Below lo w1 w2 := by rw [← hlo]; exact (Below.refl _ w1).grown hgrow2 (Nat.le_refl _) (fun k hk => by cases hk)
    have bB : Blk W3 b 22 #[.slice (some ⟨lo, 0, none⟩) 0 n] := by rw [← hW3, ← hb, ← hlo]; exact ((Blk.new _ _ _).alloc _).alloc _
    have bS : Boxed W3 (b + 1) 9 (.string s) := by
      rw [← hW3, ← hb]
      have := Boxed.new (w2.alloc (.cells #[.slice (some ⟨w1.heap.size, 0, none⟩) 0 n] 22)) 9 (.string s)
      rw [World.size_alloc] at this; exact this.alloc _
    have bL : Boxed W3 (b + 2) 22 (.slice a n cap) := by
      rw [← hW3, ← hb]
      have := Boxed.new ((w2.alloc (.cells #[.slice (some ⟨w1.heap.size, 0, none⟩) 0 n] 22)).alloc (.cells #[.string s] 9)) 22 (.slice a n cap)
      rw [World.size_alloc, World.size_alloc] at this; exact this
    have bP : Boxed W3 p0 9 (.string s) := (h23.block p0 (by omega)).trans bs2
    have oB : W3.ownsRow lo 32 3 (.slice (some ⟨lo, 0, none⟩) 0 n) ([] : List Er).length (rv []) := by
      rw [hlo] at hown2
      exact own_same hown2 (fun g hg => h23.block g (by have := (hown2.lt g hg).2; omega))
    rw [hW3, hb, hlo]
    have hbw3 : Below p0 w W3 := ((HB0.out.trans (hb1.mono (by omega))).trans (h12.mono (by omega))).trans (h23.mono (by omega))
    have hIv0 : Iv b lo (fun j => j = b ∨ j = lo) (ivl s ((prl s 0 0 es).take 0)) W3 := ⟨_, bB, oB, by simp [Value.ownBlock]; omega, fun j => by simp [Value.ownBlock, eq_comm]⟩
    obtain ⟨_, hvld, hbd⟩ := vErr_ok HV.out
    have hxs : ∀ e ∈ es, e.x.size ≤ 100000 := fun e he => (HF.out e he).x
    have hnl := HN.out
    have hv0 : vE (s.size : Int) ((0 : Nat) : Int) es = 0 := by have := HV.out; unfold vErr at this; rwa [if_neg (by omega)] at this
    have hES3 : ES W3.heap.size W3 a cap es := (HS.out.below (by rw [HP0.out]; exact hbw3)).mono (by rw [HP0.out]; omega)
    have hG := part_giv s (b + 2) (b + 1) a cap es W3 hs HV.out hxs (by rw [hnl]; exact bL) bS hES3
    have hRa : ∀ k, (k = b + 1 ∨ 0 < es.length ∧ ∃ off, a = some ⟨k, off, none⟩) → k ≠ b ∧ k ≠ lo := by
      rintro k (rfl | ⟨hp, off, rfl⟩)
      · omega
      · rcases HS.out.cells with h0 | ⟨g, o, hg, hlt, _⟩
        · omega
        · cases hg; rw [HP0.out] at hlt; omega
    have HFT := Lib.hid (fun k (hk : k < (prl s 0 0 es).length) => prl_fit (s := s) (es := es) (f := 0) (q := 0) (c := 0) (by omega) (by omega) hv0 hxs _ (show pg (prl s 0 0 es) k ∈ prl s 0 0 es by unfold pg; rw [List.getElem?_eq_getElem hk]; exact List.getElem_mem hk))
    have HBP := Lib.hid bP; have HW3 := Lib.hid hbw3
    clear hgrow2 hown2 bs2 cs2 bB oB bS bL bP h12 h23
    refine wpIn_giv (gf := 67) (lb := #[.pointer (some ⟨b + 1 + 1, 0, none⟩), .pointer (some ⟨b + 1, 0, none⟩)]) rfl (enters_of Try.func67 (by kernel_rfl) rfl)
      hG (fun _ => rfl)
      (fun k T A => Iv b lo T (ivl s ((prl s 0 0 es).take k)) A ∧ Below lo W3 A)
      (fun k T A C hi ho => ⟨hi.1.oth ho, hi.2.trans (ho.below (by omega) (by have := hi.2.size; omega))⟩)
      (fun k T A hi => hi.1.lt)
      (fun j => j = b ∨ j = lo) (fun k hk => ⟨by omega, fun h => by have := hRa k h; omega⟩) ⟨hIv0, Below.refl _ _⟩
      (fun k B => { tmps := #[.string s, .slice a n cap, .pointer (some ⟨p0, 0, none⟩), undef, .slice none 0 0, .int .i64 0, .int .i64 0, .pointer (some ⟨b, 0, none⟩), .pointer (some ⟨B, 0, none⟩), .string s, .slice a n cap,
        .int .i64 0, .int .i64 0, .bool false, undef, .slice a n cap, .int .i64 (n : Int), .slice (some ⟨lo, 0, none⟩) 0 n, .string s, .slice a n cap,
        .func (.func 67) #[] #[.pointer (some ⟨b + 1 + 1, 0, none⟩), .pointer (some ⟨b + 1, 0, none⟩)], (pg (prl s 0 0 es) k).val, undef, undef, undef, undef, undef, undef, undef, undef, undef, undef, undef, undef, undef, undef, undef, undef, undef, undef], defers := [] })
      (fun k => (pg (prl s 0 0 es) k).cells) 74 ?assign ?body ?done
    case assign =>
      intro l' k A K hK
      simp only [Pc.val, Pc.cells] at hK ⊢
      gi_wp2
      exact hK
    case body =>
      rintro l' k T B A hk hl hlB hBk hTB hl' hTl ⟨hIv, hBA⟩
      have hkl : k < (prl s 0 0 es).length := by rw [prl_len]; exact hk
      have hstep := ivl_step (s := s) hkl
      obtain ⟨hf1, hf2, hf3, hf4, hf5, hf6⟩ := HFT.out k hkl
      obtain ⟨p, hp⟩ : ∃ p, pg (prl s 0 0 es) k = p := ⟨_, rfl⟩
      obtain ⟨J0, hJ0⟩ : ∃ J, ivl s ((prl s 0 0 es).take k) = J := ⟨_, rfl⟩
      have hJl : J0.length ≤ 200 := by
        rw [← hJ0]
        refine Nat.le_trans (ivl_len s _) ?_
        rw [List.length_take, prl_len]; omega
      simp only [hp, hJ0] at hBk hstep hIv hf1 hf2 hf3 hf4 hf5 hf6 ⊢
      have c4 : A.cell? ⟨B, 4, none⟩ = some (.bool p.k) := by simpa [Pc.cells] using hBk.cell 4
      cases hpk : p.k
      case true =>
        rw [hpk] at c4 hstep
        have HI := Lib.hid (And.intro hIv hBA); have HT := Lib.hid hstep
        clear hIv hBA hstep hBk
        gi_wp2
        refine ⟨T, ⟨?_, HI.out.2⟩, Rnd.refl _ _⟩
        rw [HT.out]; simpa using HI.out.1
      case false =>
      obtain ⟨v, hvb, hvo, hvn, hvT⟩ := hIv
      rw [hpk] at c4 hstep
      have hxl := hf6 hpk
      have hbA : b < A.heap.size := hvb.lt
      have hBb : B ≠ b ∧ v.ownBlock ≠ some B := ⟨fun e => hTB ((hvT B).2 (.inl e)), fun e => hTB ((hvT B).2 (.inr e))⟩
      have hBA' : B < A.heap.size := hBk.lt
      have hpb : Boxed A p0 9 (.string s) := (hBA.block p0 hlp).trans HBP.out
      have hpv : v.ownBlock ≠ some p0 := fun e => by have := (hvo.lt p0 e).1; omega
      have cbA : A.cell? ⟨b, 0, none⟩ = some v := by simpa using hvb.cell 0
      have cells_of : ∀ w' : World, w'.heap[p0]? = A.heap[p0]? → w'.heap[B]? = A.heap[B]? → (w'.cell? ⟨p0, 0, none⟩ = some (.string s) ∧ w'.cell? ⟨B, 0, none⟩ = some (.int .i64 p.f) ∧ w'.cell? ⟨B, 1, none⟩ = some (.int .i64 p.t) ∧ w'.cell? ⟨B, 2, none⟩ = some (.int .i64 p.q) ∧ w'.cell? ⟨B, 3, none⟩ = some (.string p.x) ∧ w'.cell? ⟨B, 4, none⟩ = some (.bool false)) := by
        intro w' h1 h2
        have k0 := hBk.same h2
        have m0 := k0.cell 0; have m1 := k0.cell 1; have m2 := k0.cell 2; have m3 := k0.cell 3; have m4 := k0.cell 4
        simp only [Pc.cells, hpk, List.getElem?_toArray, List.getElem?_cons_zero, List.getElem?_cons_succ] at m0 m1 m2 m3 m4
        exact ⟨Boxed.cell (h1.trans hpb), m0, m1, m2, m3, m4⟩
      have KF : ∀ w' : World, Below A.heap.size A w' → (w'.cell? ⟨p0, 0, none⟩ = some (.string s) ∧ w'.cell? ⟨B, 0, none⟩ = some (.int .i64 p.f) ∧ w'.cell? ⟨B, 1, none⟩ = some (.int .i64 p.t) ∧ w'.cell? ⟨B, 2, none⟩ = some (.int .i64 p.q) ∧ w'.cell? ⟨B, 3, none⟩ = some (.string p.x) ∧ w'.cell? ⟨B, 4, none⟩ = some (.bool false)) :=
        fun w' h => cells_of w' (h.block p0 (by omega)) (h.block B hBA')
      have C2 := Lib.hid (fun W => end_any ⟨p.f, p.t, p.q, p.x, false⟩ W (by show -9223372036854775808 ≤ p.q + (p.x.size : Int); omega) (by show p.q + (p.x.size : Int) ≤ 9223372036854775807; omega))
      simp only [Pc.val] at C2
      have hft : (s.extract p.f.toNat p.t.toNat).size = (p.t - p.f).toNat := by rw [ByteArray.size_extract]; omega
      have HKF := Lib.hid KF
      gi_wp2
      refine region_round (S := fun w' => w'.cell? ⟨p0, 0, none⟩ = some (.string s) ∧ w'.cell? ⟨B, 0, none⟩ = some (.int .i64 p.f) ∧ w'.cell? ⟨B, 1, none⟩ = some (.int .i64 p.t) ∧ w'.cell? ⟨B, 2, none⟩ = some (.int .i64 p.q) ∧ w'.cell? ⟨B, 3, none⟩ = some (.string p.x) ∧ w'.cell? ⟨B, 4, none⟩ = some (.bool false)) (by kernel_rfl) (by kernel_rfl) (fun ⟨_, _, h⟩ => h) (KF _ (Below.refl _ A).drew) (fun hHeld => ?_)
      refine wpAnyH_take (i := 1) (oi := _) (v := .pointer (some ⟨B, 2, none⟩)) rfl (by kernel_rfl) (by kernel_rfl) (by kernel_rfl) (fun _ _ _ h => h) (Or.inl ⟨by rfl, ?_⟩) (by assumption) ?_
      · intro w hSw; (try dsimp only at hSw); go_simp
      try simp only [Act.put]
      try simp only [List.setIfInBounds_toArray]
      try simp only [List.set_cons_succ]
      try simp only [List.set_cons_zero]
      refine wpAnyH_take (i := 2) (oi := _) (v := .int .i64 p.q) rfl (by kernel_rfl) (by kernel_rfl) (by kernel_rfl) (fun _ _ _ h => h) (Or.inl ⟨by rfl, ?_⟩) (by assumption) ?_
      · intro w hSw; (try dsimp only at hSw); go_simp
      try simp only [Act.put]
      try simp only [List.setIfInBounds_toArray]
      try simp only [List.set_cons_succ]
      try simp only [List.set_cons_zero]
      refine wpAnyH_take (i := 3) (oi := _) (v := .agg #[.int .i64 p.f, .int .i64 p.t, .int .i64 p.q, .string p.x, .bool false]) rfl (by kernel_rfl) (by kernel_rfl) (by kernel_rfl) (fun _ _ _ h => h) (Or.inl ⟨by rfl, ?_⟩) (by assumption) ?_
      · intro w hSw; (try dsimp only at hSw); go_simp
      try simp only [Act.put]
      try simp only [List.setIfInBounds_toArray]
      try simp only [List.set_cons_succ]
      try simp only [List.set_cons_zero]
      refine wpAnyH_take (i := 5) (oi := _) (v := .string s) rfl (by kernel_rfl) (by kernel_rfl) (by kernel_rfl) (fun _ _ _ h => h) (Or.inl ⟨by rfl, ?_⟩) (by assumption) ?_
      · intro w hSw; (try dsimp only at hSw); go_simp
      try simp only [Act.put]
      try simp only [List.setIfInBounds_toArray]
      try simp only [List.set_cons_succ]
      try simp only [List.set_cons_zero]
      refine wpAnyH_take (i := 6) (oi := _) (v := .pointer (some ⟨B, 0, none⟩)) rfl (by kernel_rfl) (by kernel_rfl) (by kernel_rfl) (fun _ _ _ h => h) (Or.inl ⟨by rfl, ?_⟩) (by assumption) ?_
      · intro w hSw; (try dsimp only at hSw); go_simp
      try simp only [Act.put]
      try simp only [List.setIfInBounds_toArray]
      try simp only [List.set_cons_succ]
      try simp only [List.set_cons_zero]
      refine wpAnyH_take (i := 7) (oi := _) (v := .int .i64 p.f) rfl (by kernel_rfl) (by kernel_rfl) (by kernel_rfl) (fun _ _ _ h => h) (Or.inl ⟨by rfl, ?_⟩) (by assumption) ?_
      · intro w hSw; (try dsimp only at hSw); go_simp
      try simp only [Act.put]
      try simp only [List.setIfInBounds_toArray]
      try simp only [List.set_cons_succ]
      try simp only [List.set_cons_zero]
      refine wpAnyH_take (i := 8) (oi := _) (v := .pointer (some ⟨B, 1, none⟩)) rfl (by kernel_rfl) (by kernel_rfl) (by kernel_rfl) (fun _ _ _ h => h) (Or.inl ⟨by rfl, ?_⟩) (by assumption) ?_
      · intro w hSw; (try dsimp only at hSw); go_simp
      try simp only [Act.put]
      try simp only [List.setIfInBounds_toArray]
      try simp only [List.set_cons_succ]
      try simp only [List.set_cons_zero]
      refine wpAnyH_take (i := 9) (oi := _) (v := .int .i64 p.t) rfl (by kernel_rfl) (by kernel_rfl) (by kernel_rfl) (fun _ _ _ h => h) (Or.inl ⟨by rfl, ?_⟩) (by assumption) ?_
      · intro w hSw; (try dsimp only at hSw); go_simp
      try simp only [Act.put]
      try simp only [List.setIfInBounds_toArray]
      try simp only [List.set_cons_succ]
      try simp only [List.set_cons_zero]
      refine wpAnyH_take (i := 10) (oi := _) (v := .string (s.extract p.f.toNat p.t.toNat)) rfl (by kernel_rfl) (by kernel_rfl) (by kernel_rfl) (fun _ _ _ h => h) (Or.inl ⟨by rfl, ?_⟩) (by assumption) ?_
      · intro w hSw; (try dsimp only at hSw); go_simp
      try simp only [Act.put]
      try simp only [List.setIfInBounds_toArray]
      try simp only [List.set_cons_succ]
      try simp only [List.set_cons_zero]
      refine wpAnyH_ready (rs := [0, 4]) (by kernel_rfl) (by simp) ?_
      refine AllReadyH.cons (o := _) rfl (fun K hK => ?_) (AllReadyH.cons (o := _) rfl (fun K hK => ?_) AllReadyH.nil)
      case' refine_1 =>
        go_simp
        refine hK.out _ _ (by assumption) (fun hHeld => ?_)
        clear hK K
        try simp only [Act.put]
        try simp only [List.setIfInBounds_toArray]
        try simp only [List.set_cons_succ]
        try simp only [List.set_cons_zero]
        refine wpAnyH_ready (rs := [4]) (by kernel_rfl) (by simp) ?_
        refine AllReadyH.cons (o := _) rfl (fun K hK => ?_) AllReadyH.nil
        go_simp
        go_at_call 47
        refine (C2.out _).mono ?_
        rintro e wE ⟨rfl, bE⟩
        have bE' : Below A.heap.size A wE := (Below.refl _ A).drew.trans bE
        have sE := HKF.out _ bE'
        have cE : wE.cell? ⟨b, 0, none⟩ = some v := (bE'.cell (p := ⟨b, 0, none⟩) hbA).trans cbA
        have bE2 : Below A.heap.size A (wE.alloc (.cells #[.int .i64 p.q, .int .i64 (p.q + (p.x.size : Int)), .string (s.extract p.f.toNat p.t.toNat)] 32)) := bE'.alloc bE'.size _
        have sE2 := HKF.out _ bE2
        have cE2 := (bE2.cell (p := ⟨b, 0, none⟩) hbA).trans cbA
        try go_simp
        refine hK.out _ _ sE (fun hHeld => ?_)
        clear hK K
        try simp only [Act.put]
        try simp only [List.setIfInBounds_toArray]
        try simp only [List.set_cons_succ]
        try simp only [List.set_cons_zero]
        refine wpAnyH_take (i := 11) (oi := _) (v := .agg #[.int .i64 p.q, .int .i64 (p.q + (p.x.size : Int)), .string (s.extract p.f.toNat p.t.toNat)]) rfl (by kernel_rfl) (by kernel_rfl) (by kernel_rfl) (fun _ _ _ h => h) (Or.inl ⟨by rfl, ?_⟩) (by assumption) ?_
        · intro w hSw; (try dsimp only at hSw); go_simp
        try simp only [Act.put]
        try simp only [List.setIfInBounds_toArray]
        try simp only [List.set_cons_succ]
        try simp only [List.set_cons_zero]
        refine wpAnyH_ready (rs := [12]) (by kernel_rfl) (by simp) ?_
        refine AllReadyH.cons (o := _) rfl (fun K hK => ?_) AllReadyH.nil
        go_simp
        refine hK.out _ _ sE2 (fun hHeld => ?_)
        clear hK K
        try simp only [Act.put]
        try simp only [List.setIfInBounds_toArray]
        try simp only [List.set_cons_succ]
        try simp only [List.set_cons_zero]
      case' refine_2 =>
        go_simp
        go_at_call 47
        refine (C2.out _).mono ?_
        rintro e wE ⟨rfl, bE⟩
        have bE' : Below A.heap.size A wE := (Below.refl _ A).drew.trans bE
        have sE := HKF.out _ bE'
        have cE : wE.cell? ⟨b, 0, none⟩ = some v := (bE'.cell (p := ⟨b, 0, none⟩) hbA).trans cbA
        have bE2 : Below A.heap.size A (wE.alloc (.cells #[.int .i64 p.q, .int .i64 (p.q + (p.x.size : Int)), .string (s.extract p.f.toNat p.t.toNat)] 32)) := bE'.alloc bE'.size _
        have sE2 := HKF.out _ bE2
        have cE2 := (bE2.cell (p := ⟨b, 0, none⟩) hbA).trans cbA
        try go_simp
        refine hK.out _ _ sE (fun hHeld => ?_)
        clear hK K
        try simp only [Act.put]
        try simp only [List.setIfInBounds_toArray]
        try simp only [List.set_cons_succ]
        try simp only [List.set_cons_zero]
        refine wpAnyH_take (i := 11) (oi := _) (v := .agg #[.int .i64 p.q, .int .i64 (p.q + (p.x.size : Int)), .string (s.extract p.f.toNat p.t.toNat)]) rfl (by kernel_rfl) (by kernel_rfl) (by kernel_rfl) (fun _ _ _ h => h) (Or.inl ⟨by rfl, ?_⟩) (by assumption) ?_
        · intro w hSw; (try dsimp only at hSw); go_simp
        try simp only [Act.put]
        try simp only [List.setIfInBounds_toArray]
        try simp only [List.set_cons_succ]
        try simp only [List.set_cons_zero]
        refine wpAnyH_ready (rs := [0, 12]) (by kernel_rfl) (by simp) ?_
        refine AllReadyH.cons (o := _) rfl (fun K hK => ?_) (AllReadyH.cons (o := _) rfl (fun K hK => ?_) AllReadyH.nil)
        case' refine_1 =>
          go_simp
          refine hK.out _ _ sE (fun hHeld => ?_)
          clear hK K
          try simp only [Act.put]
          try simp only [List.setIfInBounds_toArray]
          try simp only [List.set_cons_succ]
          try simp only [List.set_cons_zero]
          refine wpAnyH_ready (rs := [12]) (by kernel_rfl) (by simp) ?_
          refine AllReadyH.cons (o := _) rfl (fun K hK => ?_) AllReadyH.nil
          go_simp
          refine hK.out _ _ sE2 (fun hHeld => ?_)
          clear hK K
          try simp only [Act.put]
          try simp only [List.setIfInBounds_toArray]
          try simp only [List.set_cons_succ]
          try simp only [List.set_cons_zero]
        case' refine_2 =>
          go_simp
          refine hK.out _ _ sE2 (fun hHeld => ?_)
          clear hK K
          try simp only [Act.put]
          try simp only [List.setIfInBounds_toArray]
          try simp only [List.set_cons_succ]
          try simp only [List.set_cons_zero]
          refine wpAnyH_ready (rs := [0]) (by kernel_rfl) (by simp) ?_
          refine AllReadyH.cons (o := _) rfl (fun K hK => ?_) AllReadyH.nil
          go_simp
          refine hK.out _ _ sE2 (fun hHeld => ?_)
          clear hK K
          try simp only [Act.put]
          try simp only [List.setIfInBounds_toArray]
          try simp only [List.set_cons_succ]
          try simp only [List.set_cons_zero]
      all_goals
        have hvo1 : (wE.alloc (.cells #[.int .i64 p.q, .int .i64 (p.q + (p.x.size : Int)), .string (s.extract p.f.toNat p.t.toNat)] 32)).ownsRow lo 32 3 v J0.length (rv J0) := own_same hvo (fun g hg => bE2.block g (hvo.lt g hg).2)
        refine wpAnyH_ready (rs := [13]) (by kernel_rfl) (by simp) ?_
        refine AllReadyH.cons (o := _) rfl (fun K hK => ?_) AllReadyH.nil
        rw [if_pos (by rfl)]
        refine wp_append_at _ _ 22 rfl lo 32 i3 (.agg #[.int .i64 0, .int .i64 0, .string ⟨#[]⟩]) 3 32 Try.underlying22 hi3 jy0 jy1 jy2 rfl (by decide) v J0.length (rv J0) rfl hvo1 ⟨wE.heap.size, 0, none⟩ 1 1 [.int .i64 p.q, .int .i64 (p.q + (p.x.size : Int)), .string (s.extract p.f.toNat p.t.toNat)] rfl rfl (cells_news _ [.int .i64 p.q, .int .i64 (p.q + (p.x.size : Int)), .string (s.extract p.f.toNat p.t.toNat)] _) (fun x hx => by simp at hx; rcases hx with rfl | rfl | rfl <;> rfl) (by unfold maxLen; omega) (by omega) (by have := bE2.size; omega) ?_
        intro v' w6 hown6 hgrow6 hat6
        obtain ⟨ao, co, rfl⟩ := own_slice hown6
        have hl6 : b < (wE.alloc (.cells #[.int .i64 p.q, .int .i64 (p.q + (p.x.size : Int)), .string (s.extract p.f.toNat p.t.toNat)] 32)).heap.size := by have := bE2.size; omega
        have hB6 : B < (wE.alloc (.cells #[.int .i64 p.q, .int .i64 (p.q + (p.x.size : Int)), .string (s.extract p.f.toNat p.t.toNat)] 32)).heap.size := by have := bE2.size; omega
        have hp6 : w6.heap[p0]? = A.heap[p0]? := (hgrow6.block p0 (by omega) (fun e => hpv e.symm)).trans (bE2.block p0 (by omega))
        have hq6 : w6.heap[B]? = A.heap[B]? := (hgrow6.block B hB6 (fun e => hBb.2 e.symm)).trans (bE2.block B hBA')
        have hb6 : w6.heap[b]? = A.heap[b]? := (hgrow6.block b hl6 (fun e => hvn e.symm)).trans (bE2.block b hbA)
        have s6 := cells_of w6 hp6 hq6
        have s7 := cells_of (w6.setCell ⟨b, 0, none⟩ (.slice ao (J0.length + 1) co)) ((Below.heap_setCell w6 _ _ p0 (by simp; omega)).trans hp6) ((Below.heap_setCell w6 _ _ B (by simp; exact hBb.1)).trans hq6)
        have k6 := hvb.same hb6
        have c6 : w6.cell? ⟨b, 0, none⟩ = some v := by simpa using k6.cell 0
        have f6 := k6.frozen 0
        obtain ⟨T', hI', hR'⟩ := Iv.step (e := ⟨p.q, p.q + (p.x.size : Int), s.extract p.f.toNat p.t.toNat⟩) hvb hvn hvT hvo bE2 hown6 hgrow6 hat6
        have hF7 : Below lo W3 (w6.setCell ⟨b, 0, none⟩ (.slice ao (J0.length + 1) co)) := hBA.trans (((bE2.mono (by omega)).grown hgrow6 (by omega) (fun g hg => (hvo.lt g hg).1)).setCell (p := ⟨b, 0, none⟩) (by show lo ≤ b; omega) _)
        have HFIN := Lib.hid (And.intro hI' (And.intro hF7 hR'))
        clear hI' hF7 hR' hown6 hgrow6 hat6
        refine hK.out _ _ s6 (fun hHeld => ?_)
        clear hK K
        try simp only [Act.put]
        try simp only [List.setIfInBounds_toArray]
        try simp only [List.set_cons_succ]
        try simp only [List.set_cons_zero]
        refine wpAnyH_ready (rs := [14]) (by kernel_rfl) (by simp) ?_
        refine AllReadyH.cons (o := _) rfl (fun K hK => ?_) AllReadyH.nil
        go_simp
        refine hK.out _ _ s7 (fun _ => ?_)
        refine wpAnyH_done (by kernel_rfl) ?_ _
        obtain ⟨hI', hF7, hR'⟩ := HFIN.out
        refine ⟨T', ⟨?_, hF7⟩, hR'⟩
        rw [hstep]; simpa using hI'
    case done =>
      rintro T A hA ⟨⟨v, hvb, hvo, hvn, hvT⟩, hBA⟩ hTw hK
      have hall : ivl s ((prl s 0 0 es).take (2 * es.length + 1)) = R := by
        rw [List.take_of_length_le (by rw [prl_len]; exact Nat.le_refl _), HRV.out]
        exact ivl_prl s es 0 0 (fun e he => ⟨(hbd e he).1, (hbd e he).2.1⟩) hv0
      rw [hall] at hvo
      have hvo2 := own_same (C := A.putObj W3.heap.size (.deferred none)) hvo (fun g hg => World.putObj_heap_other (fun e => hTw ((hvT _).2 (.inr (by rw [hg, e])))))
      obtain ⟨_, ao, co, rfl, hES⟩ := es_of_own hvo2
      have cb : A.cell? ⟨b, 0, none⟩ = some (.slice ao R.length co) := by simpa using hvb.cell 0
      have hF : Below p0 w (A.putObj W3.heap.size (.deferred none)) := HW3.out.trans ((hBA.mono (by omega)).trans ⟨rfl, rfl, rfl, by simp, fun k hk => World.putObj_heap_other (by omega)⟩)
      have HES := Lib.hid hES; have HFF := Lib.hid hF; have HK := Lib.hid hK
      clear hES hvb hvo hvo2 hvn hvT hBA hall hK hF
      gi_wp2
      refine ⟨by simp, .inl ⟨_, _, rfl, run_takeDeferred (by have := HK.out; rwa [hs3] at this), ?_⟩⟩
      refine ⟨_, results_tmp2 rfl _ _ _, ao, co, rfl, ?_, ?_⟩
      · have := HES.out; rwa [hs3] at this
      · rw [HP0.out]; have := HFF.out; rwa [hs3] at this
  · have hiv : ivS s es = [] := by unfold ivS; rw [if_neg hv]
    have HV := Lib.hid hv
    have hq : (vErr (s.size : Int) es != 0) = true := by simp [hv]
    generalize vErr (s.size : Int) es = er at CV HV hq hv ⊢
    rw [hiv]
    clear hv hn' hS hfit hiv
    go_enter Try.func24, Try.ntmps24
    go_wp2_with fail
    refine CV.out.mono ?_
    rintro e w1 ⟨rfl, hb1⟩
    have HB1 := Lib.hid hb1
    clear hb1
    go_wp2
    go_ret2
    exact ⟨none, 0, rfl, ES.none _ _, by rw [HP0.out]; exact HB0.out.trans (HB1.out.mono (by omega))⟩

end Go.Proofs.Ytfhpllcdlejfjaa
