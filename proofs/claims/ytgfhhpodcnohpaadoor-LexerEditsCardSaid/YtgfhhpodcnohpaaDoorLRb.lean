/- Tokens: the reference's symbol. Conditions: texts of at most 100000 bytes. -/
import Derived.Test.YtgfhhpodcnohpaaDoorLRa
import Derived.Test.YtgfhhpodcnohpaaDoorLSy
import Derived.Test.YtgfhhpodcnohpaaDoorRegH
import Derived.Deep.QuietTactic
namespace Go.Proofs.YtgfhhpodcnohpaaDoor
open Go.RowKit Go.Shelf
set_option linter.unusedVariables false

theorem sy_mem2 {x : List Int} (h : x.length = 2) : x ∈ SY ↔ x ∈ SY2 := by
  unfold SY
  rw [List.mem_append]
  constructor
  · rintro (h1 | h1)
    · exact h1
    · obtain ⟨a, _, rfl⟩ := List.mem_map.1 h1
      simp at h
  · exact .inl
theorem sy_mem1 (a : Int) : [a] ∈ SY ↔ a ∈ SY1 := by
  unfold SY
  rw [List.mem_append]
  constructor
  · rintro (h1 | h1)
    · have := sy2_len h1
      simp at this
    · obtain ⟨b, hb, e⟩ := List.mem_map.1 h1
      simp only [List.cons.injEq, and_true] at e
      rw [← e]
      exact hb
  · exact fun h => .inr (List.mem_map.2 ⟨a, h, rfl⟩)
theorem syLen_eq (l : List Int) (h : l ≠ []) : syLen l = if 2 ≤ l.length ∧ l.take 2 ∈ SY then 2 else if l.take 1 ∈ SY then 1 else 0 := by
  match l with
  | [] => exact absurd rfl h
  | [a] =>
    have h1 : ¬ (2 ≤ [a].length ∧ List.take 2 [a] ∈ SY) := by rintro ⟨h, _⟩; simp at h
    rw [if_neg h1]
    show _ = if [a] ∈ SY then 1 else 0
    by_cases h2 : a ∈ SY1
    · rw [syLen, if_pos h2, if_pos ((sy_mem1 a).2 h2)]
    · rw [syLen, if_neg h2, if_neg (fun e => h2 ((sy_mem1 a).1 e))]
  | a :: b :: t =>
    by_cases h2 : [a, b] ∈ SY2
    · have h1 : 2 ≤ (a :: b :: t).length ∧ List.take 2 (a :: b :: t) ∈ SY := ⟨by simp, (sy_mem2 (x := [a, b]) rfl).2 h2⟩
      rw [syLen, if_pos h2, if_pos h1]
    · have h1 : ¬ (2 ≤ (a :: b :: t).length ∧ List.take 2 (a :: b :: t) ∈ SY) := fun e => h2 ((sy_mem2 (x := [a, b]) rfl).1 e.2)
      rw [syLen, if_neg h2, if_neg h1]
      show _ = if [a] ∈ SY then 1 else 0
      by_cases h3 : a ∈ SY1
      · rw [if_pos h3, if_pos ((sy_mem1 a).2 h3)]
      · rw [if_neg h3, if_neg (fun e => h3 ((sy_mem1 a).1 e))]

set_option maxRecDepth 100000 in
set_option maxHeartbeats 4000000 in
theorem rsymbol_any (s : ByteArray) (a : Nat) (ha : a < s.size) (hs : s.size ≤ 100000) (w : World) :
    Calls Tryd.prog 104 #[.string s, .int .i64 (a : Int)] w fun e w' => e = .returned (.int .i64 (syLen ((sb s).drop a) : Int)) ∧ Below w.heap.size w w' := by
  have hne : (sb s).drop a ≠ [] := by
    intro e
    have := congrArg List.length e
    rw [List.length_drop, sb_len, List.length_nil] at this
    omega
  have hEq := syLen_eq _ hne
  rw [List.length_drop, sb_len] at hEq
  obtain ⟨R, hR⟩ : ∃ R, syLen ((sb s).drop a) = R := ⟨_, rfl⟩
  rw [hR] at hEq ⊢
  obtain ⟨u2, hu2⟩ : ∃ u, s.extract a (a + 2) = u := ⟨_, rfl⟩
  obtain ⟨u1, hu1⟩ : ∃ u, s.extract a (a + 1) = u := ⟨_, rfl⟩
  have hs2 : sb u2 = ((sb s).drop a).take 2 := by rw [← hu2, sbExt, List.drop_take]; congr 1; omega
  have hs1 : sb u1 = ((sb s).drop a).take 1 := by rw [← hu1, sbExt, List.drop_take]; congr 1; omega
  rw [← hs2, ← hs1] at hEq
  obtain ⟨b2, hb2⟩ : ∃ b, decide (sb u2 ∈ SY) = b := ⟨_, rfl⟩
  obtain ⟨b1, hb1⟩ : ∃ b, decide (sb u1 ∈ SY) = b := ⟨_, rfl⟩
  have c2 := fun g W (h : Strs W ⟨g, 0, none⟩ SY) => rhas_any SY ⟨g, 0, none⟩ 24 rfl (by omega) u2 W h
  have c1 := fun g W (h : Strs W ⟨g, 0, none⟩ SY) => rhas_any SY ⟨g, 0, none⟩ 24 rfl (by omega) u1 W h
  rw [hb2] at c2
  rw [hb1] at c1
  have HE : Hid (R = if 2 ≤ s.size - a ∧ b2 = true then 2 else if b1 = true then 1 else 0) := Lib.hid (by
    rw [hEq, ← hb2, ← hb1]
    simp only [decide_eq_true_eq])
  have C2 := Lib.hid c2
  have C1 := Lib.hid c1
  have k1 : IntKind.i64.wrap ((a : Int) + 2) = (a : Int) + 2 := by simp [IntKind.wrap, IntKind.signed, IntKind.bits]; omega
  have k2 : IntKind.i64.wrap ((a : Int) + 1) = (a : Int) + 1 := by simp [IntKind.wrap, IntKind.signed, IntKind.bits]; omega
  have j1 : ((a : Int) + 2).toNat = a + 2 := by omega
  have j2 : ((a : Int) + 1).toNat = a + 1 := by omega
  have g0 : (0 : Int) ≤ (a : Int) := by omega
  have g1 : (a : Int) ≤ (a : Int) + 2 := by omega
  have g2 : (a : Int) ≤ (a : Int) + 1 := by omega
  have g3 : (a : Int) + 1 ≤ (s.size : Int) := by omega
  clear hEq hs2 hs1 hb2 hb1 c2 c1 hR hne
  by_cases h2 : a + 2 ≤ s.size
  · have g4 : (a : Int) + 2 ≤ (s.size : Int) := by omega
    have d4 : decide ((a : Int) + 2 ≤ (s.size : Int)) = true := decide_eq_true g4
    go_enter Tryd.func104, Tryd.ntmps104
    go_wp2_with fail
    refine wp_region_held (S := fun _ : World => True) (by kernel_rfl) ?_
    change wpAnyH _ _ _ _ _ _ _ _ (World.drew _)
    refine takeH (i := 0) (d := (some 5)) (v := ?_) rfl rfl (by kernel_rfl) (by kernel_rfl) (by kernel_rfl) (fun _ _ _ h => h) (Or.inl ⟨by kernel_rfl, ?_⟩) trivial ?_
    rotate_left
    focus (intro w hSw; (try dsimp only at hSw); go_simp; first | done | with_reducible rfl)
    try simp only [Act.put]
    try simp only [List.setIfInBounds_toArray]
    try simp only [List.set_cons_succ]
    try simp only [List.set_cons_zero]
    refine takeH (i := 1) (d := (some 6)) (v := ?_) rfl rfl (by kernel_rfl) (by kernel_rfl) (by kernel_rfl) (fun _ _ _ h => h) (Or.inl ⟨by kernel_rfl, ?_⟩) trivial ?_
    rotate_left
    focus (intro w hSw; (try dsimp only at hSw); go_simp; first | done | with_reducible rfl)
    try simp only [Act.put]
    try simp only [List.setIfInBounds_toArray]
    try simp only [List.set_cons_succ]
    try simp only [List.set_cons_zero]
    refine takeH (i := 2) (d := (some 7)) (v := ?_) rfl rfl (by kernel_rfl) (by kernel_rfl) (by kernel_rfl) (fun _ _ _ h => h) (Or.inl ⟨by kernel_rfl, ?_⟩) trivial ?_
    rotate_left
    focus (intro w hSw; (try dsimp only at hSw); go_simp; first | done | with_reducible rfl)
    try simp only [Act.put]
    try simp only [List.setIfInBounds_toArray]
    try simp only [List.set_cons_succ]
    try simp only [List.set_cons_zero]
    refine takeH (i := 3) (d := (some 8)) (v := ?_) rfl rfl (by kernel_rfl) (by kernel_rfl) (by kernel_rfl) (fun _ _ _ h => h) (Or.inl ⟨by kernel_rfl, ?_⟩) trivial ?_
    rotate_left
    focus (intro w hSw; (try dsimp only at hSw); go_simp; first | done | with_reducible rfl)
    try simp only [Act.put]
    try simp only [List.setIfInBounds_toArray]
    try simp only [List.set_cons_succ]
    try simp only [List.set_cons_zero]
    refine takeH (i := 4) (d := (some 9)) (v := ?_) rfl rfl (by kernel_rfl) (by kernel_rfl) (by kernel_rfl) (fun _ _ _ h => h) (Or.inl ⟨by kernel_rfl, ?_⟩) trivial ?_
    rotate_left
    focus (intro w hSw; (try dsimp only at hSw); go_simp; first | done | with_reducible rfl)
    try simp only [Act.put]
    try simp only [List.setIfInBounds_toArray]
    try simp only [List.set_cons_succ]
    try simp only [List.set_cons_zero]
    refine takeH (i := 5) (d := (some 10)) (v := ?_) rfl rfl (by kernel_rfl) (by kernel_rfl) (by kernel_rfl) (fun _ _ _ h => h) (Or.inl ⟨by kernel_rfl, ?_⟩) trivial ?_
    rotate_left
    focus (intro w hSw; (try dsimp only at hSw); go_simp; first | done | with_reducible rfl)
    try simp only [Act.put]
    try simp only [List.setIfInBounds_toArray]
    try simp only [List.set_cons_succ]
    try simp only [List.set_cons_zero]
    refine takeH (i := 7) (d := (some 12)) (v := ?_) rfl rfl (by kernel_rfl) (by kernel_rfl) (by kernel_rfl) (fun _ _ _ h => h) (Or.inl ⟨by kernel_rfl, ?_⟩) trivial ?_
    rotate_left
    focus (intro w hSw; (try dsimp only at hSw); go_simp; first | done | with_reducible rfl)
    try simp only [Act.put]
    try simp only [List.setIfInBounds_toArray]
    try simp only [List.set_cons_succ]
    try simp only [List.set_cons_zero]
    refine takeH (i := 8) (d := (some 13)) (v := ?_) rfl rfl (by kernel_rfl) (by kernel_rfl) (by kernel_rfl) (fun _ _ _ h => h) (Or.inl ⟨by kernel_rfl, ?_⟩) trivial ?_
    rotate_left
    focus (intro w hSw; (try dsimp only at hSw); go_simp; first | done | with_reducible rfl)
    try simp only [Act.put]
    try simp only [List.setIfInBounds_toArray]
    try simp only [List.set_cons_succ]
    try simp only [List.set_cons_zero]
    refine takeH (i := 9) (d := (some 14)) (v := ?_) rfl rfl (by kernel_rfl) (by kernel_rfl) (by kernel_rfl) (fun _ _ _ h => h) (Or.inl ⟨by kernel_rfl, ?_⟩) trivial ?_
    rotate_left
    focus (intro w hSw; (try dsimp only at hSw); go_simp; first | done | with_reducible rfl)
    try simp only [Act.put]
    try simp only [List.setIfInBounds_toArray]
    try simp only [List.set_cons_succ]
    try simp only [List.set_cons_zero]
    refine takeH (i := 10) (d := (some 15)) (v := ?_) rfl rfl (by kernel_rfl) (by kernel_rfl) (by kernel_rfl) (fun _ _ _ h => h) (Or.inl ⟨by kernel_rfl, ?_⟩) trivial ?_
    rotate_left
    focus (intro w hSw; (try dsimp only at hSw); go_simp; first | done | with_reducible rfl)
    try simp only [Act.put]
    try simp only [List.setIfInBounds_toArray]
    try simp only [List.set_cons_succ]
    try simp only [List.set_cons_zero]
    refine takeH (i := 11) (d := (some 16)) (v := ?_) rfl rfl (by kernel_rfl) (by kernel_rfl) (by kernel_rfl) (fun _ _ _ h => h) (Or.inl ⟨by kernel_rfl, ?_⟩) trivial ?_
    rotate_left
    focus (intro w hSw; (try dsimp only at hSw); go_simp; first | done | with_reducible rfl)
    try simp only [Act.put]
    try simp only [List.setIfInBounds_toArray]
    try simp only [List.set_cons_succ]
    try simp only [List.set_cons_zero]
    refine wpAnyH_ready (rs := [6]) (by kernel_rfl) (by simp) ?_
    refine AllReadyH.cons (o := _) rfl (fun K' hK => ?_) AllReadyH.nil
    go_simp
    go_at_call 84
    refine (rsymbols_any _).mono ?_
    rintro e w1 ⟨g1, rfl, hS1, hb1⟩
    try go_simp
    refine hK.out _ _ trivial (fun hHeld => ?_)
    clear hK K' hHeld
    try simp only [Act.put]
    try simp only [List.setIfInBounds_toArray]
    try simp only [List.set_cons_succ]
    try simp only [List.set_cons_zero]
    refine wpAnyH_ready (rs := [12]) (by kernel_rfl) (by simp) ?_
    refine AllReadyH.cons (o := _) rfl (fun K' hK => ?_) AllReadyH.nil
    go_simp
    go_at_call 44
    refine (C2.out g1 _ hS1).mono ?_
    rintro e v1 ⟨rfl, rfl⟩
    try go_simp
    refine hK.out _ _ trivial (fun hHeld => ?_)
    clear hK K' hHeld
    try simp only [Act.put]
    try simp only [List.setIfInBounds_toArray]
    try simp only [List.set_cons_succ]
    try simp only [List.set_cons_zero]
    refine takeH (i := 13) (d := (some 18)) (v := ?_) rfl rfl (by kernel_rfl) (by kernel_rfl) (by kernel_rfl) (fun _ _ _ h => h) (Or.inl ⟨by kernel_rfl, ?_⟩) trivial ?_
    rotate_left
    focus (intro w hSw; (try dsimp only at hSw); go_simp; first | done | with_reducible rfl)
    try simp only [Act.put]
    try simp only [List.setIfInBounds_toArray]
    try simp only [List.set_cons_succ]
    try simp only [List.set_cons_zero]
    refine wpAnyH_done (by kernel_rfl) ?_ _
    have HB1 : Hid (Below w.heap.size w v1) := Lib.hid ((Below.refl w.heap.size w).drew.trans hb1)
    clear hb1 hS1
    cases b2
    · go_wp2_with fail
      refine wp_region_held (S := fun _ : World => True) (by kernel_rfl) ?_
      change wpAnyH _ _ _ _ _ _ _ _ (World.drew _)
      refine takeH (i := 1) (d := (some 20)) (v := ?_) rfl rfl (by kernel_rfl) (by kernel_rfl) (by kernel_rfl) (fun _ _ _ h => h) (Or.inl ⟨by kernel_rfl, ?_⟩) trivial ?_
      rotate_left
      focus (intro w hSw; (try dsimp only at hSw); go_simp; first | done | with_reducible rfl)
      try simp only [Act.put]
      try simp only [List.setIfInBounds_toArray]
      try simp only [List.set_cons_succ]
      try simp only [List.set_cons_zero]
      refine takeH (i := 2) (d := (some 21)) (v := ?_) rfl rfl (by kernel_rfl) (by kernel_rfl) (by kernel_rfl) (fun _ _ _ h => h) (Or.inl ⟨by kernel_rfl, ?_⟩) trivial ?_
      rotate_left
      focus (intro w hSw; (try dsimp only at hSw); go_simp; first | done | with_reducible rfl)
      try simp only [Act.put]
      try simp only [List.setIfInBounds_toArray]
      try simp only [List.set_cons_succ]
      try simp only [List.set_cons_zero]
      refine takeH (i := 3) (d := (some 22)) (v := ?_) rfl rfl (by kernel_rfl) (by kernel_rfl) (by kernel_rfl) (fun _ _ _ h => h) (Or.inl ⟨by kernel_rfl, ?_⟩) trivial ?_
      rotate_left
      focus (intro w hSw; (try dsimp only at hSw); go_simp; first | done | with_reducible rfl)
      try simp only [Act.put]
      try simp only [List.setIfInBounds_toArray]
      try simp only [List.set_cons_succ]
      try simp only [List.set_cons_zero]
      refine takeH (i := 4) (d := (some 23)) (v := ?_) rfl rfl (by kernel_rfl) (by kernel_rfl) (by kernel_rfl) (fun _ _ _ h => h) (Or.inl ⟨by kernel_rfl, ?_⟩) trivial ?_
      rotate_left
      focus (intro w hSw; (try dsimp only at hSw); go_simp; first | done | with_reducible rfl)
      try simp only [Act.put]
      try simp only [List.setIfInBounds_toArray]
      try simp only [List.set_cons_succ]
      try simp only [List.set_cons_zero]
      refine takeH (i := 5) (d := (some 24)) (v := ?_) rfl rfl (by kernel_rfl) (by kernel_rfl) (by kernel_rfl) (fun _ _ _ h => h) (Or.inl ⟨by kernel_rfl, ?_⟩) trivial ?_
      rotate_left
      focus (intro w hSw; (try dsimp only at hSw); go_simp; first | done | with_reducible rfl)
      try simp only [Act.put]
      try simp only [List.setIfInBounds_toArray]
      try simp only [List.set_cons_succ]
      try simp only [List.set_cons_zero]
      refine wpAnyH_ready (rs := [0]) (by kernel_rfl) (by simp) ?_
      refine AllReadyH.cons (o := _) rfl (fun K' hK => ?_) AllReadyH.nil
      go_simp
      go_at_call 84
      refine (rsymbols_any _).mono ?_
      rintro e w3 ⟨g3, rfl, hS3, hb3⟩
      try go_simp
      refine hK.out _ _ trivial (fun hHeld => ?_)
      clear hK K' hHeld
      try simp only [Act.put]
      try simp only [List.setIfInBounds_toArray]
      try simp only [List.set_cons_succ]
      try simp only [List.set_cons_zero]
      refine wpAnyH_ready (rs := [6]) (by kernel_rfl) (by simp) ?_
      refine AllReadyH.cons (o := _) rfl (fun K' hK => ?_) AllReadyH.nil
      go_simp
      go_at_call 44
      refine (C1.out g3 _ hS3).mono ?_
      rintro e v3 ⟨rfl, rfl⟩
      try go_simp
      refine hK.out _ _ trivial (fun hHeld => ?_)
      clear hK K' hHeld
      try simp only [Act.put]
      try simp only [List.setIfInBounds_toArray]
      try simp only [List.set_cons_succ]
      try simp only [List.set_cons_zero]
      refine wpAnyH_done (by kernel_rfl) ?_ _
      have HB3 : Hid (Below w.heap.size w v3) := Lib.hid (HB1.out.trans (((Below.refl _ v1).drew.trans hb3).mono HB1.out.size))
      clear hb3 hS3
      cases b1
      · have HV : Hid ((R : Int) = 0) := Lib.hid (by rw [HE.out, if_neg (by simp), if_neg (by simp)]; rfl)
        go_wp2
        go_ret
        exact ⟨by rw [HV.out]; rfl, HB3.out⟩
      · have HV : Hid ((R : Int) = 1) := Lib.hid (by rw [HE.out, if_neg (by simp), if_pos rfl]; rfl)
        go_wp2
        go_ret
        exact ⟨by rw [HV.out]; rfl, HB3.out⟩
    · have HV : Hid ((R : Int) = 2) := Lib.hid (by rw [HE.out, if_pos ⟨by omega, rfl⟩]; rfl)
      go_wp2
      go_ret
      exact ⟨by rw [HV.out]; rfl, HB1.out⟩
  · have d4 : decide ((a : Int) + 2 ≤ (s.size : Int)) = false := decide_eq_false (by omega)
    have g4 : ¬ (a : Int) + 2 ≤ (s.size : Int) := by omega
    go_enter Tryd.func104, Tryd.ntmps104
    go_wp2_with fail
    go_quiet (fail)
    go_wp2_with fail
    refine wp_region_held (S := fun _ : World => True) (by kernel_rfl) ?_
    change wpAnyH _ _ _ _ _ _ _ _ (World.drew _)
    refine takeH (i := 1) (d := (some 20)) (v := ?_) rfl rfl (by kernel_rfl) (by kernel_rfl) (by kernel_rfl) (fun _ _ _ h => h) (Or.inl ⟨by kernel_rfl, ?_⟩) trivial ?_
    rotate_left
    focus (intro w hSw; (try dsimp only at hSw); go_simp; first | done | with_reducible rfl)
    try simp only [Act.put]
    try simp only [List.setIfInBounds_toArray]
    try simp only [List.set_cons_succ]
    try simp only [List.set_cons_zero]
    refine takeH (i := 2) (d := (some 21)) (v := ?_) rfl rfl (by kernel_rfl) (by kernel_rfl) (by kernel_rfl) (fun _ _ _ h => h) (Or.inl ⟨by kernel_rfl, ?_⟩) trivial ?_
    rotate_left
    focus (intro w hSw; (try dsimp only at hSw); go_simp; first | done | with_reducible rfl)
    try simp only [Act.put]
    try simp only [List.setIfInBounds_toArray]
    try simp only [List.set_cons_succ]
    try simp only [List.set_cons_zero]
    refine takeH (i := 3) (d := (some 22)) (v := ?_) rfl rfl (by kernel_rfl) (by kernel_rfl) (by kernel_rfl) (fun _ _ _ h => h) (Or.inl ⟨by kernel_rfl, ?_⟩) trivial ?_
    rotate_left
    focus (intro w hSw; (try dsimp only at hSw); go_simp; first | done | with_reducible rfl)
    try simp only [Act.put]
    try simp only [List.setIfInBounds_toArray]
    try simp only [List.set_cons_succ]
    try simp only [List.set_cons_zero]
    refine takeH (i := 4) (d := (some 23)) (v := ?_) rfl rfl (by kernel_rfl) (by kernel_rfl) (by kernel_rfl) (fun _ _ _ h => h) (Or.inl ⟨by kernel_rfl, ?_⟩) trivial ?_
    rotate_left
    focus (intro w hSw; (try dsimp only at hSw); go_simp; first | done | with_reducible rfl)
    try simp only [Act.put]
    try simp only [List.setIfInBounds_toArray]
    try simp only [List.set_cons_succ]
    try simp only [List.set_cons_zero]
    refine takeH (i := 5) (d := (some 24)) (v := ?_) rfl rfl (by kernel_rfl) (by kernel_rfl) (by kernel_rfl) (fun _ _ _ h => h) (Or.inl ⟨by kernel_rfl, ?_⟩) trivial ?_
    rotate_left
    focus (intro w hSw; (try dsimp only at hSw); go_simp; first | done | with_reducible rfl)
    try simp only [Act.put]
    try simp only [List.setIfInBounds_toArray]
    try simp only [List.set_cons_succ]
    try simp only [List.set_cons_zero]
    refine wpAnyH_ready (rs := [0]) (by kernel_rfl) (by simp) ?_
    refine AllReadyH.cons (o := _) rfl (fun K' hK => ?_) AllReadyH.nil
    go_simp
    go_at_call 84
    refine (rsymbols_any _).mono ?_
    rintro e w3 ⟨g3, rfl, hS3, hb3⟩
    try go_simp
    refine hK.out _ _ trivial (fun hHeld => ?_)
    clear hK K' hHeld
    try simp only [Act.put]
    try simp only [List.setIfInBounds_toArray]
    try simp only [List.set_cons_succ]
    try simp only [List.set_cons_zero]
    refine wpAnyH_ready (rs := [6]) (by kernel_rfl) (by simp) ?_
    refine AllReadyH.cons (o := _) rfl (fun K' hK => ?_) AllReadyH.nil
    go_simp
    go_at_call 44
    refine (C1.out g3 _ hS3).mono ?_
    rintro e v3 ⟨rfl, rfl⟩
    try go_simp
    refine hK.out _ _ trivial (fun hHeld => ?_)
    clear hK K' hHeld
    try simp only [Act.put]
    try simp only [List.setIfInBounds_toArray]
    try simp only [List.set_cons_succ]
    try simp only [List.set_cons_zero]
    refine wpAnyH_done (by kernel_rfl) ?_ _
    have HB3 : Hid (Below w.heap.size w v3) := Lib.hid (((below_drewN (Below.refl w.heap.size w) _).drew.trans hb3))
    clear hb3 hS3
    cases b1
    · have HV : Hid ((R : Int) = 0) := Lib.hid (by rw [HE.out, if_neg (by rintro ⟨h, _⟩; omega), if_neg (by simp)]; rfl)
      go_wp2
      go_ret
      exact ⟨by rw [HV.out]; rfl, HB3.out⟩
    · have HV : Hid ((R : Int) = 1) := Lib.hid (by rw [HE.out, if_neg (by rintro ⟨h, _⟩; omega), if_pos rfl]; rfl)
      go_wp2
      go_ret
      exact ⟨by rw [HV.out]; rfl, HB3.out⟩

end Go.Proofs.YtgfhhpodcnohpaaDoor
