/- Tokens: the symbol ahead. Conditions: the tables lie in memory. -/
import Derived.Test.YtgfhhpodcnohpaaDoorLKw
namespace Go.Proofs.YtgfhhpodcnohpaaDoor
open Go.RowKit Go.Shelf
set_option linter.unusedVariables false

set_option maxRecDepth 100000 in
theorem hasprefix_any (s p : ByteArray) (w : World) (hs : s.size ≤ 100000) (hp : p.size ≤ 100000) :
    Calls Tryd.prog 144 #[.string s, .string p] w fun e w' => e = .returned (.bool (decide (sb p <+: sb s))) ∧ w' = w := by
  have hlite : ∀ W, Calls Tryd.prog 150 #[.string s, .string p] W fun e w' => e = .returned (.bool (decide (sb p <+: sb s))) ∧ w' = W := by
    intro W
    by_cases h1 : p.size ≤ s.size
    · have g0 : (p.size : Int) ≤ (s.size : Int) := by omega
      by_cases h2 : s.extract 0 p.size = p
      · have e : decide (sb p <+: sb s) = true := by
          rw [decide_eq_true_eq, List.prefix_iff_eq_take, sb_len]
          rw [← h2, sbExt, ByteArray.size_extract]
          simp only [List.drop_zero, Nat.sub_zero]
          congr 1
          omega
        rw [e]
        have hq : ((s.extract 0 p.size).toList == p.toList) = true := by rw [h2]; exact beq_self_eq_true _
        clear e h2
        go_enter Tryd.func150, Tryd.ntmps150
        go_wp2
        go_ret
        exact ⟨rfl, rfl⟩
      · have e : decide (sb p <+: sb s) = false := by
          rw [decide_eq_false_iff_not, List.prefix_iff_eq_take, sb_len]
          intro hpre
          apply h2
          apply sbInj
          rw [sbExt, hpre, List.drop_zero]
        rw [e]
        have hq : ((s.extract 0 p.size).toList == p.toList) = false := toList_ne h2
        clear e h2
        go_enter Tryd.func150, Tryd.ntmps150
        go_wp2
        go_ret
        exact ⟨rfl, rfl⟩
    · have g0 : ¬ (p.size : Int) ≤ (s.size : Int) := by omega
      have e : decide (sb p <+: sb s) = false := by
        rw [decide_eq_false_iff_not]
        intro hpre
        have := hpre.length_le
        rw [sb_len, sb_len] at this
        exact h1 this
      rw [e]
      clear e
      go_enter Tryd.func150, Tryd.ntmps150
      go_wp2
      go_ret
      exact ⟨rfl, rfl⟩
  obtain ⟨r, hr⟩ : ∃ r, decide (sb p <+: sb s) = r := ⟨_, rfl⟩
  rw [hr] at hlite ⊢
  have HL := Lib.hid hlite
  clear hlite hr
  go_enter Tryd.func144, Tryd.ntmps144
  go_wp2_with (go_at_call 150; refine (HL.out _).mono ?_; rintro e w' ⟨rfl, rfl⟩)
  go_ret
  exact ⟨rfl, rfl⟩

theorem sy2_len {x : List Int} (h : x ∈ SY2) : x.length = 2 := by
  have : ∀ x ∈ SY2, x.length = 2 := by decide
  exact this x h
theorem sy_two {x l : List Int} (h : x ∈ SY2) (hp : x <+: l) : syLen l = 2 := by
  have hl := sy2_len h
  match x, hl with
  | [a, b], _ =>
    obtain ⟨t, rfl⟩ := hp
    show syLen (a :: b :: t) = 2
    rw [syLen, if_pos h]
theorem sy_one {a : Int} {l : List Int} (h : a ∈ SY1) (hp : [a] <+: l) (hn : ∀ x ∈ SY2, ¬ x <+: l) : syLen l = 1 := by
  obtain ⟨t, rfl⟩ := hp
  match t with
  | [] =>
    show syLen [a] = 1
    rw [syLen, if_pos h]
  | b :: t =>
    show syLen (a :: b :: t) = 1
    rw [syLen, if_neg (fun h2 => hn _ h2 ⟨t, rfl⟩), if_pos h]
theorem sy_none {l : List Int} (hn : ∀ x ∈ SY, ¬ x <+: l) : syLen l = 0 := by
  match l with
  | [] => rfl
  | [a] =>
    rw [syLen, if_neg]
    intro h
    exact hn [a] (List.mem_append_right _ (List.mem_map.2 ⟨a, h, rfl⟩)) ⟨[], rfl⟩
  | a :: b :: t =>
    rw [syLen, if_neg (fun h2 => hn _ (List.mem_append_left _ h2) ⟨t, rfl⟩), if_neg]
    intro h
    exact hn [a] (List.mem_append_right _ (List.mem_map.2 ⟨a, h, rfl⟩)) ⟨b :: t, rfl⟩
theorem sy_at {k : Nat} {x : List Int} (h : SY[k]? = some x) : (k < 6 → x ∈ SY2) ∧ (6 ≤ k → ∃ a, a ∈ SY1 ∧ x = [a]) := by
  unfold SY at h
  have h6 : SY2.length = 6 := rfl
  refine ⟨fun hk => ?_, fun hk => ?_⟩
  · rw [List.getElem?_append_left (by omega)] at h
    exact List.mem_of_getElem? h
  · rw [List.getElem?_append_right (by omega)] at h
    obtain ⟨a, ha, rfl⟩ := List.mem_map.1 (List.mem_of_getElem? h)
    exact ⟨a, ha, rfl⟩

set_option maxRecDepth 100000 in
set_option maxHeartbeats 1000000 in
theorem symlen_any (s : ByteArray) (w : World) (hs : s.size ≤ 100000) (hT : LexT w) :
    Calls Tryd.prog 129 #[.string s] w fun e w' => e = .returned (.int .i64 (syLen (sb s) : Int)) ∧ w' = w := by
  obtain ⟨a, cap, Sx, hv, hc, hx⟩ := hT.sy
  have HC := Lib.hid hc
  have HX := Lib.hid hx
  clear hc hx hT
  have hl : SY.length = 24 := rfl
  rw [hl] at hv
  obtain ⟨R, hR⟩ : ∃ R, syLen (sb s) = R := ⟨_, rfl⟩
  rw [hR]
  have HR := Lib.hid hR
  clear hR
  have hin : Hid (∀ x ∈ SY, ∃ i, i < 24 ∧ sb (Sx i) = x) := Lib.hid fun x hm => by
    obtain ⟨i, hi, he⟩ := List.getElem_of_mem hm
    have h1 := HX.out i hi
    rw [List.getElem?_eq_getElem hi, he] at h1
    exact ⟨i, by omega, (Option.some.inj h1).symm⟩
  go_enter Tryd.func129, Tryd.ntmps129
  go_wp2
  go_loop [7] (fun vi => ∃ k : Nat, k ≤ 24 ∧ vi = .int .i64 (k : Int) ∧ Hid (∀ i, i < k → ¬ sb (Sx i) <+: sb s)) (fun vi => 24 - (RowKit.intOf vi).toNat)
  case atStart => exact ⟨0, Nat.zero_le _, rfl, Lib.hid fun i hi => absurd hi (by omega)⟩
  case round =>
    obtain ⟨k, hk, rfl, hh⟩ := hrel
    by_cases k0 : k = 24
    · subst k0
      have HE : Hid (R = 0) := Lib.hid (by
        rw [← HR.out]
        apply sy_none
        intro x hm
        obtain ⟨i, hi, rfl⟩ := hin.out x hm
        exact hh.out i hi)
      go_wp2
      go_ret
      rw [HE.out]
      exact ⟨rfl, rfl⟩
    · have hlt : k < 24 := by omega
      have hltz : (k : Int) < 24 := by omega
      have hck := HC.out k (by omega)
      obtain ⟨x, hxk⟩ : ∃ x, Sx k = x := ⟨_, rfl⟩
      have hxx := HX.out k (by omega)
      have hat := sy_at hxx
      rw [hxk] at hck hxx hat
      have hlx : x.size ≤ 2 := by
        rw [← sb_len]
        rcases Nat.lt_or_ge k 6 with h | h
        · rw [sy2_len (hat.1 h)]
          exact Nat.le_refl _
        · obtain ⟨c, _, hc⟩ := hat.2 h
          rw [hc]
          exact (by decide : (1 : Nat) ≤ 2)
      have kc := fun W => hasprefix_any s x W hs (by omega)
      by_cases hp : sb x <+: sb s
      · rw [decide_eq_true hp] at kc
        have KC := Lib.hid kc
        have HE : Hid (R = x.size) := Lib.hid (by
          rw [← HR.out, ← sb_len]
          rcases Nat.lt_or_ge k 6 with h | h
          · rw [sy_two (hat.1 h) hp, sy2_len (hat.1 h)]
          · obtain ⟨c, hm, hc⟩ := hat.2 h
            rw [hc] at hp ⊢
            refine sy_one hm hp fun y hy hyp => ?_
            obtain ⟨i, hi, rfl⟩ := hin.out y (List.mem_append_left _ hy)
            have h6 : i < 6 ∨ 6 ≤ i := by omega
            rcases h6 with h6 | h6
            · exact hh.out i (by omega) hyp
            · have h7 := (sy_at (HX.out i (by omega))).2 h6
              obtain ⟨d, _, hd⟩ := h7
              have h8 := sy2_len hy
              rw [hd] at h8
              simp at h8)
        clear hxx hxk kc hp hat
        go_wp2_with (go_at_call 144; refine (KC.out _).mono ?_; rintro e w' ⟨rfl, rfl⟩)
        go_ret
        rw [HE.out]
        exact ⟨rfl, rfl⟩
      · rw [decide_eq_false hp] at kc
        have KC := Lib.hid kc
        have HN : Hid (∀ i, i < k + 1 → ¬ sb (Sx i) <+: sb s) := Lib.hid fun i hi => by
          by_cases e : i = k
          · subst e; rw [hxk]; exact hp
          · exact hh.out i (by omega)
        clear hxx hxk kc hp hat
        go_wp2_with (go_at_call 144; refine (KC.out _).mono ?_; rintro e w' ⟨rfl, rfl⟩)
        refine ⟨⟨k + 1, by omega, by congr 1, HN⟩, ?_⟩
        simp only [RowKit.intOf, Int.toNat_natCast]
        omega

end Go.Proofs.YtgfhhpodcnohpaaDoor
