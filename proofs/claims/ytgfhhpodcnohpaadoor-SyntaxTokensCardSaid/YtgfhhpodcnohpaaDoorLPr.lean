/- Tokens: the program's proper: the token ahead but for Bad. Conditions: texts of at most 100000 bytes that are not empty; the tables lie in memory. -/
import Derived.Test.YtgfhhpodcnohpaaDoorLIa
import Derived.Test.YtgfhhpodcnohpaaDoorLSy
import Derived.Test.YtgfhhpodcnohpaaDoorLMb
namespace Go.Proofs.YtgfhhpodcnohpaaDoor
open Go.RowKit Go.Shelf Go.Lib
set_option linter.unusedVariables false

theorem head_at (s : ByteArray) (h : 0 < s.size) : (sb s).head? = some ((s[0]'h).toNat : Int) := by
  rw [List.head?_eq_getElem?]
  exact sbAt s 0 h
/-- What proper hands back. -/
def PropP (s : ByteArray) (w : World) (e : Ending) (w' : World) : Prop :=
  e = .returned (.tuple #[.int .i64 (prop (sb s)).1, .int .i64 ((prop (sb s)).2 : Int)]) ∧ Below w.heap.size w w'
set_option maxRecDepth 100000 in
set_option maxHeartbeats 4000000 in
theorem proper_any (s : ByteArray) (hs : s.size ≤ 100000) (h0 : 0 < s.size) (w : World) (hT : LexT w) :
    Calls Tryd.prog 101 #[.string s] w (PropP s w) := by
  have hP := prop_hd (head_at s h0)
  have hp0 : (0 : Nat) < s.size := h0
  obtain ⟨c, hc⟩ : ∃ c : Int, ((s[0]'h0).toNat : Int) = c := ⟨_, rfl⟩
  rw [hc] at hP
  unfold PropP
  have HT := Lib.hid hT
  clear hT
  by_cases b0 : isSp c = true
  · rw [if_pos b0] at hP
    rw [hP]
    have c0 := fun W => count_any _ _ tells_sp s (by omega) W
    have C0 := Lib.hid c0
    clear c0 hP
    have k0 := fun W => isspace_any c W
    rw [b0] at k0
    have K0 := Lib.hid k0
    clear k0 b0
    go_enter Tryd.func101, Tryd.ntmps101
    go_wp2_with (first
      | (go_at_call 120; refine (K0.out _).mono ?_; rintro e w' ⟨rfl, hw⟩; rw [hw])
      | (go_at_call 121; refine (C0.out _).mono ?_; rintro e w' ⟨rfl, hw⟩; rw [hw]))
    go_ret2
    exact ⟨rfl, Below.refl _ _⟩
  · rw [if_neg b0] at hP
    have b0 : isSp c = false := by simpa using b0
    by_cases q35 : c = 35
    · rw [if_pos q35] at hP
      rw [hP]
      have Q35 : (c == 35) = true := beq_iff_eq.2 q35
      have c0 := fun W => line_any s W hs
      have C0 := Lib.hid c0
      clear c0 hP q35
      have k0 := fun W => isspace_any c W
      rw [b0] at k0
      have K0 := Lib.hid k0
      clear k0 b0
      go_enter Tryd.func101, Tryd.ntmps101
      go_wp2_with (first
        | (go_at_call 120; refine (K0.out _).mono ?_; rintro e w' ⟨rfl, hw⟩; rw [hw])
        | (go_at_call 122; refine (C0.out _).mono ?_; rintro e w' ⟨rfl, hb⟩; have HB := Lib.hid hb; clear hb))
      go_ret2
      exact ⟨rfl, HB.out⟩
    · rw [if_neg q35] at hP
      have Q35 : (c == 35) = false := beq_eq_false_iff_ne.2 q35
      clear q35
      by_cases b1 : isLo c = true
      · rw [if_pos b1] at hP
        obtain ⟨n, hn⟩ : ∃ n, run coLo (sb s) = n := ⟨_, rfl⟩
        have hle := run_le coLo (sb s)
        rw [sb_len] at hle
        rw [hn] at hP hle
        have c0 := fun W => count_any _ _ tells_cl s (by omega) W
        rw [hn] at c0
        have C0 := Lib.hid c0
        obtain ⟨u, hu⟩ : ∃ u, s.extract 0 n = u := ⟨_, rfl⟩
        have hus : sb u = (sb s).take n := by rw [← hu, sbExt, List.drop_zero]
        have d0 := fun W (h : LexT W) => iskeyword_any u W h
        rw [hus] at d0
        have g1 : (n : Int) ≤ (s.size : Int) := by omega
        clear c0 hn hus
        have k0 := fun W => isspace_any c W
        rw [b0] at k0
        have K0 := Lib.hid k0
        clear k0 b0
        have k1 := fun W => issmall_any c W
        rw [b1] at k1
        have K1 := Lib.hid k1
        clear k1 b1
        by_cases hk : (sb s).take n ∈ KW
        · rw [if_pos hk] at hP
          rw [decide_eq_true hk] at d0
          rw [hP]
          have D0 := Lib.hid d0
          clear d0 hP hk
          go_enter Tryd.func101, Tryd.ntmps101
          go_wp2_with (first
            | (go_at_call 120; refine (K0.out _).mono ?_; rintro e w' ⟨rfl, hw⟩; rw [hw])
            | (go_at_call 123; refine (K1.out _).mono ?_; rintro e w' ⟨rfl, hw⟩; rw [hw])
            | (go_at_call 121; refine (C0.out _).mono ?_; rintro e w' ⟨rfl, hw⟩; rw [hw])
            | (go_at_call 18; refine (D0.out _ (by first | exact HT.out | simpa using HT.out)).mono ?_; rintro e w' ⟨rfl, hw⟩; rw [hw]))
          go_ret2
          exact ⟨rfl, Below.refl _ _⟩
        · rw [if_neg hk] at hP
          rw [decide_eq_false hk] at d0
          rw [hP]
          have D0 := Lib.hid d0
          clear d0 hP hk
          go_enter Tryd.func101, Tryd.ntmps101
          go_wp2_with (first
            | (go_at_call 120; refine (K0.out _).mono ?_; rintro e w' ⟨rfl, hw⟩; rw [hw])
            | (go_at_call 123; refine (K1.out _).mono ?_; rintro e w' ⟨rfl, hw⟩; rw [hw])
            | (go_at_call 121; refine (C0.out _).mono ?_; rintro e w' ⟨rfl, hw⟩; rw [hw])
            | (go_at_call 18; refine (D0.out _ (by first | exact HT.out | simpa using HT.out)).mono ?_; rintro e w' ⟨rfl, hw⟩; rw [hw]))
          go_ret2
          exact ⟨rfl, Below.refl _ _⟩
      · rw [if_neg b1] at hP
        have b1 : isLo c = false := by simpa using b1
        by_cases b2 : isUp c = true
        · rw [if_pos b2] at hP
          rw [hP]
          have c0 := fun W => count_any _ _ tells_cu s (by omega) W
          have C0 := Lib.hid c0
          clear c0 hP
          have k0 := fun W => isspace_any c W
          rw [b0] at k0
          have K0 := Lib.hid k0
          clear k0 b0
          have k1 := fun W => issmall_any c W
          rw [b1] at k1
          have K1 := Lib.hid k1
          clear k1 b1
          have k2 := fun W => iscapital_any c W
          rw [b2] at k2
          have K2 := Lib.hid k2
          clear k2 b2
          go_enter Tryd.func101, Tryd.ntmps101
          go_wp2_with (first
            | (go_at_call 120; refine (K0.out _).mono ?_; rintro e w' ⟨rfl, hw⟩; rw [hw])
            | (go_at_call 123; refine (K1.out _).mono ?_; rintro e w' ⟨rfl, hw⟩; rw [hw])
            | (go_at_call 125; refine (K2.out _).mono ?_; rintro e w' ⟨rfl, hw⟩; rw [hw])
            | (go_at_call 121; refine (C0.out _).mono ?_; rintro e w' ⟨rfl, hw⟩; rw [hw]))
          go_ret2
          exact ⟨rfl, Below.refl _ _⟩
        · rw [if_neg b2] at hP
          have b2 : isUp c = false := by simpa using b2
          by_cases b3 : isDi c = true
          · rw [if_pos b3] at hP
            rw [hP]
            have c0 := fun W => count_any _ _ tells_di s (by omega) W
            have C0 := Lib.hid c0
            clear c0 hP
            have k0 := fun W => isspace_any c W
            rw [b0] at k0
            have K0 := Lib.hid k0
            clear k0 b0
            have k1 := fun W => issmall_any c W
            rw [b1] at k1
            have K1 := Lib.hid k1
            clear k1 b1
            have k2 := fun W => iscapital_any c W
            rw [b2] at k2
            have K2 := Lib.hid k2
            clear k2 b2
            have k3 := fun W => isdigit_any c W
            rw [b3] at k3
            have K3 := Lib.hid k3
            clear k3 b3
            go_enter Tryd.func101, Tryd.ntmps101
            go_wp2_with (first
              | (go_at_call 120; refine (K0.out _).mono ?_; rintro e w' ⟨rfl, hw⟩; rw [hw])
              | (go_at_call 123; refine (K1.out _).mono ?_; rintro e w' ⟨rfl, hw⟩; rw [hw])
              | (go_at_call 125; refine (K2.out _).mono ?_; rintro e w' ⟨rfl, hw⟩; rw [hw])
              | (go_at_call 127; refine (K3.out _).mono ?_; rintro e w' ⟨rfl, hw⟩; rw [hw])
              | (go_at_call 121; refine (C0.out _).mono ?_; rintro e w' ⟨rfl, hw⟩; rw [hw]))
            go_ret2
            exact ⟨rfl, Below.refl _ _⟩
          · rw [if_neg b3] at hP
            have b3 : isDi c = false := by simpa using b3
            by_cases q34 : c = 34
            · rw [if_pos q34] at hP
              rw [hP]
              have Q34 : (c == 34) = true := beq_iff_eq.2 q34
              have c0 := fun W => strlen_any s hs h0 W
              have C0 := Lib.hid c0
              clear c0 hP q34
              have k0 := fun W => isspace_any c W
              rw [b0] at k0
              have K0 := Lib.hid k0
              clear k0 b0
              have k1 := fun W => issmall_any c W
              rw [b1] at k1
              have K1 := Lib.hid k1
              clear k1 b1
              have k2 := fun W => iscapital_any c W
              rw [b2] at k2
              have K2 := Lib.hid k2
              clear k2 b2
              have k3 := fun W => isdigit_any c W
              rw [b3] at k3
              have K3 := Lib.hid k3
              clear k3 b3
              go_enter Tryd.func101, Tryd.ntmps101
              go_wp2_with (first
                | (go_at_call 120; refine (K0.out _).mono ?_; rintro e w' ⟨rfl, hw⟩; rw [hw])
                | (go_at_call 123; refine (K1.out _).mono ?_; rintro e w' ⟨rfl, hw⟩; rw [hw])
                | (go_at_call 125; refine (K2.out _).mono ?_; rintro e w' ⟨rfl, hw⟩; rw [hw])
                | (go_at_call 127; refine (K3.out _).mono ?_; rintro e w' ⟨rfl, hw⟩; rw [hw])
                | (go_at_call 128; refine (C0.out _).mono ?_; rintro e w' ⟨rfl, hb⟩; have HB := Lib.hid hb; clear hb))
              go_ret2
              exact ⟨rfl, HB.out⟩
            · rw [if_neg q34] at hP
              rw [hP]
              have Q34 : (c == 34) = false := beq_eq_false_iff_ne.2 q34
              have c0 := fun W h => symlen_any s W hs h
              have C0 := Lib.hid c0
              clear c0 hP q34
              have k0 := fun W => isspace_any c W
              rw [b0] at k0
              have K0 := Lib.hid k0
              clear k0 b0
              have k1 := fun W => issmall_any c W
              rw [b1] at k1
              have K1 := Lib.hid k1
              clear k1 b1
              have k2 := fun W => iscapital_any c W
              rw [b2] at k2
              have K2 := Lib.hid k2
              clear k2 b2
              have k3 := fun W => isdigit_any c W
              rw [b3] at k3
              have K3 := Lib.hid k3
              clear k3 b3
              go_enter Tryd.func101, Tryd.ntmps101
              go_wp2_with (first
                | (go_at_call 120; refine (K0.out _).mono ?_; rintro e w' ⟨rfl, hw⟩; rw [hw])
                | (go_at_call 123; refine (K1.out _).mono ?_; rintro e w' ⟨rfl, hw⟩; rw [hw])
                | (go_at_call 125; refine (K2.out _).mono ?_; rintro e w' ⟨rfl, hw⟩; rw [hw])
                | (go_at_call 127; refine (K3.out _).mono ?_; rintro e w' ⟨rfl, hw⟩; rw [hw])
                | (go_at_call 129; refine (C0.out _ (by first | exact HT.out | simpa using HT.out)).mono ?_; rintro e w' ⟨rfl, hw⟩; rw [hw]))
              go_ret2
              exact ⟨rfl, Below.refl _ _⟩

end Go.Proofs.YtgfhhpodcnohpaaDoor
