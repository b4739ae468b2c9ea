/- Tokens: the reference's class, line, has, Keywords, Symbols and Keyword. Conditions: texts of at most 100000 bytes. -/
import Derived.Test.YtgfhhpodcnohpaaDoorLMb
import Derived.Test.YtgfhhpodcnohpaaDoorLKw
import Derived.Test.YtgfhhpodcnohpaaDoorOnly
namespace Go.Proofs.YtgfhhpodcnohpaaDoor
open Go.RowKit Go.Shelf
set_option linter.unusedVariables false

/-- The reference's class of a byte. -/
def cls (c : Int) : Int := if isSp c then 0 else if isLo c then 1 else if isUp c then 2 else if isDi c then 3 else if c = 95 then 4 else 5
set_option maxRecDepth 100000 in
set_option maxHeartbeats 2000000 in
theorem class_any (c : Int) (w : World) : Calls Tryd.prog 103 #[.int .u8 c] w fun e w' => e = .returned (.int .i64 (cls c)) ∧ w' = w := by
  by_cases h0 : c = 9
  · subst h0
    go_enter Tryd.func103, Tryd.ntmps103
    go_wp2
    go_ret
    exact ⟨rfl, rfl⟩
  · have g0 : (c == 9) = false := beq_eq_false_iff_ne.2 h0
    by_cases h1 : c = 10
    · subst h1
      go_enter Tryd.func103, Tryd.ntmps103
      go_wp2
      go_ret
      exact ⟨rfl, rfl⟩
    · have g1 : (c == 10) = false := beq_eq_false_iff_ne.2 h1
      by_cases h2 : c = 13
      · subst h2
        go_enter Tryd.func103, Tryd.ntmps103
        go_wp2
        go_ret
        exact ⟨rfl, rfl⟩
      · have g2 : (c == 13) = false := beq_eq_false_iff_ne.2 h2
        by_cases h3 : c = 32
        · subst h3
          go_enter Tryd.func103, Tryd.ntmps103
          go_wp2
          go_ret
          exact ⟨rfl, rfl⟩
        · have g3 : (c == 32) = false := beq_eq_false_iff_ne.2 h3
          have hsp : isSp c = false := by unfold isSp; rw [g0, g1, g2, g3]; rfl
          clear h0 h1 h2 h3
          by_cases q0 : c < 48
          · have p97 : ¬ (97 : Int) ≤ c := by omega
            have p122 : c ≤ 122 := by omega
            have p65 : ¬ (65 : Int) ≤ c := by omega
            have p90 : c ≤ 90 := by omega
            have p48 : ¬ (48 : Int) ≤ c := by omega
            have p57 : c ≤ 57 := by omega
            have p95 : (c == 95) = false := beq_eq_false_iff_ne.2 (by omega)
            have e : cls c = 5 := by
              have a1 : isLo c = false := by unfold isLo; simp; omega
              have a2 : isUp c = false := by unfold isUp; simp; omega
              have a3 : isDi c = false := by unfold isDi; simp; omega
              unfold cls; rw [hsp, a1, a2, a3]; simp; omega
            rw [e]
            clear e hsp q0
            go_enter Tryd.func103, Tryd.ntmps103
            go_wp2
            go_ret
            exact ⟨rfl, rfl⟩
          · have _r : True := trivial
            by_cases q1 : c ≤ 57
            · have p97 : ¬ (97 : Int) ≤ c := by omega
              have p122 : c ≤ 122 := by omega
              have p65 : ¬ (65 : Int) ≤ c := by omega
              have p90 : c ≤ 90 := by omega
              have p48 : (48 : Int) ≤ c := by omega
              have p57 : c ≤ 57 := by omega
              have p95 : (c == 95) = false := beq_eq_false_iff_ne.2 (by omega)
              have e : cls c = 3 := by
                have a1 : isLo c = false := by unfold isLo; simp; omega
                have a2 : isUp c = false := by unfold isUp; simp; omega
                have a3 : isDi c = true := by unfold isDi; simp; omega
                unfold cls; rw [hsp, a1, a2, a3]; simp
              rw [e]
              clear e hsp q0 q1
              go_enter Tryd.func103, Tryd.ntmps103
              go_wp2
              go_ret
              exact ⟨rfl, rfl⟩
            · have _r : True := trivial
              by_cases q2 : c < 65
              · have p97 : ¬ (97 : Int) ≤ c := by omega
                have p122 : c ≤ 122 := by omega
                have p65 : ¬ (65 : Int) ≤ c := by omega
                have p90 : c ≤ 90 := by omega
                have p48 : (48 : Int) ≤ c := by omega
                have p57 : ¬ c ≤ 57 := by omega
                have p95 : (c == 95) = false := beq_eq_false_iff_ne.2 (by omega)
                have e : cls c = 5 := by
                  have a1 : isLo c = false := by unfold isLo; simp; omega
                  have a2 : isUp c = false := by unfold isUp; simp; omega
                  have a3 : isDi c = false := by unfold isDi; simp; omega
                  unfold cls; rw [hsp, a1, a2, a3]; simp; omega
                rw [e]
                clear e hsp q0 q1 q2
                go_enter Tryd.func103, Tryd.ntmps103
                go_wp2
                go_ret
                exact ⟨rfl, rfl⟩
              · have _r : True := trivial
                by_cases q3 : c ≤ 90
                · have p97 : ¬ (97 : Int) ≤ c := by omega
                  have p122 : c ≤ 122 := by omega
                  have p65 : (65 : Int) ≤ c := by omega
                  have p90 : c ≤ 90 := by omega
                  have p48 : (48 : Int) ≤ c := by omega
                  have p57 : ¬ c ≤ 57 := by omega
                  have p95 : (c == 95) = false := beq_eq_false_iff_ne.2 (by omega)
                  have e : cls c = 2 := by
                    have a1 : isLo c = false := by unfold isLo; simp; omega
                    have a2 : isUp c = true := by unfold isUp; simp; omega
                    have a3 : isDi c = false := by unfold isDi; simp; omega
                    unfold cls; rw [hsp, a1, a2, a3]; simp
                  rw [e]
                  clear e hsp q0 q1 q2 q3
                  go_enter Tryd.func103, Tryd.ntmps103
                  go_wp2
                  go_ret
                  exact ⟨rfl, rfl⟩
                · have _r : True := trivial
                  by_cases q4 : c < 95
                  · have p97 : ¬ (97 : Int) ≤ c := by omega
                    have p122 : c ≤ 122 := by omega
                    have p65 : (65 : Int) ≤ c := by omega
                    have p90 : ¬ c ≤ 90 := by omega
                    have p48 : (48 : Int) ≤ c := by omega
                    have p57 : ¬ c ≤ 57 := by omega
                    have p95 : (c == 95) = false := beq_eq_false_iff_ne.2 (by omega)
                    have e : cls c = 5 := by
                      have a1 : isLo c = false := by unfold isLo; simp; omega
                      have a2 : isUp c = false := by unfold isUp; simp; omega
                      have a3 : isDi c = false := by unfold isDi; simp; omega
                      unfold cls; rw [hsp, a1, a2, a3]; simp; omega
                    rw [e]
                    clear e hsp q0 q1 q2 q3 q4
                    go_enter Tryd.func103, Tryd.ntmps103
                    go_wp2
                    go_ret
                    exact ⟨rfl, rfl⟩
                  · have _r : True := trivial
                    by_cases q5 : c ≤ 95
                    · have p97 : ¬ (97 : Int) ≤ c := by omega
                      have p122 : c ≤ 122 := by omega
                      have p65 : (65 : Int) ≤ c := by omega
                      have p90 : ¬ c ≤ 90 := by omega
                      have p48 : (48 : Int) ≤ c := by omega
                      have p57 : ¬ c ≤ 57 := by omega
                      have p95 : (c == 95) = true := beq_iff_eq.2 (by omega)
                      have e : cls c = 4 := by
                        have a1 : isLo c = false := by unfold isLo; simp; omega
                        have a2 : isUp c = false := by unfold isUp; simp; omega
                        have a3 : isDi c = false := by unfold isDi; simp; omega
                        unfold cls; rw [hsp, a1, a2, a3]; simp; omega
                      rw [e]
                      clear e hsp q0 q1 q2 q3 q4 q5
                      go_enter Tryd.func103, Tryd.ntmps103
                      go_wp2
                      go_ret
                      exact ⟨rfl, rfl⟩
                    · have _r : True := trivial
                      by_cases q6 : c < 97
                      · have p97 : ¬ (97 : Int) ≤ c := by omega
                        have p122 : c ≤ 122 := by omega
                        have p65 : (65 : Int) ≤ c := by omega
                        have p90 : ¬ c ≤ 90 := by omega
                        have p48 : (48 : Int) ≤ c := by omega
                        have p57 : ¬ c ≤ 57 := by omega
                        have p95 : (c == 95) = false := beq_eq_false_iff_ne.2 (by omega)
                        have e : cls c = 5 := by
                          have a1 : isLo c = false := by unfold isLo; simp; omega
                          have a2 : isUp c = false := by unfold isUp; simp; omega
                          have a3 : isDi c = false := by unfold isDi; simp; omega
                          unfold cls; rw [hsp, a1, a2, a3]; simp; omega
                        rw [e]
                        clear e hsp q0 q1 q2 q3 q4 q5 q6
                        go_enter Tryd.func103, Tryd.ntmps103
                        go_wp2
                        go_ret
                        exact ⟨rfl, rfl⟩
                      · have _r : True := trivial
                        by_cases q7 : c ≤ 122
                        · have p97 : (97 : Int) ≤ c := by omega
                          have p122 : c ≤ 122 := by omega
                          have p65 : (65 : Int) ≤ c := by omega
                          have p90 : ¬ c ≤ 90 := by omega
                          have p48 : (48 : Int) ≤ c := by omega
                          have p57 : ¬ c ≤ 57 := by omega
                          have p95 : (c == 95) = false := beq_eq_false_iff_ne.2 (by omega)
                          have e : cls c = 1 := by
                            have a1 : isLo c = true := by unfold isLo; simp; omega
                            have a2 : isUp c = false := by unfold isUp; simp; omega
                            have a3 : isDi c = false := by unfold isDi; simp; omega
                            unfold cls; rw [hsp, a1, a2, a3]; simp
                          rw [e]
                          clear e hsp q0 q1 q2 q3 q4 q5 q6 q7
                          go_enter Tryd.func103, Tryd.ntmps103
                          go_wp2
                          go_ret
                          exact ⟨rfl, rfl⟩
                        · have _r : True := trivial
                          have p97 : (97 : Int) ≤ c := by omega
                          have p122 : ¬ c ≤ 122 := by omega
                          have p65 : (65 : Int) ≤ c := by omega
                          have p90 : ¬ c ≤ 90 := by omega
                          have p48 : (48 : Int) ≤ c := by omega
                          have p57 : ¬ c ≤ 57 := by omega
                          have p95 : (c == 95) = false := beq_eq_false_iff_ne.2 (by omega)
                          have e : cls c = 5 := by
                            have a1 : isLo c = false := by unfold isLo; simp; omega
                            have a2 : isUp c = false := by unfold isUp; simp; omega
                            have a3 : isDi c = false := by unfold isDi; simp; omega
                            unfold cls; rw [hsp, a1, a2, a3]; simp; omega
                          rw [e]
                          clear e hsp q0 q1 q2 q3 q4 q5 q6 q7
                          go_enter Tryd.func103, Tryd.ntmps103
                          go_wp2
                          go_ret
                          exact ⟨rfl, rfl⟩

theorem run_from (p : Int → Bool) (l : List Int) (a k : Nat) (hak : a ≤ k) (h1 : ∀ i, a ≤ i → i < k → ∃ c, l[i]? = some c ∧ p c = true) (h2 : k = l.length ∨ ∃ c, l[k]? = some c ∧ p c = false) : run p (l.drop a) = k - a := by
  refine run_is p (l.drop a) (k - a) (fun i hi => ?_) ?_
  · rw [List.getElem?_drop]
    exact h1 (a + i) (by omega) (by omega)
  · rcases h2 with h2 | ⟨c, h2, h3⟩
    · exact .inl (by rw [List.length_drop]; omega)
    · exact .inr ⟨c, by rw [List.getElem?_drop, show a + (k - a) = k by omega]; exact h2, h3⟩
set_option maxRecDepth 100000 in
set_option maxHeartbeats 1000000 in
theorem rline_any (s : ByteArray) (a : Nat) (ha : a ≤ s.size) (hs : s.size ≤ 100000) (w : World) :
    Calls Tryd.prog 78 #[.string s, .int .i64 (a : Int)] w fun e w' => e = .returned (.int .i64 ((a + run noNl ((sb s).drop a) : Nat) : Int)) ∧ w' = w := by
  obtain ⟨R, hR⟩ : ∃ R, a + run noNl ((sb s).drop a) = R := ⟨_, rfl⟩
  rw [hR]
  have HR : Hid (∀ k : Nat, a ≤ k → (∀ i, a ≤ i → i < k → ∃ c, (sb s)[i]? = some c ∧ noNl c = true) → (k = s.size ∨ ∃ c, (sb s)[k]? = some c ∧ noNl c = false) → R = k) := Lib.hid fun k h0 h1 h2 => by
    rw [← hR, run_from noNl (sb s) a k h0 h1 (by rw [sb_len]; exact h2)]
    omega
  clear hR
  go_enter Tryd.func78, Tryd.ntmps78
  go_wp2
  go_loop [1] (fun vi => ∃ k : Nat, a ≤ k ∧ k ≤ s.size ∧ vi = .int .i64 (k : Int) ∧ Hid (∀ i, a ≤ i → i < k → ∃ c, (sb s)[i]? = some c ∧ noNl c = true)) (fun vi => s.size - (RowKit.intOf vi).toNat)
  case atStart => exact ⟨a, Nat.le_refl _, ha, rfl, Lib.hid fun i h1 h2 => absurd h2 (by omega)⟩
  case round =>
    obtain ⟨k, hak, hk, rfl, hh⟩ := hrel
    by_cases k0 : k = s.size
    · have HE := Lib.hid (HR.out k hak hh.out (.inl k0))
      have g0 : ¬ (k : Int) < (s.size : Int) := by omega
      clear k0
      go_wp2
      go_ret
      rw [HE.out]
      exact ⟨rfl, rfl⟩
    · have hlt : k < s.size := by omega
      have hltz : (k : Int) < (s.size : Int) := by omega
      obtain ⟨c, hc⟩ : ∃ c : Int, ((s[k]'hlt).toNat : Int) = c := ⟨_, rfl⟩
      have hget := sbAt s k hlt
      rw [hc] at hget
      by_cases h10 : c = 10
      · have HE := Lib.hid (HR.out k hak hh.out (.inr ⟨c, hget, by unfold noNl; simp [h10]⟩))
        have hb : (c != 10) = false := by simp [h10]
        clear h10 hget
        go_wp2
        go_ret
        rw [HE.out]
        exact ⟨rfl, rfl⟩
      · have hb : (c != 10) = true := by simp [h10]
        have HN : Hid (∀ i, a ≤ i → i < k + 1 → ∃ c, (sb s)[i]? = some c ∧ noNl c = true) := Lib.hid fun i h1 h2 => by
          by_cases e : i = k
          · subst e; exact ⟨c, hget, by unfold noNl; exact hb⟩
          · exact hh.out i h1 (by omega)
        clear h10 hget
        go_wp2
        refine ⟨⟨k + 1, by omega, by omega, by congr 1, HN⟩, ?_⟩
        simp only [RowKit.intOf, Int.toNat_natCast]
        omega

/-- Texts lie in memory behind an address. -/
def Strs (w : World) (a : Addr) (L : List (List Int)) : Prop := ∀ i, i < L.length → ∃ x, w.cell? (a.add i) = some (.string x) ∧ L[i]? = some (sb x)
theorem strs_new (w : World) (t : TypeId) (B : List ByteArray) : Strs (w.alloc (.cells (B.map Value.string).toArray t)) ⟨w.heap.size, 0, none⟩ (B.map sb) := by
  intro i hi
  rw [List.length_map] at hi
  refine ⟨B[i], ?_, by simp [hi]⟩
  have hb := Blk.new w t (B.map Value.string).toArray
  rw [show (⟨w.heap.size, 0, none⟩ : Addr).add i = ⟨w.heap.size, i, none⟩ by by_cases h0 : i = 0 <;> simp [Addr.add, h0], hb.cell]
  simp [hi]
theorem Strs.below {w w' : World} {a : Addr} {L : List (List Int)} (h : Strs w a L) (hb : Below w.heap.size w w') : Strs w' a L := fun i hi => by
  obtain ⟨x, h1, h2⟩ := h i hi
  exact ⟨x, (hb.cell (World.block_lt_of_cell? w _ h1)).trans h1, h2⟩
set_option maxRecDepth 100000 in
set_option maxHeartbeats 1000000 in
theorem rhas_any (L : List (List Int)) (a : Addr) (n : Nat) (hn : L.length = n) (hz : n ≤ 1000) (s : ByteArray) (w : World) (hS : Strs w a L) :
    Calls Tryd.prog 44 #[.slice (some a) n n, .string s] w fun e w' => e = .returned (.bool (decide (sb s ∈ L))) ∧ w' = w := by
  obtain ⟨R, hR⟩ : ∃ R, decide (sb s ∈ L) = R := ⟨_, rfl⟩
  rw [hR]
  have HR := Lib.hid hR
  have HS := Lib.hid hS
  have HN := Lib.hid hn
  clear hR hS hn
  go_enter Tryd.func44, Tryd.ntmps44
  go_wp2
  go_loop [5] (fun vi => ∃ k : Nat, k ≤ n ∧ vi = .int .i64 (k : Int) ∧ Hid (∀ i, i < k → L[i]? ≠ some (sb s))) (fun vi => n - (RowKit.intOf vi).toNat)
  case atStart => exact ⟨0, Nat.zero_le _, rfl, Lib.hid fun i hi => absurd hi (by omega)⟩
  case round =>
    obtain ⟨k, hk, rfl, hh⟩ := hrel
    by_cases k0 : k = n
    · have HE : Hid (R = false) := Lib.hid (by
        rw [← HR.out, decide_eq_false_iff_not]
        intro hm
        obtain ⟨i, hi, he⟩ := List.getElem_of_mem hm
        have := HN.out
        exact hh.out i (by omega) (by rw [List.getElem?_eq_getElem hi, he]))
      have g0 : ¬ (k : Int) < (n : Int) := by omega
      clear k0
      go_wp2
      go_ret
      rw [HE.out]
      exact ⟨rfl, rfl⟩
    · have hlt : k < n := by omega
      have hltz : (k : Int) < (n : Int) := by omega
      obtain ⟨x, hck, hxx⟩ := HS.out k (by rw [HN.out]; exact hlt)
      by_cases hs : x = s
      · have HE : Hid (R = true) := Lib.hid (by
          rw [← HR.out, decide_eq_true_eq, ← hs]
          exact List.mem_of_getElem? hxx)
        have hq : (x.toList == s.toList) = true := by rw [hs]; exact beq_self_eq_true _
        clear hxx hs
        go_wp2
        go_ret
        rw [HE.out]
        exact ⟨rfl, rfl⟩
      · have hq : (x.toList == s.toList) = false := toList_ne hs
        have HN2 : Hid (∀ i, i < k + 1 → L[i]? ≠ some (sb s)) := Lib.hid fun i hi => by
          by_cases e : i = k
          · subst e
            rw [hxx]
            intro e2
            exact hs (sbInj (Option.some.inj e2))
          · exact hh.out i (by omega)
        clear hxx hs
        go_wp2
        refine ⟨⟨k + 1, by omega, by congr 1, HN2⟩, ?_⟩
        simp only [RowKit.intOf, Int.toNat_natCast]
        omega
def KWb : List ByteArray := [⟨#[116, 121, 112, 101]⟩, ⟨#[116, 97, 98, 108, 101]⟩, ⟨#[107, 101, 121]⟩, ⟨#[114, 101, 102]⟩, ⟨#[116, 111]⟩, ⟨#[99, 104, 101, 99, 107]⟩, ⟨#[102, 117, 110]⟩, ⟨#[112, 114, 111, 99]⟩, ⟨#[108, 101, 116]⟩, ⟨#[105, 110]⟩, ⟨#[105, 102]⟩, ⟨#[116, 104, 101, 110]⟩, ⟨#[101, 108, 115, 101]⟩, ⟨#[109, 97, 116, 99, 104]⟩, ⟨#[105, 110, 115, 101, 114, 116]⟩, ⟨#[100, 101, 108, 101, 116, 101]⟩, ⟨#[97, 115]⟩, ⟨#[119, 104, 101, 114, 101]⟩, ⟨#[117, 112, 100, 97, 116, 101]⟩, ⟨#[115, 101, 116]⟩, ⟨#[119, 105, 116, 104]⟩, ⟨#[97, 110, 100]⟩, ⟨#[111, 114]⟩, ⟨#[110, 111, 116]⟩, ⟨#[116, 114, 117, 101]⟩, ⟨#[102, 97, 108, 115, 101]⟩]
def SYb : List ByteArray := [⟨#[61, 61]⟩, ⟨#[33, 61]⟩, ⟨#[60, 61]⟩, ⟨#[60, 45]⟩, ⟨#[45, 62]⟩, ⟨#[43, 43]⟩, ⟨#[60]⟩, ⟨#[62]⟩, ⟨#[61]⟩, ⟨#[43]⟩, ⟨#[45]⟩, ⟨#[42]⟩, ⟨#[40]⟩, ⟨#[41]⟩, ⟨#[123]⟩, ⟨#[125]⟩, ⟨#[91]⟩, ⟨#[93]⟩, ⟨#[44]⟩, ⟨#[46]⟩, ⟨#[58]⟩, ⟨#[124]⟩, ⟨#[59]⟩, ⟨#[63]⟩]
theorem kwb : KWb.map sb = KW := by decide
theorem syb : SYb.map sb = SY := by decide
set_option maxRecDepth 100000 in
theorem rkeywords_any (w : World) : Calls Tryd.prog 45 #[] w fun e w' => ∃ g, e = .returned (.slice (some ⟨g, 0, none⟩) 26 26) ∧ Strs w' ⟨g, 0, none⟩ KW ∧ Below w.heap.size w w' := by
  go_enter Tryd.func45, Tryd.ntmps45
  go_wp2
  go_ret
  exact ⟨_, rfl, by rw [← kwb]; exact strs_new w _ KWb, (Below.refl _ _).alloc (Nat.le_refl _) _⟩
set_option maxRecDepth 100000 in
theorem rsymbols_any (w : World) : Calls Tryd.prog 84 #[] w fun e w' => ∃ g, e = .returned (.slice (some ⟨g, 0, none⟩) 24 24) ∧ Strs w' ⟨g, 0, none⟩ SY ∧ Below w.heap.size w w' := by
  go_enter Tryd.func84, Tryd.ntmps84
  go_wp2
  go_ret
  exact ⟨_, rfl, by rw [← syb]; exact strs_new w _ SYb, (Below.refl _ _).alloc (Nat.le_refl _) _⟩
set_option maxRecDepth 100000 in
theorem rkeyword_any (s : ByteArray) (w : World) : Calls Tryd.prog 19 #[.string s] w fun e w' => e = .returned (.bool (decide (sb s ∈ KW))) ∧ Below w.heap.size w w' := by
  go_enter Tryd.func19, Tryd.ntmps19
  go_wp2_with fail
  refine (rkeywords_any _).mono ?_
  rintro e w1 ⟨g, rfl, hS, hb⟩
  have C := Lib.hid (rhas_any KW ⟨g, 0, none⟩ 26 rfl (by omega) s w1 hS)
  have HB := Lib.hid hb
  clear hS hb
  go_wp2_with fail
  refine C.out.mono ?_
  rintro e w2 ⟨rfl, rfl⟩
  go_wp2
  go_ret
  exact ⟨rfl, HB.out⟩

end Go.Proofs.YtgfhhpodcnohpaaDoor
