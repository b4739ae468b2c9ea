/- Tokens: the library's IndexRune in a text of a quote and a line feed. It has no conditions. -/
import Derived.Test.YtgfhhpodcnohpaaDoorLNl
import Derived.Laws.Runes
import Derived.Laws.RangeString
import Derived.Deep.LoopGhost
import Derived.WalkMore
namespace Go.Proofs.YtgfhhpodcnohpaaDoor
open Go.RowKit Go.Shelf
set_option linter.unusedVariables false

set_option maxRecDepth 100000 in
theorem ibyte_any (s : ByteArray) (c : UInt8) (w : World) :
    Calls Tryd.prog 146 #[.string s, .int .u8 (c.toNat : Int)] w fun e w' => e = .returned (.int .i64 (Lib.indexByte s.data.toList c)) ∧ w = w' := by
  go_enter Tryd.func146, Tryd.ntmps146
  go_wp2_with (go_at_call 140; refine (lindex_byte _ _ _).mono ?_; rintro e w' ⟨rfl, rfl⟩)
  go_ret
  exact ⟨rfl, rfl⟩
set_option maxRecDepth 100000 in
set_option maxHeartbeats 1000000 in
theorem irune_small (r : Int) (h0 : 0 ≤ r) (h1 : r < 128) (w : World) :
    Calls Tryd.prog 134 #[.string ⟨#[34, 10]⟩, .int .i32 r] w fun e w' => e = .returned (.int .i64 (if r = 34 then 0 else if r = 10 then 1 else -1)) ∧ w = w' := by
  have hc : (((UInt8.ofNat r.toNat).toNat : Nat) : Int) = r := by
    rw [UInt8.toNat_ofNat_of_lt' (by show _ < 256; omega)]
    omega
  have cI := fun W => ibyte_any ⟨#[34, 10]⟩ (UInt8.ofNat r.toNat) W
  rw [hc] at cI
  have hres : Lib.indexByte (⟨#[34, 10]⟩ : ByteArray).data.toList (UInt8.ofNat r.toNat) = (if r = 34 then 0 else if r = 10 then 1 else -1) := by
    by_cases e1 : r = 34
    · subst e1; rfl
    · by_cases e2 : r = 10
      · subst e2; rfl
      · have n1 : ((34 : UInt8) == UInt8.ofNat r.toNat) = false := beq_eq_false_iff_ne.2 fun e => e1 (by rw [← hc, ← e]; rfl)
        have n2 : ((10 : UInt8) == UInt8.ofNat r.toNat) = false := beq_eq_false_iff_ne.2 fun e => e2 (by rw [← hc, ← e]; rfl)
        rw [if_neg e1, if_neg e2]
        show Lib.indexByte [34, 10] (UInt8.ofNat r.toNat) = -1
        simp [Lib.indexByte, n1, n2]
  rw [hres] at cI
  obtain ⟨z, hz⟩ : ∃ z : Int, (if r = 34 then 0 else if r = 10 then 1 else -1) = z := ⟨_, rfl⟩
  rw [hz] at cI ⊢
  have CI := Lib.hid cI
  have hw : IntKind.u8.wrap r = r := by simp [IntKind.wrap, IntKind.signed, IntKind.bits]; omega
  clear cI hres hz hc
  go_enter Tryd.func134, Tryd.ntmps134
  go_wp2_with (go_at_call 146; refine (CI.out _).mono ?_; rintro e w' ⟨rfl, rfl⟩)
  go_ret
  exact ⟨rfl, rfl⟩
set_option maxRecDepth 100000 in
set_option maxHeartbeats 1000000 in
theorem irune_err (w : World) :
    Calls Tryd.prog 134 #[.string ⟨#[34, 10]⟩, .int .i32 65533] w fun e w' => e = .returned (.int .i64 (-1)) ∧ Below w.heap.size w w' := by
  obtain ⟨s, hs⟩ : ∃ s : ByteArray, (⟨#[34, 10]⟩ : ByteArray) = s := ⟨_, rfl⟩
  have hz : s.size = 2 := by rw [← hs]; rfl
  have ha : ∀ i (h : i < s.size), (s[i]'h).toNat < 128 := by
    subst hs
    intro i h
    have h2 : i < 2 := h
    match i, h2 with
    | 0, _ => exact (by decide : (34 : UInt8).toNat < 128)
    | 1, _ => exact (by decide : (10 : UInt8).toNat < 128)
  have HA := Lib.hid ha
  rw [hs]
  clear hs ha
  go_enter Tryd.func134, Tryd.ntmps134
  go_wp2
  go_loopg [5, 6] 2 (fun g _ _ wx => ∃ i : Nat, i + g = 2 ∧ wx = w.iter s i)
  case atStart => exact ⟨0, by omega, rfl⟩
  case round =>
    obtain ⟨i, hig, rfl⟩ := hrel
    cases gk with
    | zero =>
      have hnx := fun ty => run_next_end (P := Tryd.prog) w s i ty (by omega)
      go_wp2
      go_ret
      exact ⟨rfl, (Below.refl _ _).alloc (Nat.le_refl _) _⟩
    | succ g =>
      have hi : i < s.size := by omega
      have h128 := HA.out i hi
      have hnx := fun ty => run_next_ascii (P := Tryd.prog) w s i ty hi h128
      obtain ⟨x, hx⟩ : ∃ x : Nat, (s[i]'hi).toNat = x := ⟨_, rfl⟩
      rw [hx] at hnx h128
      have hne : ((x : Int) == 65533) = false := beq_eq_false_iff_ne.2 (by omega)
      clear hx
      go_wp2
      go_roundg g
      case measure => omega
      case rel => exact ⟨i + 1, by omega, rfl⟩

theorem validrune_any (r : Int) (h0 : 128 ≤ r) (hv : Utf8.valid r = true) (w : World) :
    Calls Tryd.prog 147 #[.int .i32 r] w fun e w' => e = .returned (.bool true) ∧ w' = w := by
  rw [validRune_eq] at hv
  unfold validRune at hv
  rw [decide_eq_true_eq] at hv
  have g0 : (0 : Int) ≤ r := by omega
  by_cases h1 : r < 55296
  · clear hv
    go_enter Tryd.func147, Tryd.ntmps147
    go_wp2
    go_ret
    exact ⟨rfl, rfl⟩
  · have g1 : (57343 : Int) < r := by omega
    have g2 : r ≤ 1114111 := by omega
    clear hv
    go_enter Tryd.func147, Tryd.ntmps147
    go_wp2
    go_ret
    exact ⟨rfl, rfl⟩
theorem ibyte_none (t : ByteArray) (ht : t.size = 0) (c : UInt8) (w : World) :
    Calls Tryd.prog 146 #[.string t, .int .u8 (c.toNat : Int)] w fun e w' => e = .returned (.int .i64 (-1)) ∧ w' = w := by
  refine (ibyte_any t c w).mono ?_
  rintro e w' ⟨rfl, rfl⟩
  have : t.data.toList = [] := List.eq_nil_of_length_eq_zero (by simpa using ht)
  rw [this]
  exact ⟨rfl, rfl⟩
set_option maxRecDepth 100000 in
set_option maxHeartbeats 2000000 in
theorem irune_big (r : Int) (h0 : 128 ≤ r) (hv : Utf8.valid r = true) (hne : r ≠ 65533) (w : World) :
    Calls Tryd.prog 134 #[.string ⟨#[34, 10]⟩, .int .i32 r] w fun e w' => e = .returned (.int .i64 (-1)) ∧ Below w.heap.size w w' := by
  obtain ⟨e1, e2, e3⟩ := encode_facts r hv h0
  have VR := Lib.hid (validrune_any r h0 hv)
  obtain ⟨E, hE⟩ : ∃ E, Utf8.encode r = E := ⟨_, rfl⟩
  have hcv : ∀ W, (convert 21 9 (.int .i32 r)).run Tryd.prog W = .ok (.string E) W := fun W => by rw [run_convert_int_string W _ _ _ _ (by kernel_rfl) Tryd.underlying9, hE]
  rw [hE] at e1 e2 e3
  clear hE
  obtain ⟨s, hs⟩ : ∃ s : ByteArray, (⟨#[34, 10]⟩ : ByteArray) = s := ⟨_, rfl⟩
  have hz : s.size = 2 := by rw [← hs]; rfl
  have hs1 : ∀ h : 1 < s.size, (s[1]'h).toNat = 10 := by subst hs; intro h; rfl
  have n1 : ¬ r < 128 := by omega
  have g0 : (0 : Int) ≤ r := by omega
  have n2 : (r == 65533) = false := beq_eq_false_iff_ne.2 hne
  rw [hs]
  clear hs hv hne
  obtain ⟨n, hn⟩ : ∃ n, E.size = n := ⟨_, rfl⟩
  by_cases h2 : n = 2
  · subst h2
    have p1 : (1 : Nat) < s.size := by omega
    have p2 : (1 : Nat) < E.size := by omega
    obtain ⟨c, hc⟩ : ∃ c : UInt8, E[1]'p2 = c := ⟨_, rfl⟩
    have hs10 := hs1 p1
    have hc128 : 128 ≤ c.toNat := by
      have := e3 (by omega)
      have e : E[E.size - 1]'(by omega) = E[1]'p2 := by congr 1; omega
      rw [e, hc] at this
      exact this
    have hcc : (((s[1]'p1).toNat : Int) == ((E[1]'p2).toNat : Int)) = false := beq_eq_false_iff_ne.2 (by rw [hs10, hc]; omega)
    have hw2 : IntKind.i64.wrap 2 = 2 := by decide
    clear hs1 e3
    go_enter Tryd.func134, Tryd.ntmps134
    go_wp2_with (go_at_call 147; refine (VR.out _).mono ?_; rintro e w' ⟨rfl, rfl⟩)
    go_step3
    go_wp2
    go_loopg [9, 10] 0 (fun g s9 _ wx => s9 = .int .i64 1 ∧ wx = w')
    case atStart => exact ⟨rfl, rfl⟩
    case round =>
      obtain ⟨rfl, rfl⟩ := hrel
      go_wp2_with fail
      go_step3
      go_wp2_with fail
      go_quiet (fail)
      go_wp2_with fail
      go_quiet (first | (go_at_call 146; refine (ibyte_none ByteArray.empty rfl c _).mono ?_; rintro e w'' ⟨rfl, rfl⟩; exact ⟨rfl, _, rfl⟩))
      go_wp2
      rw [Exit.noGoto_ret]
      simp only [Exit.inBlock, Exit.then]
      rw [Exit.noGoto_ret]
      go_ret
      exact ⟨rfl, below_drewN (Below.refl _ _) _⟩
  · have g2 : ¬ ((n : Int) - 1 < 2) := by omega
    have g3 : (2 : Int) ≤ (n : Int) - 1 := by omega
    have g4 : (3 : Int) ≤ (n : Int) := by omega
    have g5 : IntKind.i64.wrap ((n : Int) - 1) = (n : Int) - 1 := by simp [IntKind.wrap, IntKind.signed, IntKind.bits]; omega
    go_enter Tryd.func134, Tryd.ntmps134
    go_wp2_with (go_at_call 147; refine (VR.out _).mono ?_; rintro e w' ⟨rfl, rfl⟩)
    go_step3
    go_wp2
    go_loopg [9, 10] 0 (fun g s9 _ wx => s9 = .int .i64 ((n : Int) - 1) ∧ wx = w')
    case atStart => exact ⟨rfl, rfl⟩
    case round =>
      obtain ⟨rfl, rfl⟩ := hrel
      go_wp2
      rw [Exit.noGoto_ret]
      go_ret
      exact ⟨rfl, Below.refl _ _⟩

end Go.Proofs.YtgfhhpodcnohpaaDoor
