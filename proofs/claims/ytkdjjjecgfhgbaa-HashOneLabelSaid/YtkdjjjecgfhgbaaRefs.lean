/- The contracts of the reference's small functions: Ints, Few, Short, Around, SameInts, SameBytes. Conditions: at most 1000 elements are copied or compared. -/
import Derived.Test.YtkdjjjecgfhgbaaPair
import Derived.Laws.AppendOwnNone
namespace Go.Proofs.Ytkdjjjecgfhgbaa
open Go.RowKit Go.Shelf

/-- A slice of integers that lies in memory. -/
structure Sli (k : IntKind) (w : World) (a : Option Addr) (cap : Nat) (zs : List Int) : Prop where
  le : zs.length ≤ cap
  mx : cap ≤ 9223372036854775807
  nil : a = none → cap = 0
  cells : Cells k w a zs

theorem Sli.below {k : IntKind} {w w' : World} {a : Option Addr} {cap : Nat} {zs : List Int} (h : Sli k w a cap zs) (hb : Below w.heap.size w w') : Sli k w' a cap zs := ⟨h.le, h.mx, h.nil, h.cells.below hb⟩

/-- A call hands back a slice of these integers in memory of its own, and writes nothing that lay. -/
def NewRow (k : IntKind) (e : TypeId) (w : World) (xs : List Int) (en : Ending) (w' : World) : Prop :=
  ∃ v, en = .returned v ∧ w'.ownsRow w.heap.size e 1 v xs.length (xs.map (Value.int k)) ∧ Below w.heap.size w w'

/-- What is owned is a slice that lies in memory. -/
theorem sli_of_own {w : World} {base n : Nat} {k : IntKind} {e : TypeId} {v : Value} {zs : List Int} (h : w.ownsRow base e 1 v n (zs.map (Value.int k))) : n = zs.length ∧ ∃ a cap, v = .slice a zs.length cap ∧ Sli k w a cap zs := by
  have hn : n = zs.length := by have := h.1; simp at this; omega
  refine ⟨hn, ?_⟩
  rcases h.2 with ⟨rfl, h0⟩ | ⟨g, cap, cur, rfl, hg, hh, hc, hm, r⟩
  · have : zs = [] := List.eq_nil_of_length_eq_zero (by omega)
    subst this
    exact ⟨none, 0, rfl, by simp, by omega, fun _ => rfl, .inl rfl⟩
  · exact ⟨some ⟨g, 0, none⟩, cap, by rw [hn], by omega, by unfold maxLen at hm; omega, (fun h => by cases h), cells_of_own h⟩

theorem info5 : (Try.prog.info? 5).map (fun i => (i.zero, i.size, i.bytes)) = some (some (.int .u8 0), 1, 1) := by kernel_rfl

theorem one_ints (k : IntKind) (l : List Int) : ∀ u ∈ l.map (Value.int k), u.oneCell' = true := by
  intro u hu
  obtain ⟨x, _, rfl⟩ := List.mem_map.1 hu
  rfl
theorem cells_take {k : IntKind} {w : World} {ad : Addr} {zs : List Int} (h : Cells k w (some ad) zs) (m : Nat) :
    ∀ j u, ((zs.take m).map (Value.int k))[j]? = some u → w.cell? (ad.add j) = some u := by
  intro j u hu
  rcases h with rfl | ⟨b, off, hab, hlt, hc⟩
  · simp at hu
  · cases hab
    rw [List.getElem?_map, List.getElem?_take] at hu
    split at hu
    · cases hz : zs[j]? with
      | none => simp [hz] at hu
      | some x =>
        simp [hz] at hu
        subst hu
        have hj : j < zs.length := (List.getElem?_eq_some_iff.1 hz).1
        have h1 := hc j hj
        rw [hz] at h1
        rw [show (⟨b, off, none⟩ : Addr).add j = ⟨b, off + j, none⟩ by by_cases h0 : j = 0 <;> simp [Addr.add, h0]]
        exact h1
    · simp at hu

set_option maxRecDepth 100000 in
set_option maxHeartbeats 1000000 in
theorem ints_any (a : Option Addr) (cap M : Nat) (zs : List Int) (w : World) (h : Sli .i64 w a cap zs) (hM : M ≤ 1000) :
    Calls Try.prog 12 #[.slice a zs.length cap, .int .i64 (M : Int)] w (NewRow .i64 3 w (zs.take M)) := by
  obtain ⟨i0, hi, hz0, hz1, hz2⟩ := info_parts info3
  obtain ⟨hle, hmx, hnil, hc⟩ := h
  have hlen : (zs.take M).length = min zs.length M := by rw [List.length_take, Nat.min_comm]
  have HL := Lib.hid hlen
  have HC := Lib.hid hc
  clear hlen hc
  cases a with
  | none =>
    have h0 := hnil rfl
    subst h0
    have hz : zs.length = 0 := by omega
    obtain rfl : zs = [] := List.eq_nil_of_length_eq_zero hz
    clear hz hnil hle hmx HL HC
    go_enter Try.func12, Try.ntmps12
    go_wp2_with (at_builtin; refine wpList_append_own_none rfl _ _ 22 rfl w.heap.size 3 i0 1 Try.underlying22 hi (.slice none 0 0) 0 [] rfl (World.ownsRow_nil _ _ _ _) rfl ?_)
    go_ret
    exact ⟨_, rfl, by simpa using World.ownsRow_nil w w.heap.size 3 1, Below.refl _ _⟩
  | some ad =>
    clear hnil
    have hnew := cells_take HC.out M
    rcases Nat.lt_or_ge M zs.length with hlt | hge
    · obtain ⟨n, hn⟩ : ∃ n, zs.length = n := ⟨_, rfl⟩
      rw [hn] at hle hlt ⊢
      have hl2 : ((zs.take M).map (Value.int .i64)).length = M * 1 := by rw [List.length_map, HL.out]; omega
      have HN := Lib.hid hn
      have HW := Lib.hid hnew
      have HL2 := Lib.hid hl2
      clear hn hnew hl2
      go_enter Try.func12, Try.ntmps12
      go_wp2_with (at_builtin; refine wpList_append_own _ rfl _ _ 22 rfl w.heap.size 3 i0 (.int .i64 0) 1 8 Try.underlying22 hi hz0 hz1 hz2 rfl (by decide) (.slice none 0 0) 0 [] rfl (World.ownsRow_nil _ _ _ _) ad M cap ((zs.take M).map (Value.int .i64)) rfl HL2.out HW.out (one_ints _ _) (by unfold maxLen; omega) (by omega) (Nat.le_refl _) ?_; intro v' w1 hown hgrow _)
      go_ret
      have hown' : w1.ownsRow w.heap.size 3 1 v' (zs.take M).length ((zs.take M).map (Value.int .i64)) := by rw [HL.out, HN.out, Nat.min_eq_right (by omega)]; simpa using hown
      exact ⟨_, rfl, hown', (Below.refl _ _).grown hgrow (Nat.le_refl _) (fun k e => by cases e)⟩
    · obtain ⟨n, hn⟩ : ∃ n, zs.length = n := ⟨_, rfl⟩
      rw [hn] at hle hge ⊢
      have hl2 : ((zs.take M).map (Value.int .i64)).length = n * 1 := by rw [List.length_map, HL.out]; omega
      have HN := Lib.hid hn
      have HW := Lib.hid hnew
      have HL2 := Lib.hid hl2
      clear hn hnew hl2
      go_enter Try.func12, Try.ntmps12
      go_wp2_with (at_builtin; refine wpList_append_own _ rfl _ _ 22 rfl w.heap.size 3 i0 (.int .i64 0) 1 8 Try.underlying22 hi hz0 hz1 hz2 rfl (by decide) (.slice none 0 0) 0 [] rfl (World.ownsRow_nil _ _ _ _) ad n cap ((zs.take M).map (Value.int .i64)) rfl HL2.out HW.out (one_ints _ _) (by unfold maxLen; omega) (by omega) (Nat.le_refl _) ?_; intro v' w1 hown hgrow _)
      go_ret
      have hown' : w1.ownsRow w.heap.size 3 1 v' (zs.take M).length ((zs.take M).map (Value.int .i64)) := by rw [HL.out, HN.out, Nat.min_eq_left (by omega)]; simpa using hown
      exact ⟨_, rfl, hown', (Below.refl _ _).grown hgrow (Nat.le_refl _) (fun k e => by cases e)⟩

set_option maxRecDepth 100000 in
set_option maxHeartbeats 1000000 in
theorem few_any (a : Option Addr) (cap M : Nat) (zs : List Int) (w : World) (h : Sli .u8 w a cap zs) (hM : M ≤ 1000) :
    Calls Try.prog 16 #[.slice a zs.length cap, .int .i64 (M : Int)] w (NewRow .u8 5 w (zs.take M)) := by
  obtain ⟨i0, hi, hz0, hz1, hz2⟩ := info_parts info5
  obtain ⟨hle, hmx, hnil, hc⟩ := h
  have hlen : (zs.take M).length = min zs.length M := by rw [List.length_take, Nat.min_comm]
  have HL := Lib.hid hlen
  have HC := Lib.hid hc
  clear hlen hc
  cases a with
  | none =>
    have h0 := hnil rfl
    subst h0
    have hz : zs.length = 0 := by omega
    obtain rfl : zs = [] := List.eq_nil_of_length_eq_zero hz
    clear hz hnil hle hmx HL HC
    go_enter Try.func16, Try.ntmps16
    go_wp2_with (at_builtin; refine wpList_append_own_none rfl _ _ 30 rfl w.heap.size 5 i0 1 Try.underlying30 hi (.slice none 0 0) 0 [] rfl (World.ownsRow_nil _ _ _ _) rfl ?_)
    go_ret
    exact ⟨_, rfl, by simpa using World.ownsRow_nil w w.heap.size 5 1, Below.refl _ _⟩
  | some ad =>
    clear hnil
    have hnew := cells_take HC.out M
    rcases Nat.lt_or_ge M zs.length with hlt | hge
    · obtain ⟨n, hn⟩ : ∃ n, zs.length = n := ⟨_, rfl⟩
      rw [hn] at hle hlt ⊢
      have hl2 : ((zs.take M).map (Value.int .u8)).length = M * 1 := by rw [List.length_map, HL.out]; omega
      have HN := Lib.hid hn
      have HW := Lib.hid hnew
      have HL2 := Lib.hid hl2
      clear hn hnew hl2
      go_enter Try.func16, Try.ntmps16
      go_wp2_with (at_builtin; refine wpList_append_own _ rfl _ _ 30 rfl w.heap.size 5 i0 (.int .u8 0) 1 1 Try.underlying30 hi hz0 hz1 hz2 rfl (by decide) (.slice none 0 0) 0 [] rfl (World.ownsRow_nil _ _ _ _) ad M cap ((zs.take M).map (Value.int .u8)) rfl HL2.out HW.out (one_ints _ _) (by unfold maxLen; omega) (by omega) (Nat.le_refl _) ?_; intro v' w1 hown hgrow _)
      go_ret
      have hown' : w1.ownsRow w.heap.size 5 1 v' (zs.take M).length ((zs.take M).map (Value.int .u8)) := by rw [HL.out, HN.out, Nat.min_eq_right (by omega)]; simpa using hown
      exact ⟨_, rfl, hown', (Below.refl _ _).grown hgrow (Nat.le_refl _) (fun k e => by cases e)⟩
    · obtain ⟨n, hn⟩ : ∃ n, zs.length = n := ⟨_, rfl⟩
      rw [hn] at hle hge ⊢
      have hl2 : ((zs.take M).map (Value.int .u8)).length = n * 1 := by rw [List.length_map, HL.out]; omega
      have HN := Lib.hid hn
      have HW := Lib.hid hnew
      have HL2 := Lib.hid hl2
      clear hn hnew hl2
      go_enter Try.func16, Try.ntmps16
      go_wp2_with (at_builtin; refine wpList_append_own _ rfl _ _ 30 rfl w.heap.size 5 i0 (.int .u8 0) 1 1 Try.underlying30 hi hz0 hz1 hz2 rfl (by decide) (.slice none 0 0) 0 [] rfl (World.ownsRow_nil _ _ _ _) ad n cap ((zs.take M).map (Value.int .u8)) rfl HL2.out HW.out (one_ints _ _) (by unfold maxLen; omega) (by omega) (Nat.le_refl _) ?_; intro v' w1 hown hgrow _)
      go_ret
      have hown' : w1.ownsRow w.heap.size 5 1 v' (zs.take M).length ((zs.take M).map (Value.int .u8)) := by rw [HL.out, HN.out, Nat.min_eq_left (by omega)]; simpa using hown
      exact ⟨_, rfl, hown', (Below.refl _ _).grown hgrow (Nat.le_refl _) (fun k e => by cases e)⟩


/-- The first bytes of a string. -/
def shS (s : ByteArray) (M : Nat) : ByteArray := if M < s.size then s.extract 0 M else s
theorem shS_size (s : ByteArray) (M : Nat) : (shS s M).size ≤ M := by
  unfold shS; split
  · rw [ByteArray.size_extract]; omega
  · omega
theorem short_any (s : ByteArray) (M : Nat) (w : World) (_hs : s.size ≤ 9223372036854775807) (hM : M ≤ 1000) :
    Calls Try.prog 11 #[.string s, .int .i64 (M : Int)] w fun e w' => e = .returned (.string (shS s M)) ∧ w = w' := by
  by_cases h : M < s.size
  · have hr : shS s M = s.extract 0 M := if_pos h
    rw [hr]
    clear hr
    go_enter Try.func11, Try.ntmps11
    go_wp2
    go_ret
    exact ⟨rfl, rfl⟩
  · have hr : shS s M = s := if_neg h
    rw [hr]
    clear hr
    go_enter Try.func11, Try.ntmps11
    go_wp2
    go_ret
    exact ⟨rfl, rfl⟩

/-- Around hands back an index below m. -/
def Index (m : Nat) (w : World) (e : Ending) (w' : World) : Prop := ∃ k : Nat, k < m ∧ e = .returned (.int .i64 (k : Int)) ∧ w = w'
theorem around_any (x : Int) (m : Nat) (w : World) (h1 : -9223372036854775808 ≤ x) (h2 : x ≤ 9223372036854775807) (hm : 1 ≤ m) (hm2 : m ≤ 1000) :
    Calls Try.prog 21 #[.int .i64 x, .int .i64 (m : Int)] w (Index m w) := by
  have hm0 : ¬ (m : Int) = 0 := by omega
  by_cases h : x < 0
  · have hq : -(x + 1).tmod (m : Int) = (-(x + 1)) % (m : Int) := by
      rw [← Int.neg_tmod, Int.tmod_eq_emod_of_nonneg (by omega)]
    have h3 := Int.emod_nonneg (-(x + 1)) hm0
    have h4 := Int.emod_lt_of_pos (-(x + 1)) (show (0 : Int) < m by omega)
    have HQ := Lib.hid hq
    have H3 := Lib.hid h3
    have H4 := Lib.hid h4
    clear hq h3 h4
    go_enter Try.func21, Try.ntmps21
    go_wp2
    go_ret
    refine ⟨((-(x + 1)) % (m : Int)).toNat, by have := H3.out; have := H4.out; omega, ?_, rfl⟩
    rw [Int.toNat_of_nonneg H3.out, ← HQ.out]
    rfl
  · have h3 := Int.emod_nonneg x hm0
    have h4 := Int.emod_lt_of_pos x (show (0 : Int) < m by omega)
    have H3 := Lib.hid h3
    have H4 := Lib.hid h4
    clear h3 h4
    go_enter Try.func21, Try.ntmps21
    go_wp2
    go_ret
    refine ⟨(x % (m : Int)).toNat, by have := H3.out; have := H4.out; omega, ?_, rfl⟩
    rw [Int.toNat_of_nonneg H3.out]
    rfl

theorem take_step (xs ys : List Int) (k : Nat) (hx : k < xs.length) (hy : k < ys.length) (h : xs.take k = ys.take k) (e : xs[k]?.getD 0 = ys[k]?.getD 0) : xs.take (k + 1) = ys.take (k + 1) := by
  rw [List.take_succ_eq_append_getElem hx, List.take_succ_eq_append_getElem hy, h]
  simp [hx, hy] at e
  rw [e]
theorem take_stop (xs ys : List Int) (k : Nat) (_hx : k < xs.length) (_hy : k < ys.length) (e : ¬ xs[k]?.getD 0 = ys[k]?.getD 0) : ¬ xs = ys := fun h => e (by rw [h])

set_option maxRecDepth 100000 in
set_option maxHeartbeats 1000000 in
theorem sameInts_any (a b : Option Addr) (ca cb : Nat) (xs ys : List Int) (w : World) (hx : Sli .i64 w a ca xs) (hy : Sli .i64 w b cb ys) (hl : xs.length ≤ 1000) (_hl2 : ys.length ≤ 1000) :
    Calls Try.prog 24 #[.slice a xs.length ca, .slice b ys.length cb] w fun e w' => e = .returned (.bool (decide (xs = ys))) ∧ Below w.heap.size w w' := by
  by_cases hne : xs.length = ys.length
  · have HX := Lib.hid hx.cells
    have HY := Lib.hid hy.cells
    obtain ⟨n, hn⟩ : ∃ n, xs.length = n := ⟨_, rfl⟩
    rw [← hne, hn]
    have hn2 : ys.length = n := by omega
    have HN := Lib.hid hn
    have HN2 := Lib.hid hn2
    have hln : n ≤ 1000 := by omega
    clear hx hy hne hn hn2 hl
    go_enter Try.func24, Try.ntmps24
    go_wp2
    go_loopw [5] (fun i wr => ∃ k : Nat, k ≤ n ∧ i = .int .i64 k ∧ xs.take k = ys.take k ∧ Below w.heap.size w wr) (fun i _ => n - (intOf i).toNat)
    case atStart => exact ⟨0, Nat.zero_le _, rfl, rfl, Below.refl _ _⟩
    case round =>
      obtain ⟨k, hk, rfl, htk, hB⟩ := hrel
      have HTK := Lib.hid htk
      clear htk
      by_cases hlt : k < n
      · have HX2 := HX.out.below hB
        have HY2 := HY.out.below hB
        rcases HX2 with h | ⟨b1, o1, h1, _, hc1⟩
        · exact absurd (congrArg List.length h) (by rw [HN.out]; simp; omega)
        rcases HY2 with h | ⟨b2, o2, h2, _, hc2⟩
        · exact absurd (congrArg List.length h) (by rw [HN2.out]; simp; omega)
        have hk1 := hc1 k (by rw [HN.out]; omega)
        have hk2 := hc2 k (by rw [HN2.out]; omega)
        have hstep := take_step xs ys k (by rw [HN.out]; omega) (by rw [HN2.out]; omega) HTK.out
        have hstop := take_stop xs ys k (by rw [HN.out]; omega) (by rw [HN2.out]; omega)
        generalize xs[k]?.getD 0 = x at hk1 hstep hstop
        generalize ys[k]?.getD 0 = y at hk2 hstep hstop
        have HS := Lib.hid hstep
        have HS2 := Lib.hid hstop
        clear hc1 hc2 hstep hstop
        subst h1 h2
        by_cases hxy : x = y
        · have HXY := Lib.hid hxy
          have hq : (x != y) = false := by simp [hxy]
          clear hxy
          go_wp2
          go_quiet (fail)
          go_wp2
          go_roundw
          case rel => exact ⟨k + 1, by omega, by go_num, HS.out HXY.out, below_drewN hB _⟩
          case measure => simp [intOf]; omega
        · have HXY := Lib.hid hxy
          have hq : (x != y) = true := by simp [hxy]
          clear hxy
          go_wp2
          go_quiet (fail)
          go_wp2
          go_ret
          exact ⟨by rw [decide_eq_false (HS2.out HXY.out)]; rfl, below_drewN hB _⟩
      · have hkn : k = n := by omega
        subst hkn
        go_wp2
        go_ret
        exact ⟨by rw [decide_eq_true (by have := HTK.out; rwa [List.take_of_length_le (by rw [HN.out]; omega), List.take_of_length_le (by rw [HN2.out]; omega)] at this)]; rfl, hB⟩
  · have hq : ((xs.length : Int) != (ys.length : Int)) = true := by simp; omega
    have hf : decide (xs = ys) = false := decide_eq_false (fun h => hne (by rw [h]))
    rw [hf]
    clear hf hne
    go_enter Try.func24, Try.ntmps24
    go_wp2
    go_ret
    exact ⟨rfl, Below.refl _ _⟩

set_option maxRecDepth 100000 in
set_option maxHeartbeats 1000000 in
theorem sameBytes_any (a b : Option Addr) (ca cb : Nat) (xs ys : List Int) (w : World) (hx : Sli .u8 w a ca xs) (hy : Sli .u8 w b cb ys) (hl : xs.length ≤ 1000) (_hl2 : ys.length ≤ 1000) :
    Calls Try.prog 22 #[.slice a xs.length ca, .slice b ys.length cb] w fun e w' => e = .returned (.bool (decide (xs = ys))) ∧ Below w.heap.size w w' := by
  by_cases hne : xs.length = ys.length
  · have HX := Lib.hid hx.cells
    have HY := Lib.hid hy.cells
    obtain ⟨n, hn⟩ : ∃ n, xs.length = n := ⟨_, rfl⟩
    rw [← hne, hn]
    have hn2 : ys.length = n := by omega
    have HN := Lib.hid hn
    have HN2 := Lib.hid hn2
    have hln : n ≤ 1000 := by omega
    clear hx hy hne hn hn2 hl
    go_enter Try.func22, Try.ntmps22
    go_wp2
    go_loopw [5] (fun i wr => ∃ k : Nat, k ≤ n ∧ i = .int .i64 k ∧ xs.take k = ys.take k ∧ Below w.heap.size w wr) (fun i _ => n - (intOf i).toNat)
    case atStart => exact ⟨0, Nat.zero_le _, rfl, rfl, Below.refl _ _⟩
    case round =>
      obtain ⟨k, hk, rfl, htk, hB⟩ := hrel
      have HTK := Lib.hid htk
      clear htk
      by_cases hlt : k < n
      · have HX2 := HX.out.below hB
        have HY2 := HY.out.below hB
        rcases HX2 with h | ⟨b1, o1, h1, _, hc1⟩
        · exact absurd (congrArg List.length h) (by rw [HN.out]; simp; omega)
        rcases HY2 with h | ⟨b2, o2, h2, _, hc2⟩
        · exact absurd (congrArg List.length h) (by rw [HN2.out]; simp; omega)
        have hk1 := hc1 k (by rw [HN.out]; omega)
        have hk2 := hc2 k (by rw [HN2.out]; omega)
        have hstep := take_step xs ys k (by rw [HN.out]; omega) (by rw [HN2.out]; omega) HTK.out
        have hstop := take_stop xs ys k (by rw [HN.out]; omega) (by rw [HN2.out]; omega)
        generalize xs[k]?.getD 0 = x at hk1 hstep hstop
        generalize ys[k]?.getD 0 = y at hk2 hstep hstop
        have HS := Lib.hid hstep
        have HS2 := Lib.hid hstop
        clear hc1 hc2 hstep hstop
        subst h1 h2
        by_cases hxy : x = y
        · have HXY := Lib.hid hxy
          have hq : (x != y) = false := by simp [hxy]
          clear hxy
          go_wp2
          go_quiet (fail)
          go_wp2
          go_roundw
          case rel => exact ⟨k + 1, by omega, by go_num, HS.out HXY.out, below_drewN hB _⟩
          case measure => simp [intOf]; omega
        · have HXY := Lib.hid hxy
          have hq : (x != y) = true := by simp [hxy]
          clear hxy
          go_wp2
          go_quiet (fail)
          go_wp2
          go_ret
          exact ⟨by rw [decide_eq_false (HS2.out HXY.out)]; rfl, below_drewN hB _⟩
      · have hkn : k = n := by omega
        subst hkn
        go_wp2
        go_ret
        exact ⟨by rw [decide_eq_true (by have := HTK.out; rwa [List.take_of_length_le (by rw [HN.out]; omega), List.take_of_length_le (by rw [HN2.out]; omega)] at this)]; rfl, hB⟩
  · have hq : ((xs.length : Int) != (ys.length : Int)) = true := by simp; omega
    have hf : decide (xs = ys) = false := decide_eq_false (fun h => hne (by rw [h]))
    rw [hf]
    clear hf hne
    go_enter Try.func22, Try.ntmps22
    go_wp2
    go_ret
    exact ⟨rfl, Below.refl _ _⟩


/-- A call hands back a slice of these integers that lies in memory, and writes nothing that lay. -/
def NewSli (k : IntKind) (w : World) (xs : List Int) (en : Ending) (w' : World) : Prop :=
  ∃ a cap, en = .returned (.slice a xs.length cap) ∧ Sli k w' a cap xs ∧ Below w.heap.size w w'
theorem newSli_of_row {k : IntKind} {e : TypeId} {w : World} {xs : List Int} {en : Ending} {w' : World} (h : NewRow k e w xs en w') : NewSli k w xs en w' := by
  obtain ⟨v, rfl, hown, hb⟩ := h
  obtain ⟨_, a, cap, rfl, hs⟩ := sli_of_own hown
  exact ⟨a, cap, rfl, hs, hb⟩
theorem ints_sli (X : List Int) (a : Option Addr) (cap M : Nat) (zs : List Int) (w : World) (h : Sli .i64 w a cap zs) (hM : M ≤ 1000) (hX : zs.take M = X) :
    Calls Try.prog 12 #[.slice a zs.length cap, .int .i64 (M : Int)] w (NewSli .i64 w X) := by
  subst hX; exact (ints_any a cap M zs w h hM).mono fun _ _ => newSli_of_row
theorem few_sli (X : List Int) (a : Option Addr) (cap M : Nat) (zs : List Int) (w : World) (h : Sli .u8 w a cap zs) (hM : M ≤ 1000) (hX : zs.take M = X) :
    Calls Try.prog 16 #[.slice a zs.length cap, .int .i64 (M : Int)] w (NewSli .u8 w X) := by
  subst hX; exact (few_any a cap M zs w h hM).mono fun _ _ => newSli_of_row

/-- What the frame of a law tells of a slice that came in. -/
def IsRow (k : IntKind) (w : World) (a : Option Addr) (len cap : Nat) (zs : List Int) : Prop :=
  (a = none ∧ len = 0 ∧ cap = 0 ∧ zs = []) ∨
  ∃ x, a = some x ∧ len ≤ cap ∧ cap ≤ maxLen ∧ zs.length = cap ∧ (∀ i, i < zs.length → w.cell? (x.add i) = some (.int k (zs.getD i 0))) ∧ ∀ n ∈ zs, (Lit.int k n).wf = true

theorem sli_of_isRow {k : IntKind} {w : World} {a : Option Addr} {len cap : Nat} {zs : List Int} (h : IsRow k w a len cap zs) :
    ∃ xs : List Int, xs.length = len ∧ Sli k w a cap xs ∧ ∀ n ∈ xs, (Lit.int k n).wf = true := by
  rcases h with ⟨rfl, rfl, rfl, rfl⟩ | ⟨x, rfl, hl, hm, hz, hcell, hwf⟩
  · exact ⟨[], rfl, ⟨by simp, by omega, fun _ => rfl, .inl rfl⟩, by simp⟩
  · have hlen : (zs.take len).length = len := by rw [List.length_take]; omega
    refine ⟨zs.take len, hlen, ⟨by omega, by unfold maxLen at hm; omega, (fun h => by cases h), ?_⟩, fun n hn => hwf n (List.mem_of_mem_take hn)⟩
    by_cases h0 : len = 0
    · subst h0; exact .inl (by simp)
    · obtain ⟨b, off, spot⟩ := x
      have hc0 := hcell 0 (by omega)
      have hspot : spot = none := by simpa [Addr.add] using World.cell?_spot hc0
      subst hspot
      have hlt : b < w.heap.size := by
        have := World.block_lt_of_cell? w _ hc0
        simpa [Addr.add] using this
      refine .inr ⟨b, off, rfl, hlt, fun j hj => ?_⟩
      have h1 := hcell j (by omega)
      rw [show (⟨b, off, none⟩ : Addr).add j = ⟨b, off + j, none⟩ by by_cases h0 : j = 0 <;> simp [Addr.add, h0]] at h1
      rw [h1, List.getElem?_take, if_pos (by omega)]
      simp
theorem byt_of_wf {xs : List Int} (h : ∀ n ∈ xs, (Lit.int .u8 n).wf = true) : Byt xs := fun c hc => by
  have h1 := h c hc
  simp only [Lit.wf, IntKind.min, IntKind.max, IntKind.signed, IntKind.bits, Bool.and_eq_true] at h1
  simp at h1
  omega

theorem sum_sli (s : ByteArray) (a : Option Addr) (cap : Nat) (ws : List Int) (w : World) (h : Sli .i64 w a cap ws) (hs : s.size ≤ 1000) (hl : ws.length ≤ 1000) (r : Int) (hr : U (sumS (sb s) ws) = r) :
    Calls Try.prog 13 #[.string s, .slice a ws.length cap] w fun e w' => e = .returned (.int .u64 r) ∧ Below w.heap.size w w' := by
  subst hr; exact sum_any s a cap ws w hs hl h.cells
theorem bytes_sli (s : ByteArray) (a : Option Addr) (cap : Nat) (zs : List Int) (w : World) (h : Sli .u8 w a cap zs) (hs : s.size ≤ 1000) (hl : zs.length ≤ 1000) (hz : Byt zs) (r : Int) (hr : U (bytesS (sb s) zs) = r) :
    Calls Try.prog 17 #[.string s, .slice a zs.length cap] w fun e w' => e = .returned (.int .u64 r) ∧ Below w.heap.size w w' := by
  subst hr; exact bytes_any s a cap zs w hs hl h.le h.mx hz h.cells

end Go.Proofs.Ytkdjjjecgfhgbaa
