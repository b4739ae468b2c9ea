/- PUn, with the texts that only it needs in front of it: PDec. It has no conditions. -/
import Derived.Test.YtfhpllcdlejfjaaPMath
import Derived.Laws.Runes
import Derived.Test.YtfhpllcdlejfjaaPBord
import Derived.Lib.OthersKept

/- The model's decoding of a rune is the character of the document. It has no conditions. -/
namespace Go.Proofs.Ytfhpllcdlejfjaa
open Go.RowKit
set_option linter.unusedVariables false

theorem sb_at (s : ByteArray) (k : Nat) (h : k < s.size) : ab (sb s) k = ((s.get! k).toNat : Int) := by
  have h2 : k < s.data.size := h
  unfold ab sb
  rw [List.getElem?_map]
  have e : s.get! k = s.data[k] := by show s.data[k]! = s.data[k]; exact getElem!_pos s.data k h2
  rw [e]
  have e2 : s.data.toList[k]? = some s.data[k] := by rw [Array.getElem?_toList]; exact Array.getElem?_eq_getElem h2
  rw [e2]; rfl
theorem sb_drop_at (s : ByteArray) (i k : Nat) (h : i + k < s.size) : ab ((sb s).drop i) k = ((s.get! (i + k)).toNat : Int) := by
  rw [← sb_at s (i + k) h]; unfold ab; rw [List.getElem?_drop]
theorem sb_bt (s : ByteArray) (i k : Nat) (lo hi : Int) : bt ((sb s).drop i) k lo hi = decide (i + k < s.size ∧ lo ≤ ((s.get! (i + k)).toNat : Int) ∧ ((s.get! (i + k)).toNat : Int) ≤ hi) := by
  unfold bt
  congr 1
  apply propext
  rw [List.length_drop, sb_len]
  constructor
  · rintro ⟨h1, h2, h3⟩
    rw [sb_drop_at s i k (by omega)] at h2 h3
    exact ⟨by omega, h2, h3⟩
  · rintro ⟨h1, h2, h3⟩
    rw [sb_drop_at s i k h1]
    exact ⟨by omega, h2, h3⟩
/-- The model's decoding over four bytes, of which the last three may not go on (c1, c2, c3). -/
def decN (a0 a1 a2 a3 : Nat) (c1 c2 c3 : Bool) : Nat × Nat :=
  if a0 < 128 then (a0, 1)
  else if (a0 / 32 == 6 && c1) = true then if a0 % 32 * 64 + a1 % 64 ≥ 128 then (a0 % 32 * 64 + a1 % 64, 2) else (Utf8.runeError, 1)
  else if (a0 / 16 == 14 && c1 && c2) = true then if (decide (a0 % 16 * 4096 + a1 % 64 * 64 + a2 % 64 ≥ 2048) && Utf8.valid ((a0 % 16 * 4096 + a1 % 64 * 64 + a2 % 64 : Nat) : Int)) = true then (a0 % 16 * 4096 + a1 % 64 * 64 + a2 % 64, 3) else (Utf8.runeError, 1)
  else if (a0 / 8 == 30 && c1 && c2 && c3) = true then if (decide (a0 % 8 * 262144 + a1 % 64 * 4096 + a2 % 64 * 64 + a3 % 64 ≥ 65536) && Utf8.valid ((a0 % 8 * 262144 + a1 % 64 * 4096 + a2 % 64 * 64 + a3 % 64 : Nat) : Int)) = true then (a0 % 8 * 262144 + a1 % 64 * 4096 + a2 % 64 * 64 + a3 % 64, 4) else (Utf8.runeError, 1)
  else (Utf8.runeError, 1)
/-- The document's character over the same. -/
def chrN (a0 a1 : Nat) (c1 c2 c3 : Bool) : Nat × Nat :=
  if 194 ≤ a0 ∧ a0 ≤ 223 ∧ c1 = true then (2, 1)
  else if 224 ≤ a0 ∧ a0 ≤ 239 ∧ (c1 = true ∧ (a0 = 224 → 160 ≤ a1) ∧ (a0 = 237 → a1 ≤ 159)) ∧ c2 = true then (3, 1)
  else if 240 ≤ a0 ∧ a0 ≤ 244 ∧ (c1 = true ∧ (a0 = 240 → 144 ≤ a1) ∧ (a0 = 244 → a1 ≤ 143)) ∧ c2 = true ∧ c3 = true then (4, 2)
  else (1, 1)
set_option maxRecDepth 10000 in
set_option maxHeartbeats 2000000 in
theorem dec_core (a0 a1 a2 a3 : Nat) (c1 c2 c3 : Bool) (l0 : a0 < 256) (l1 : a1 < 256) (l2 : a2 < 256) (l3 : a3 < 256) (h1 : c1 = true → a1 / 64 = 2) (h2 : c2 = true → a2 / 64 = 2) (h3 : c3 = true → a3 / 64 = 2)
    (r n m u : Nat) (hd : decN a0 a1 a2 a3 c1 c2 c3 = (r, n)) (hc : chrN a0 a1 c1 c2 c3 = (m, u)) : n = m ∧ (65536 ≤ r ↔ u = 2) ∧ (r = 10 ↔ a0 = 10) ∧ r ≤ 1114111 := by
  simp only [decN, chrN, validRune_eq, validRune, Utf8.runeError, Bool.and_eq_true, beq_iff_eq, decide_eq_true_eq, ge_iff_le] at hd hc
  cases c1 <;> cases c2 <;> cases c3 <;> simp only [Bool.false_eq_true, and_false, and_true, false_and, true_and, if_false, forall_const, false_implies] at hd hc h1 h2 h3
  all_goals repeat' split at hd
  all_goals repeat' split at hc
  all_goals
    simp only [Prod.mk.injEq] at hd hc
    obtain ⟨rfl, rfl⟩ := hd
    obtain ⟨rfl, rfl⟩ := hc
    omega
theorem if_alike {α : Type} {p q : Prop} [Decidable p] [Decidable q] {a b c : α} (h : p ↔ q) (h2 : b = c) : (if p then a else b) = (if q then a else c) := by
  by_cases hp : p
  · rw [if_pos hp, if_pos (h.1 hp)]
  · rw [if_neg hp, if_neg (fun hq => hp (h.2 hq)), h2]
/-- The model's rune and the document's character. -/
theorem decode_chr (s : ByteArray) (i : Nat) (hi : i < s.size) :
    (Utf8.decode s i).2 = (chr ((sb s).drop i)).1 ∧ (65536 ≤ (Utf8.decode s i).1 ↔ (chr ((sb s).drop i)).2 = 2) ∧ ((Utf8.decode s i).1 = 10 ↔ ab ((sb s).drop i) 0 = 10) ∧ (Utf8.decode s i).1 ≤ 1114111 := by
  have h0 := sb_drop_at s i 0 (by omega)
  have h1 := sb_bt s i 1
  have h2 := sb_bt s i 2
  have h3 := sb_bt s i 3
  have hd : Utf8.decode s i = decN (s.get! (i + 0)).toNat (s.get! (i + 1)).toNat (s.get! (i + 2)).toNat (s.get! (i + 3)).toNat (decide (i + 1 < s.size) && (s.get! (i + 1)).toNat / 64 == 2) (decide (i + 2 < s.size) && (s.get! (i + 2)).toNat / 64 == 2) (decide (i + 3 < s.size) && (s.get! (i + 3)).toNat / 64 == 2) := by
    unfold Utf8.decode decN
    rfl
  have l0 := (s.get! (i + 0)).toNat_lt
  have l1 := (s.get! (i + 1)).toNat_lt
  have l2 := (s.get! (i + 2)).toNat_lt
  have l3 := (s.get! (i + 3)).toNat_lt
  generalize (s.get! (i + 0)).toNat = a0 at *
  generalize (s.get! (i + 1)).toNat = a1 at *
  generalize (s.get! (i + 2)).toNat = a2 at *
  generalize (s.get! (i + 3)).toNat = a3 at *
  have hc : chr ((sb s).drop i) = chrN a0 a1 (decide (i + 1 < s.size) && a1 / 64 == 2) (decide (i + 2 < s.size) && a2 / 64 == 2) (decide (i + 3 < s.size) && a3 / 64 == 2) := by
    unfold chr chrN
    simp only [h0, h1, h2, h3]
    simp only [decide_eq_true_eq, Bool.and_eq_true, beq_iff_eq]
    refine if_alike (by omega) (if_alike ?_ (if_alike ?_ rfl))
    · by_cases k1 : a0 = 224
      · subst k1; simp [sec]; omega
      · by_cases k2 : a0 = 237
        · subst k2; simp [sec]; omega
        · by_cases k3 : 224 ≤ a0 ∧ a0 ≤ 239
          · have : sec (a0 : Int) = (128, 191) := by unfold sec; rw [if_neg (by omega), if_neg (by omega), if_neg (by omega), if_neg (by omega)]
            rw [this]; simp only; omega
          · constructor
            · rintro ⟨x1, x2, _⟩; exact absurd ⟨by omega, by omega⟩ k3
            · rintro ⟨x1, x2, _⟩; exact absurd ⟨x1, x2⟩ k3
    · by_cases k1 : a0 = 240
      · subst k1; simp [sec]; omega
      · by_cases k2 : a0 = 244
        · subst k2; simp [sec]; omega
        · by_cases k3 : 240 ≤ a0 ∧ a0 ≤ 244
          · have : sec (a0 : Int) = (128, 191) := by unfold sec; rw [if_neg (by omega), if_neg (by omega), if_neg (by omega), if_neg (by omega)]
            rw [this]; simp only; omega
          · constructor
            · rintro ⟨x1, x2, _⟩; exact absurd ⟨by omega, by omega⟩ k3
            · rintro ⟨x1, x2, _⟩; exact absurd ⟨x1, x2⟩ k3
  obtain ⟨⟨r, n⟩, hr⟩ : ∃ x, Utf8.decode s i = x := ⟨_, rfl⟩
  obtain ⟨⟨m, u⟩, hm⟩ : ∃ x, chr ((sb s).drop i) = x := ⟨_, rfl⟩
  rw [hr] at hd ⊢
  rw [hm] at hc ⊢
  have := dec_core a0 a1 a2 a3 _ _ _ l0 l1 l2 l3 (by simp) (by simp) (by simp) r n m u hd.symm hc.symm
  rw [h0]
  refine ⟨this.1, this.2.1, ?_, this.2.2.2⟩
  simp only
  omega

end Go.Proofs.Ytfhpllcdlejfjaa

/- The contracts of the program's Units, Lines, skip and begins. Conditions: texts of at most 100000 bytes. -/
namespace Go.Proofs.Ytfhpllcdlejfjaa
open Go.RowKit Go.Shelf Go.Lib
set_option linter.unusedVariables false

/-- The iterator of a range over s stands in block k at offset pos; what lay lies as it lay. -/
def ItS (s : ByteArray) (k pos : Nat) (w wr : World) : Prop := wr.heap[k]? = some (.stringIter s pos) ∧ Below k w wr
theorem ItS.next {s : ByteArray} {k pos pos' : Nat} {w wr : World} (h : ItS s k pos w wr) : ItS s k pos' w (wr.iterAt k s pos') := ⟨iterAt_heap wr k s pos pos' h.1, below_iterAt h.2 (Nat.le_refl _) _ _⟩
/-- The offset at which an iterator stands. -/
def posOf (w : World) (k : Nat) : Nat := w.iterPos k
theorem posOf_of {s : ByteArray} {k pos : Nat} {wr : World} (h : wr.heap[k]? = some (.stringIter s pos)) : posOf wr k = pos := by unfold posOf World.iterPos; rw [h]
theorem ItS.posOf {s : ByteArray} {k pos : Nat} {w wr : World} (h : ItS s k pos w wr) : posOf wr k = pos := posOf_of h.1

/-- The next character. -/
theorem chr_at (s : ByteArray) (i : Nat) (hlt : i < s.size) : ∃ r b u, Utf8.decode s i = (r, b) ∧ chr ((sb s).drop i) = (b, u) ∧ (65536 ≤ r ↔ u = 2) ∧ (r = 10 ↔ ab (sb s) i = 10) ∧ r ≤ 1114111 ∧ 1 ≤ b ∧ i + b ≤ s.size ∧ 1 ≤ u ∧ u ≤ 2 ∧ (sb s).drop i ≠ [] ∧ unis ((sb s).drop i) = u + unis ((sb s).drop (i + b)) := by
  obtain ⟨d1, d2, d3, d4⟩ := decode_chr s i hlt
  obtain ⟨⟨b, u⟩, hc⟩ : ∃ x, chr ((sb s).drop i) = x := ⟨_, rfl⟩
  have hne : (sb s).drop i ≠ [] := by intro h; have := congrArg List.length h; rw [List.length_drop, sb_len] at this; simp at this; omega
  have hle := chr_le hne
  have hpos := chr_pos ((sb s).drop i)
  have hun := unis_cons hne
  rw [List.drop_drop] at hun
  rw [drop_zero_ab] at d3
  rw [hc] at hle hpos hun d1 d2
  rw [List.length_drop, sb_len] at hle
  obtain ⟨⟨r, m⟩, hdd⟩ : ∃ x, Utf8.decode s i = x := ⟨_, rfl⟩
  rw [hdd] at d1 d2 d3 d4
  simp only at hle hpos hun d1 d2 d3 d4
  subst d1
  exact ⟨r, m, u, hdd, hc, d2, d3, d4, hpos.1, by omega, hpos.2.2.1, hpos.2.2.2, hne, hun⟩

set_option maxRecDepth 100000 in
set_option maxHeartbeats 1000000 in
theorem unitsof_any (r : Nat) (w : World) :
    Calls Try.prog 73 #[.int .i32 (r : Int)] w fun e w' => e = .returned (.int .i64 (if 65536 ≤ r then 2 else 1)) ∧ w = w' := by
  by_cases h : 65536 ≤ r
  · rw [if_pos h]
    have h2 : (65536 : Int) ≤ (r : Int) := by omega
    go_enter Try.func73, Try.ntmps73
    go_wp2
    go_ret
    exact ⟨rfl, rfl⟩
  · rw [if_neg h]
    have h2 : ¬ (65536 : Int) ≤ (r : Int) := by omega
    go_enter Try.func73, Try.ntmps73
    go_wp2
    go_ret
    exact ⟨rfl, rfl⟩
theorem unitsof_u {r u : Nat} (h : 65536 ≤ r ↔ u = 2) (h1 : 1 ≤ u) (h2 : u ≤ 2) (w : World) :
    Calls Try.prog 73 #[.int .i32 (r : Int)] w fun e w' => e = .returned (.int .i64 (u : Int)) ∧ w = w' := by
  have := unitsof_any r w
  rwa [show (if 65536 ≤ r then (2 : Int) else 1) = (u : Int) by split <;> omega] at this

set_option maxRecDepth 100000 in
set_option maxHeartbeats 2000000 in
theorem punits_any (s : ByteArray) (w : World) (hs : s.size ≤ 100000) :
    Calls Try.prog 55 #[.string s] w fun e w' => e = .returned (.int .i64 (unis (sb s) : Int)) ∧ Below w.heap.size w w' := by
  obtain ⟨U, hU⟩ : ∃ U, unis (sb s) = U := ⟨_, rfl⟩
  have hUb : U ≤ 200000 := by have := unis_le (sb s); rw [sb_len] at this; omega
  rw [hU]
  obtain ⟨K, hK⟩ : ∃ K, w.heap.size = K := ⟨_, rfl⟩
  have h0 : Hid (ItS s K 0 w (w.iter s 0)) := by rw [← hK]; exact ⟨World.iter_heap w s 0, (Below.refl _ _).alloc (Nat.le_refl _) _⟩
  have HU := Lib.hid hU; have HK := Lib.hid hK
  clear hU hK
  go_enter Try.func55, Try.ntmps55
  go_wp2
  rw [HK.out]
  go_loopw [3] (fun t wr => ∃ (n i : Nat), i ≤ s.size ∧ n ≤ U ∧ t = .int .i64 (n : Int) ∧ Hid (n + unis ((sb s).drop i) = U) ∧ Hid (ItS s K i w wr)) (fun _ wr => s.size - posOf wr K)
  case atStart => exact ⟨0, 0, by omega, by omega, rfl, Lib.hid (by rw [List.drop_zero, Nat.zero_add]; exact HU.out), h0⟩
  case round =>
    obtain ⟨n, i, hi, hnU, rfl, HI, HIT⟩ := hrel
    have hpo := HIT.out.posOf
    by_cases hlt : i < s.size
    · have hnx := fun ty => run_next_any_at (P := Try.prog) wr K s i ty HIT.out.1 hlt
      obtain ⟨r, b, u, hdd, _, d2, _, _, hb1, hb2, hu1, hu2, _, hun⟩ := chr_at s i hlt
      have hI := HI.out
      rw [hun] at hI
      have HUN : Hid (n + u + unis ((sb s).drop (i + b)) = U) := Lib.hid (by omega)
      have hnu : n + u ≤ U := by omega
      rw [hdd] at hnx
      simp only at hnx
      have CW := Lib.hid (fun W => unitsof_u d2 hu1 hu2 W)
      clear hdd hun hI d2
      go_wp2_with fail
      refine (CW.out _).mono ?_
      rintro e w' ⟨rfl, rfl⟩
      have H2 := Lib.hid (HIT.out.next (pos' := i + b))
      have hp2 := H2.out.posOf
      go_wp2
      go_roundw
      case rel => exact ⟨n + u, i + b, by omega, by omega, by go_num, HUN, H2⟩
      case measure => rw [hp2, hpo]; omega
    · have hnx := fun ty => run_next_end_at (P := Try.prog) wr K s i ty HIT.out.1 hlt
      have hfin : n = U := by
        have := HI.out
        rw [List.drop_eq_nil_of_le (by rw [sb_len]; omega), unis_nil] at this; omega
      subst hfin
      go_wp2
      go_ret
      exact ⟨rfl, by rw [HK.out]; exact HIT.out.2⟩

theorem lnsF_skip {Z : List Int} {i : Nat} (n : Nat) (hn : i + n ≤ Z.length) (h : ∀ j, j < n → ab Z (i + j) ≠ 10) : lnsF i (Z.drop i) = lnsF (i + n) (Z.drop (i + n)) := by
  induction n with
  | zero => rfl
  | succ n ih => rw [ih (by omega) (fun j hj => h j (by omega)), drop_ab (Z := Z) (i := i + n) (by omega), lnsF, if_neg (h n (by omega))]; rfl
/-- The iterator and a row of the call's own. -/
def LnS (s : ByteArray) (K P i : Nat) (w wr : World) (ov : Value) (pre : List Int) : Prop := wr.heap[K]? = some (.stringIter s i) ∧ P ≤ K ∧ OutZ P w wr ov pre
theorem own_ne {wr : World} {e : TypeId} {P n K : Nat} {ov : Value} {xs : List Value} {s : ByteArray} {i : Nat} (h : wr.ownsRow P e 1 ov n xs) (hk : wr.heap[K]? = some (.stringIter s i)) : ∀ g, ov.ownBlock = some g → g ≠ K := by
  intro g hg e
  rcases h.2 with ⟨rfl, _⟩ | ⟨g', cap, cur, rfl, _, hgg, _⟩
  · simp [Value.ownBlock] at hg
  · simp [Value.ownBlock] at hg
    rw [hg, e, hk] at hgg
    cases hgg
theorem LnS.next {s : ByteArray} {K P i i' : Nat} {w wr : World} {ov : Value} {pre : List Int} (h : LnS s K P i w wr ov pre) : LnS s K P i' w (wr.iterAt K s i') ov pre := by
  obtain ⟨h1, h2, h3, h4⟩ := h
  exact ⟨iterAt_heap wr K s i i' h1, h2, own_same h3 (fun g hg => iterAt_other _ _ _ _ _ (own_ne h3 h1 g hg)), below_iterAt h4 h2 _ _⟩
theorem LnS.push {s : ByteArray} {K P i k : Nat} {w wr w3 : World} {ov v' : Value} {pre E : List Int} {tmp : Obj} (h : LnS s K P i w wr ov pre) (hown3 : w3.ownsRow P 3 1 v' k (pre.map (Value.int .i64) ++ E.map (Value.int .i64))) (hg : (wr.alloc tmp).grownBy w3 ov.ownBlock) : LnS s K P i w w3 v' (pre ++ E) := by
  obtain ⟨h1, h2, h3⟩ := h
  have hK : K < wr.heap.size := (Array.getElem?_eq_some_iff.1 h1).1
  refine ⟨?_, h2, outz_step1 h3 (by omega) hown3 hg⟩
  rw [hg.block K (by simp; omega) (fun e => own_ne h3.1 h1 K e.symm rfl), Below.heap_alloc wr _ K hK]
  exact h1

set_option maxRecDepth 100000 in
set_option maxHeartbeats 1000000 in
theorem plines_any (s : ByteArray) (w : World) (hs : s.size ≤ 100000) :
    Calls Try.prog 83 #[.string s] w (NewRow .i64 3 w (lns (sb s))) := by
  obtain ⟨i3, hi3, hy0, hy1, hy2⟩ := info_parts info3
  obtain ⟨P, hP⟩ : ∃ P, w.heap.size = P := ⟨_, rfl⟩
  obtain ⟨Q, hQ⟩ : ∃ Q, lns (sb s) = Q := ⟨_, rfl⟩
  have hQl : Q.length ≤ 100001 := by have := lnsF_len 0 (sb s); rw [sb_len] at this; rw [← hQ]; simp [lns]; omega
  have hq0 : Q = [0] ++ lnsF 0 ((sb s).drop 0) := by rw [← hQ, List.drop_zero]; rfl
  obtain ⟨W1, hW1⟩ : ∃ W, w.alloc (.cells #[.int .i64 0] 3) = W := ⟨_, rfl⟩
  have hs1 : W1.heap.size = P + 1 := by rw [← hW1, ← hP]; simp
  rw [hQ]
  have H0 : Hid (LnS s (P + 1) P 0 w (W1.iter s 0) (.slice (some ⟨P, 0, none⟩) 1 1) [0]) := by
    have h1 : W1.ownsRow P 3 1 (.slice (some ⟨P, 0, none⟩) 1 1) 1 ([0].map (Value.int .i64)) := by rw [← hW1, ← hP]; exact own_litZ w 0
    have h2 : Below P w W1 := by rw [← hW1, ← hP]; exact (Below.refl _ _).alloc (Nat.le_refl _) _
    refine ⟨by rw [← hs1]; exact World.iter_heap W1 s 0, by omega, own_same h1 (fun g hg => Below.heap_alloc W1 _ g (h1.lt g hg).2), h2.alloc (by omega) _⟩
  have HP := Lib.hid hP; have HQ := Lib.hid hQ; have HQ0 := Lib.hid hq0; have HW := Lib.hid hW1; have HS1 := Lib.hid hs1
  clear hP hQ hq0 hW1 hs1
  go_enter Try.func83, Try.ntmps83
  go_wp2
  rw [show w.alloc (.cells #[.int .i64 0] 3) = W1 from HW.out, HP.out]
  go_loopw [3] (fun o wr => ∃ (i : Nat) (ov : Value) (pre : List Int), i ≤ s.size ∧ o = ov ∧ Hid (Q = pre ++ lnsF i ((sb s).drop i)) ∧ Hid (LnS s (P + 1) P i w wr ov pre)) (fun _ wr => s.size - posOf wr (P + 1))
  case atStart => exact ⟨0, _, [0], by omega, rfl, HQ0, H0⟩
  case round =>
    obtain ⟨i, ov, pre, hi, rfl, HI, HR⟩ := hrel
    have hpo := posOf_of HR.out.1
    by_cases hlt : i < s.size
    · have hnx := fun ty => run_next_any_at (P := Try.prog) wr (P + 1) s i ty HR.out.1 hlt
      obtain ⟨r, b, u, hdd, hc, _, d3, _, hb1, hb2, _, _, _, _⟩ := chr_at s i hlt
      have HRb := Lib.hid (HR.out.next (i' := i + b))
      have hp2 := posOf_of HRb.out.1
      rw [hdd] at hnx
      simp only at hnx
      have hI := HI.out
      by_cases h10 : r = 10
      · have ha := d3.1 h10
        have hb1' : b = 1 := by have := chr_ascii (Z := (sb s).drop i) (by rw [drop_zero_ab, ha]; decide); rw [hc] at this; exact congrArg Prod.fst this
        subst hb1' h10
        have HI2 : Hid (Q = (pre ++ [((i + 1 : Nat) : Int)]) ++ lnsF (i + 1) ((sb s).drop (i + 1))) := Lib.hid (by rw [hI, drop_ab (Z := sb s) (i := i) (by rw [sb_len]; exact hlt), lnsF, if_pos ha]; simp)
        have hown := HRb.out.2.2.1
        obtain ⟨N, hN⟩ : ∃ N, pre.length = N := ⟨_, rfl⟩
        rw [hN] at hown
        have hNl : N ≤ 100001 := by have h1 := congrArg List.length HI.out; rw [List.length_append] at h1; omega
        have HO := Lib.hid hown
        obtain ⟨V, hV⟩ : ∃ V, wr.iterAt (P + 1) s (i + 1) = V := ⟨_, rfl⟩
        rw [hV] at hnx HO HRb
        have hPV : P ≤ V.heap.size := by have := HRb.out.2.2.2.size; have := HP.out; omega
        clear hdd hc d3 hI ha hown hN hV hp2
        go_wp2_with (at_builtin; refine wpList_append_own _ rfl _ _ 23 rfl P 3 i3 (.int .i64 0) 1 8 Try.underlying23 hi3 hy0 hy1 hy2 rfl (by decide) u3 N (pre.map (Value.int .i64)) rfl (HO.out.alloc _) ⟨V.heap.size, 0, none⟩ 1 1 [.int .i64 ((i : Int) + 1)] rfl rfl (cell_one_new _ _ _) (fun x hx => by simp at hx; subst hx; rfl) (by unfold maxLen; omega) (by omega) (by simp; omega) ?_; intro v' w3 hown3 hgrow3 _; obtain ⟨A3, k3, rfl⟩ := own_slice hown3)
        have H3 : Hid (LnS s (P + 1) P (i + 1) w w3 (.slice A3 (N + 1) k3) (pre ++ [((i + 1 : Nat) : Int)])) := LnS.push (E := [((i + 1 : Nat) : Int)]) HRb.out (by push_cast; exact hown3) hgrow3
        have hp3 := posOf_of H3.out.1
        clear hown3 hgrow3
        go_wp2
        go_roundw
        case rel => exact ⟨i + 1, _, _, by omega, rfl, HI2, H3⟩
        case measure => rw [hp3, hpo]; omega
      · have hb10 : ((r : Int) == 10) = false := by simp; omega
        have hn10 : ab (sb s) i ≠ 10 := fun e => h10 (d3.2 e)
        have HI2 : Hid (Q = pre ++ lnsF (i + b) ((sb s).drop (i + b))) := Lib.hid (by
          rw [← lnsF_skip b (by rw [sb_len]; omega) (fun j hj => chr_no10 hn10 j (by rw [hc]; exact hj))]; exact hI)
        clear hdd hc d3 hI h10 hn10
        go_wp2
        go_roundw
        case rel => exact ⟨i + b, _, _, by omega, rfl, HI2, HRb⟩
        case measure => rw [hp2, hpo]; omega
    · have hnx := fun ty => run_next_end_at (P := Try.prog) wr (P + 1) s i ty HR.out.1 hlt
      have hfin : Q = pre := by
        have := HI.out
        rwa [List.drop_eq_nil_of_le (by rw [sb_len]; omega), lnsF, List.append_nil] at this
      subst hfin
      go_wp2
      go_ret
      exact ⟨u3, rfl, by rw [HP.out]; exact HR.out.2.2.1, by rw [HP.out]; exact HR.out.2.2.2⟩

/-- What skip returns: the bytes before unit x, and whether whole characters lead there. -/
def SkipSpec (Z : List Int) (x : Nat) (n : Nat) (b : Bool) : Prop := n ≤ Z.length ∧ (b = true → Bord Z n x) ∧ (b = false → ¬ ∃ j, Bord Z j x)
set_option maxRecDepth 100000 in
set_option maxHeartbeats 2000000 in
theorem skip_any (s : ByteArray) (x : Nat) (w : World) (hs : s.size ≤ 100000) (hx : x ≤ 9223372036854775807) :
    Calls Try.prog 85 #[.string s, .int .i64 (x : Int)] w fun e w' => ∃ (n : Nat) (b : Bool), e = .returned (.tuple #[.int .i64 (n : Int), .bool b]) ∧ SkipSpec (sb s) x n b ∧ Below w.heap.size w w' := by
  obtain ⟨K, hK⟩ : ∃ K, w.heap.size = K := ⟨_, rfl⟩
  have h0 : Hid (ItS s K 0 w (w.iter s 0)) := by rw [← hK]; exact ⟨World.iter_heap w s 0, (Below.refl _ _).alloc (Nat.le_refl _) _⟩
  have HK := Lib.hid hK
  clear hK
  go_enter Try.func85, Try.ntmps85
  go_wp2
  rw [HK.out]
  go_loopw [1] (fun t wr => ∃ (n i : Nat), i ≤ s.size ∧ t = .int .i64 ((x : Int) - (n : Int)) ∧ n ≤ x + 1 ∧ n ≤ 200000 ∧ Hid (Bord (sb s) i n) ∧ Hid (∀ j m, Bord (sb s) j m → j < i → m < x) ∧ Hid (ItS s K i w wr)) (fun _ wr => s.size - posOf wr K)
  case atStart => exact ⟨0, 0, by omega, by simp, by omega, by omega, Bord.zero _, Lib.hid (fun j m _ h => by omega), h0⟩
  case round =>
    obtain ⟨n, i, hi, rfl, hn, hnb, HB, HL, HIT⟩ := hrel
    have hpo := HIT.out.posOf
    by_cases hlt : i < s.size
    · have hnx := fun ty => run_next_any_at (P := Try.prog) wr K s i ty HIT.out.1 hlt
      obtain ⟨r, b, u, hdd, hc, d2, _, _, hb1, hb2, hu1, hu2, hne, _⟩ := chr_at s i hlt
      have H2 := Lib.hid (HIT.out.next (pos' := i + b))
      have hp2 := H2.out.posOf
      rw [hdd] at hnx
      simp only at hnx
      have hsn := HB.out.snoc hne
      rw [hc] at hsn
      simp only at hsn
      have hub : n + u ≤ 200000 := by
        have h1 := hsn.unis_take
        have h2 := unis_le ((sb s).take (i + b))
        rw [List.length_take, sb_len] at h2
        omega
      have hnx3 : ∀ j m, Bord (sb s) j m → i < j → i + b ≤ j := by
        intro j m hj h
        have := HB.out.next hj h
        rwa [hc] at this
      have HNX := Lib.hid hnx3
      have HSN := Lib.hid hsn
      have CW := Lib.hid (fun W => unitsof_u d2 hu1 hu2 W)
      clear hdd hc hne d2 hsn hnx3
      have hret : ∀ b', (b' = decide (n = x)) → ¬ n < x → SkipSpec (sb s) x i b' := by
        rintro b' rfl hge
        refine ⟨by rw [sb_len]; exact hi, fun h => ?_, fun h => ?_⟩
        · have : n = x := of_decide_eq_true h
          rw [← this]; exact HB.out
        · have hne : n ≠ x := of_decide_eq_false h
          rintro ⟨j, hj⟩
          rcases Nat.lt_trichotomy j i with h | rfl | h
          · have := HL.out j x hj h; omega
          · exact hne (HB.out.det hj)
          · have := HB.out.lt hj h; omega
      have HRET := Lib.hid hret
      clear hret
      rcases Nat.lt_trichotomy n x with hnx2 | hnx2 | hnx2
      · have g1 : ¬ (x : Int) - (n : Int) ≤ 0 := by omega
        have HL2 : Hid (∀ j m, Bord (sb s) j m → j < i + b → m < x) := by
          intro j m hj hlt2
          rcases Nat.lt_trichotomy j i with h | rfl | h
          · exact HL.out j m hj h
          · rw [hj.det HB.out]; exact hnx2
          · have := HNX.out j m hj h; omega
        go_wp2_with fail
        refine (CW.out _).mono ?_
        rintro e w' ⟨rfl, rfl⟩
        go_wp2
        go_roundw
        case rel => exact ⟨n + u, i + b, by omega, by go_num, by omega, by omega, HSN, HL2, H2⟩
        case measure => rw [hp2, hpo]; omega
      · have g1 : (x : Int) - (n : Int) ≤ 0 := by omega
        have hq : ((x : Int) - (n : Int) == 0) = true := by simp; omega
        have HS := Lib.hid (HRET.out true (by rw [decide_eq_true hnx2]) (by omega))
        go_wp2
        go_ret2
        exact ⟨i, true, rfl, HS.out, by rw [HK.out]; exact H2.out.2⟩
      · have g1 : (x : Int) - (n : Int) ≤ 0 := by omega
        have hq : ((x : Int) - (n : Int) == 0) = false := by simp; omega
        have HS := Lib.hid (HRET.out false (by rw [decide_eq_false (by omega)]) (by omega))
        go_wp2
        go_ret2
        exact ⟨i, false, rfl, HS.out, by rw [HK.out]; exact H2.out.2⟩
    · have hnx := fun ty => run_next_end_at (P := Try.prog) wr K s i ty HIT.out.1 hlt
      have hie : i = s.size := by omega
      subst hie
      have hspec : SkipSpec (sb s) x s.size (decide (n = x)) := by
        refine ⟨by rw [sb_len]; exact Nat.le_refl _, fun h => ?_, fun h => ?_⟩
        · have : n = x := of_decide_eq_true h
          rw [← this]; exact HB.out
        · have hne : n ≠ x := of_decide_eq_false h
          rintro ⟨j, hj⟩
          rcases Nat.lt_trichotomy j s.size with h | rfl | h
          · have := HL.out j x hj h; omega
          · exact hne (HB.out.det hj)
          · have := hj.le; rw [sb_len] at this; omega
      have HS := Lib.hid hspec
      have hq : ((x : Int) - (n : Int) == 0) = decide (n = x) := by
        by_cases h : n = x
        · rw [decide_eq_true h]; simp; omega
        · rw [decide_eq_false h]; simp; omega
      clear hspec
      go_wp2
      go_ret2
      exact ⟨s.size, decide (n = x), by first | rfl | rw [hq], HS.out, by rw [HK.out]; exact HIT.out.2⟩

set_option maxRecDepth 100000 in
set_option maxHeartbeats 2000000 in
theorem begins_any (s : ByteArray) (x : Nat) (w : World) (hs : s.size ≤ 100000) (hx : x ≤ s.size) (r : Bool) (hr : r = decide ((x : Int) ∈ bordI (sb s))) :
    Calls Try.prog 52 #[.string s, .int .i64 (x : Int)] w fun e w' => e = .returned (.bool r) ∧ Below w.heap.size w w' := by
  obtain ⟨K, hK⟩ : ∃ K, w.heap.size = K := ⟨_, rfl⟩
  have h0 : Hid (ItS s K 0 w (w.iter s 0)) := by rw [← hK]; exact ⟨World.iter_heap w s 0, (Below.refl _ _).alloc (Nat.le_refl _) _⟩
  have HK := Lib.hid hK
  have HR := Lib.hid hr
  clear hK hr
  go_enter Try.func52, Try.ntmps52
  go_wp2
  rw [HK.out]
  go_loopw [] (fun wr => ∃ (n i : Nat), i ≤ s.size ∧ Hid (Bord (sb s) i n) ∧ Hid (∀ j m, Bord (sb s) j m → j < i → j ≠ x) ∧ Hid (ItS s K i w wr)) (fun wr => s.size - posOf wr K)
  case atStart => exact ⟨0, 0, by omega, Bord.zero _, Lib.hid (fun j m _ h => by omega), h0⟩
  case round =>
    obtain ⟨n, i, hi, HB, HL, HIT⟩ := hrel
    have hpo := HIT.out.posOf
    by_cases hlt : i < s.size
    · have hnx := fun ty => run_next_any_at (P := Try.prog) wr K s i ty HIT.out.1 hlt
      obtain ⟨c, b, u, hdd, hc, d2, _, _, hb1, hb2, hu1, hu2, hne, _⟩ := chr_at s i hlt
      have H2 := Lib.hid (HIT.out.next (pos' := i + b))
      have hp2 := H2.out.posOf
      rw [hdd] at hnx
      simp only at hnx
      have hsn := HB.out.snoc hne
      rw [hc] at hsn
      simp only at hsn
      have hnx3 : ∀ j m, Bord (sb s) j m → i < j → i + b ≤ j := by
        intro j m hj h
        have := HB.out.next hj h
        rwa [hc] at this
      have HNX := Lib.hid hnx3
      have HSN := Lib.hid hsn
      clear hdd hc hne d2 hsn hnx3
      by_cases hix : i = x
      · have hq : ((i : Int) == (x : Int)) = true := by simp; omega
        have hrt : r = true := by
          rw [HR.out]
          exact decide_eq_true (mem_bordI.2 ⟨n, by rw [← hix]; exact HB.out⟩)
        have HRT := Lib.hid hrt
        clear hrt hix
        go_wp2
        go_ret
        exact ⟨by rw [HRT.out]; rfl, by rw [HK.out]; exact H2.out.2⟩
      · have hq : ((i : Int) == (x : Int)) = false := by simp; omega
        have HL2 : Hid (∀ j m, Bord (sb s) j m → j < i + b → j ≠ x) := by
          intro j m hj hlt2
          rcases Nat.lt_trichotomy j i with h | rfl | h
          · exact HL.out j m hj h
          · exact hix
          · have := HNX.out j m hj h; omega
        go_wp2
        go_roundw
        case rel => exact ⟨n + u, i + b, by omega, HSN, HL2, H2⟩
        case measure => rw [hp2, hpo]; omega
    · have hnx := fun ty => run_next_end_at (P := Try.prog) wr K s i ty HIT.out.1 hlt
      have hie : i = s.size := by omega
      subst hie
      have hq : ((x : Int) == (s.size : Int)) = r := by
        rw [HR.out]
        by_cases h : x = s.size
        · rw [decide_eq_true (mem_bordI.2 ⟨n, by rw [h]; exact HB.out⟩)]; simp; omega
        · rw [decide_eq_false (fun h2 => by obtain ⟨m, hm⟩ := mem_bordI.1 h2; exact HL.out x m hm (by omega) rfl)]; simp; omega
      have HQ := Lib.hid hq
      clear hq
      go_wp2
      go_ret
      exact ⟨by rw [HQ.out]; rfl, by rw [HK.out]; exact HIT.out.2⟩

end Go.Proofs.Ytfhpllcdlejfjaa
