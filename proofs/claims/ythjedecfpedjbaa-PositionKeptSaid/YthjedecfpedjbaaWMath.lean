/- The mathematics of varints: writing, reading, one encoding, prefixes. It has no conditions. -/
import Derived.Test.YthjedecfpedjbaaBase
namespace Go.Proofs.Ythjedecfpedjbaa
open Go.RowKit
set_option linter.unusedVariables false

/-- The varint of a number. -/
def vU (n : Nat) : List Int := if n < 128 then [(n : Int)] else ((n % 128 + 128 : Nat) : Int) :: vU (n / 128)
termination_by n
decreasing_by omega
theorem vU_lo {n : Nat} (h : n < 128) : vU n = [(n : Int)] := by rw [vU, if_pos h]
theorem vU_hi {n : Nat} (h : ¬ n < 128) : vU n = ((n % 128 + 128 : Nat) : Int) :: vU (n / 128) := by rw [vU, if_neg h]
theorem vU_byt (n : Nat) : Byt (vU n) := by
  induction n using Nat.strongRecOn with
  | _ n ih =>
    by_cases h : n < 128
    · rw [vU_lo h]; intro c hc; simp at hc; omega
    · rw [vU_hi h]; intro c hc
      rcases List.mem_cons.1 hc with rfl | hc
      · omega
      · exact ih _ (by omega) c hc
theorem vU_pos (n : Nat) : 1 ≤ (vU n).length := by
  by_cases h : n < 128
  · rw [vU_lo h]; simp
  · rw [vU_hi h]; simp
theorem vU_len (n k : Nat) (h : n < 128 ^ (k + 1)) : (vU n).length ≤ k + 1 := by
  induction k generalizing n with
  | zero => rw [vU_lo (by simpa using h)]; simp
  | succ k ih =>
    by_cases h1 : n < 128
    · rw [vU_lo h1]; simp
    · rw [vU_hi h1]
      have := ih (n / 128) (by rw [Nat.div_lt_iff_lt_mul (by decide)]; rw [Nat.pow_succ] at h; exact h)
      simp; omega
theorem vU_len10 {n : Nat} (h : n < 18446744073709551616) : (vU n).length ≤ 10 := by
  have h2 : (128 : Nat) ^ 10 = 1180591620717411303424 := by decide
  exact vU_len n 9 (by omega)

/-- Reading a varint: group i is next, n has been collected. Errors: 3 (more is wanted), 2 (no varint). -/
def goU (i n : Nat) : List Int → Except Int (Nat × List Int)
  | [] => .error 3
  | c :: t => if (i = 9 ∧ 1 < c) ∨ (0 < i ∧ c = 0) then .error 2 else if c < 128 then .ok (n + c.toNat * 128 ^ i, t) else goU (i + 1) (n + (c.toNat - 128) * 128 ^ i) t

theorem pow9 : (128 : Nat) ^ 9 = 9223372036854775808 := by decide
theorem pow_le9 {i : Nat} (h : 128 ^ i < 18446744073709551616) : i ≤ 9 := by
  rcases Nat.lt_or_ge 9 i with h1 | h1
  · have h2 : (128 : Nat) ^ 10 ≤ 128 ^ i := Nat.pow_le_pow_right (by decide) h1
    have h3 : (128 : Nat) ^ 10 = 1180591620717411303424 := by decide
    omega
  · exact h1

theorem goU_write (m : Nat) : ∀ (i n : Nat) (r : List Int), m * 128 ^ i < 18446744073709551616 → (0 < i → 0 < m) → goU i n (vU m ++ r) = .ok (n + m * 128 ^ i, r) := by
  induction m using Nat.strongRecOn with
  | _ m ih =>
    intro i n r hm hi
    by_cases h : m < 128
    · rw [vU_lo h]
      simp only [List.cons_append, List.nil_append, goU]
      rw [if_neg, if_pos (by omega)]
      · simp
      · rintro (⟨rfl, h1⟩ | ⟨h1, h2⟩)
        · rw [pow9] at hm; omega
        · have := hi h1; omega
    · have h128 : 0 < 128 ^ i := Nat.pow_pos (by decide)
      have hle : m / 128 * 128 ^ (i + 1) ≤ m * 128 ^ i := by
        rw [Nat.pow_succ, Nat.mul_comm (128 ^ i) 128, ← Nat.mul_assoc]
        exact Nat.mul_le_mul_right _ (Nat.div_mul_le_self m 128)
      rw [vU_hi h]
      simp only [List.cons_append, goU]
      rw [if_neg, if_neg (by omega), ih (m / 128) (by omega) (i + 1) _ r (by omega) (fun _ => by omega)]
      · congr 2
        rw [show ((m % 128 + 128 : Nat) : Int).toNat - 128 = m % 128 by omega, Nat.pow_succ]
        have e : m * 128 ^ i = (m % 128) * 128 ^ i + m / 128 * (128 ^ i * 128) := by
          conv => lhs; rw [← Nat.mod_add_div m 128]
          rw [Nat.add_mul, Nat.mul_comm 128 (m / 128), Nat.mul_assoc, Nat.mul_comm 128]
        omega
      · rintro (⟨rfl, h1⟩ | ⟨h1, h2⟩)
        · rw [pow9] at hm; omega
        · omega

theorem goU_read : ∀ (zs : List Int) (i n m : Nat) (r : List Int), Byt zs → i ≤ 9 → goU i n zs = .ok (m, r) →
    ∃ q, m = n + q * 128 ^ i ∧ zs = vU q ++ r ∧ (0 < i → 0 < q) ∧ q * 128 ^ i < 18446744073709551616
  | [], i, n, m, r, _, _, h => by simp [goU] at h
  | c :: t, i, n, m, r, hz, hi, h => by
    obtain ⟨hc0, hc1, ht⟩ := hz.cons
    have hp : (128 : Nat) ^ i ≤ 128 ^ 9 := Nat.pow_le_pow_right (by decide) hi
    rw [pow9] at hp
    simp only [goU] at h
    split at h
    · cases h
    · rename_i hn
      split at h
      · rename_i hlt
        simp only [Except.ok.injEq, Prod.mk.injEq] at h
        obtain ⟨rfl, rfl⟩ := h
        refine ⟨c.toNat, rfl, ?_, ?_, ?_⟩
        · rw [vU_lo (by omega)]; simp; omega
        · intro h0
          have : ¬ c = 0 := fun e => hn (.inr ⟨h0, e⟩)
          omega
        · rcases Nat.lt_or_ge i 9 with h9 | h9
          · have hp8 : (128 : Nat) ^ i ≤ 128 ^ 8 := Nat.pow_le_pow_right (by decide) (by omega)
            have : (128 : Nat) ^ 8 = 72057594037927936 := by decide
            have h2 : c.toNat * 128 ^ i ≤ 127 * 128 ^ i := Nat.mul_le_mul_right _ (by omega)
            omega
          · obtain rfl : i = 9 := by omega
            have : ¬ 1 < c := fun e => hn (.inl ⟨rfl, e⟩)
            rw [pow9]; omega
      · rename_i hge
        rcases Nat.lt_or_ge i 9 with h9 | h9
        · obtain ⟨q, hq, ht', hq0, hql⟩ := goU_read t (i + 1) _ m r ht (by omega) h
          have hq1 := hq0 (by omega)
          have hb : c.toNat - 128 ≤ 127 := by omega
          have hlow : (c.toNat - 128) * 128 ^ i < 128 ^ (i + 1) := by
            rw [Nat.pow_succ, Nat.mul_comm (128 ^ i) 128]; exact Nat.mul_lt_mul_of_pos_right (by omega) (Nat.pow_pos (by decide))
          have e : (c.toNat - 128 + 128 * q) * 128 ^ i = (c.toNat - 128) * 128 ^ i + q * 128 ^ (i + 1) := by
            rw [Nat.add_mul, Nat.pow_succ, Nat.mul_comm 128 q, Nat.mul_assoc, Nat.mul_comm 128]
          refine ⟨c.toNat - 128 + 128 * q, ?_, ?_, fun _ => by omega, ?_⟩
          · rw [e]; omega
          · rw [vU_hi (by omega), ht', show (c.toNat - 128 + 128 * q) % 128 = c.toNat - 128 by omega, show (c.toNat - 128 + 128 * q) / 128 = q by omega]
            simp; omega
          · rw [e]
            have h10 : (128 : Nat) ^ (i + 1) ≤ 128 ^ 9 := Nat.pow_le_pow_right (by decide) (by omega)
            rw [pow9] at h10
            -- q·128^(i+1) is a multiple of 128^(i+1), which divides 2^64, or i + 1 = 9
            rcases Nat.lt_or_ge (q * 128 ^ (i + 1) + 128 ^ (i + 1)) 18446744073709551617 with h3 | h3
            · omega
            · exfalso
              have hdiv : ∃ d, 18446744073709551616 = d * 128 ^ (i + 1) := by
                have : i + 1 = 1 ∨ i + 1 = 2 ∨ i + 1 = 3 ∨ i + 1 = 4 ∨ i + 1 = 5 ∨ i + 1 = 6 ∨ i + 1 = 7 ∨ i + 1 = 8 ∨ i + 1 = 9 := by omega
                rcases this with h | h | h | h | h | h | h | h | h <;> rw [h]
                · exact ⟨2 ^ 57, by decide⟩
                · exact ⟨2 ^ 50, by decide⟩
                · exact ⟨2 ^ 43, by decide⟩
                · exact ⟨2 ^ 36, by decide⟩
                · exact ⟨2 ^ 29, by decide⟩
                · exact ⟨2 ^ 22, by decide⟩
                · exact ⟨2 ^ 15, by decide⟩
                · exact ⟨2 ^ 8, by decide⟩
                · exact ⟨2, by decide⟩
              obtain ⟨d, hd⟩ := hdiv
              have hpos : 0 < (128 : Nat) ^ (i + 1) := Nat.pow_pos (by decide)
              have h4 : q < d := by
                rcases Nat.lt_or_ge q d with h5 | h5
                · exact h5
                · have := Nat.mul_le_mul_right (128 ^ (i + 1)) h5; omega
              have h6 : (q + 1) * 128 ^ (i + 1) ≤ d * 128 ^ (i + 1) := Nat.mul_le_mul_right _ h4
              rw [Nat.add_mul, Nat.one_mul] at h6
              omega
        · obtain rfl : i = 9 := by omega
          exact absurd (.inl ⟨rfl, by omega⟩) hn

theorem goU_prefix (m : Nat) : ∀ (i n : Nat) (p s : List Int), m * 128 ^ i < 18446744073709551616 → (0 < i → 0 < m) → vU m = p ++ s → s ≠ [] → goU i n p = .error 3 := by
  induction m using Nat.strongRecOn with
  | _ m ih =>
    intro i n p s hm hi hv hs
    cases p with
    | nil => rfl
    | cons c t =>
      by_cases h : m < 128
      · rw [vU_lo h] at hv
        simp at hv
        exact absurd hv.2.2 hs
      · have h128 : 0 < 128 ^ i := Nat.pow_pos (by decide)
        have hle : m / 128 * 128 ^ (i + 1) ≤ m * 128 ^ i := by
          rw [Nat.pow_succ, Nat.mul_comm (128 ^ i) 128, ← Nat.mul_assoc]
          exact Nat.mul_le_mul_right _ (Nat.div_mul_le_self m 128)
        rw [vU_hi h] at hv
        simp only [List.cons_append, List.cons.injEq] at hv
        obtain ⟨rfl, hv⟩ := hv
        simp only [goU]
        rw [if_neg, if_neg (by omega), ih (m / 128) (by omega) (i + 1) _ t s (by omega) (fun _ => by omega) hv hs]
        rintro (⟨rfl, h1⟩ | ⟨h1, h2⟩)
        · rw [pow9] at hm; omega
        · omega

theorem goU_err : ∀ (zs : List Int) (i n : Nat) (e : Int), goU i n zs = .error e → e = 2 ∨ e = 3
  | [], i, n, e, h => by simp [goU] at h; omega
  | c :: t, i, n, e, h => by
    simp only [goU] at h
    split at h
    · simp only [Except.error.injEq] at h; omega
    · split at h
      · cases h
      · exact goU_err t _ _ e h

/-- The state of a reader: the bytes that are left, or the recorded error. -/
inductive Rs where
  | ok (zs : List Int)
  | bad (e : Int)

def rdU : Rs → Nat × Rs
  | .bad e => (0, .bad e)
  | .ok zs => match goU 0 0 zs with
    | .ok x => (x.1, .ok x.2)
    | .error e => (0, .bad e)
theorem rdU_write {n : Nat} (h : n < 18446744073709551616) (r : List Int) : rdU (.ok (vU n ++ r)) = (n, .ok r) := by
  have := goU_write n 0 0 r (by simpa using h) (fun h => absurd h (by decide))
  simp only [rdU, this]; simp
theorem rdU_read {zs r : List Int} {n : Nat} (hz : Byt zs) (h : rdU (.ok zs) = (n, .ok r)) : zs = vU n ++ r ∧ n < 18446744073709551616 := by
  cases hg : goU 0 0 zs with
  | error e => simp [rdU, hg] at h
  | ok x =>
    obtain ⟨m, r'⟩ := x
    simp [rdU, hg] at h
    obtain ⟨rfl, rfl⟩ := h
    obtain ⟨q, hq, hzs, _, hl⟩ := goU_read zs 0 0 m r' hz (by decide) hg
    simp at hq hl
    subst hq
    exact ⟨hzs, hl⟩
theorem rdU_prefix {n : Nat} {p s : List Int} (h : n < 18446744073709551616) (hv : vU n = p ++ s) (hs : s ≠ []) : rdU (.ok p) = (0, .bad 3) := by
  simp only [rdU, goU_prefix n 0 0 p s (by simpa using h) (fun h => absurd h (by decide)) hv hs]
theorem rdU_lt {zs : List Int} (hz : Byt zs) : (rdU (.ok zs)).1 < 18446744073709551616 := by
  cases h : rdU (.ok zs) with
  | mk n st =>
    cases st with
    | ok r => exact (rdU_read hz h).2
    | bad e =>
      have : n = 0 := by
        cases hg : goU 0 0 zs with
        | error e => simp [rdU, hg] at h; omega
        | ok x => simp [rdU, hg] at h
      simp [this]

/-- Zigzag. -/
def zz (n : Int) : Nat := if n < 0 then (-(2 * n) - 1).toNat else (2 * n).toNat
def unz (z : Nat) : Int := if z % 2 = 1 then -((z / 2 : Nat) : Int) - 1 else ((z / 2 : Nat) : Int)
theorem unz_zz (n : Int) : unz (zz n) = n := by
  unfold unz zz
  split <;> split <;> omega
theorem zz_unz (z : Nat) : zz (unz z) = z := by
  unfold unz zz
  split <;> split <;> omega
theorem zz_lt {n : Int} (h1 : -9223372036854775808 ≤ n) (h2 : n ≤ 9223372036854775807) : zz n < 18446744073709551616 := by
  unfold zz; split <;> omega
theorem unz_bd {z : Nat} (h : z < 18446744073709551616) : -9223372036854775808 ≤ unz z ∧ unz z ≤ 9223372036854775807 := by
  unfold unz; split <;> omega

def rdI (st : Rs) : Int × Rs := (unz (rdU st).1, (rdU st).2)
def rdB : Rs → Bool × Rs
  | .bad e => (false, .bad e)
  | .ok [] => (false, .bad 3)
  | .ok (c :: t) => if 1 < c then (false, .bad 2) else (decide (c = 1), .ok t)
/-- A length: at most as many as bytes are left. -/
def rdN (st : Rs) : Nat × Rs :=
  match rdU st with
  | (_, .bad e) => (0, .bad e)
  | (n, .ok r) => if r.length < n then (0, .bad 3) else (n, .ok r)
/-- The state behind k elements, the k-th element, the first k elements. -/
def itS (f : Rs → Int × Rs) (st : Rs) : Nat → Rs
  | 0 => st
  | k + 1 => (f (itS f st k)).2
def itE (f : Rs → Int × Rs) (st : Rs) (k : Nat) : Int := (f (itS f st k)).1
def itL (f : Rs → Int × Rs) (st : Rs) (k : Nat) : List Int := (List.range k).map (itE f st)
theorem itL_len (f : Rs → Int × Rs) (st : Rs) (k : Nat) : (itL f st k).length = k := by simp [itL]
theorem itL_succ (f : Rs → Int × Rs) (st : Rs) (k : Nat) : itL f st (k + 1) = itL f st k ++ [itE f st k] := by simp [itL, List.range_succ]
theorem itS_front (f : Rs → Int × Rs) (st : Rs) (k : Nat) : itS f st (k + 1) = itS f (f st).2 k := by
  induction k with
  | zero => rfl
  | succ k ih => rw [itS, ih]; rfl
theorem itL_front (f : Rs → Int × Rs) (st : Rs) (k : Nat) : itL f st (k + 1) = (f st).1 :: itL f (f st).2 k := by
  induction k with
  | zero => simp [itL, itE, itS]
  | succ k ih =>
    rw [itL_succ, ih, itL_succ f (f st).2 k]
    simp [itE, itS_front]
def rdList (f : Rs → Int × Rs) (st : Rs) : List Int × Rs :=
  match rdN st with
  | (_, .bad e) => ([], .bad e)
  | (n, .ok r) => match itS f (.ok r) n with
    | .bad e => ([], .bad e)
    | .ok r' => (itL f (.ok r) n, .ok r')
def oct : Rs → Int × Rs
  | .bad e => (0, .bad e)
  | .ok [] => (0, .bad 3)
  | .ok (c :: t) => (c, .ok t)
theorem oct_it (r : List Int) : ∀ n, n ≤ r.length → itS oct (.ok r) n = .ok (r.drop n) ∧ itL oct (.ok r) n = r.take n := by
  induction r with
  | nil => intro n h; obtain rfl : n = 0 := by simpa using h
           exact ⟨rfl, rfl⟩
  | cons c t ih =>
    intro n h
    cases n with
    | zero => exact ⟨rfl, rfl⟩
    | succ n =>
      obtain ⟨h1, h2⟩ := ih n (by simpa using h)
      rw [itS_front, itL_front]
      exact ⟨h1, by simp [oct, h2]⟩
def rdRaw (st : Rs) : List Int × Rs := rdList oct st
def rdInts (st : Rs) : List Int × Rs := rdList rdI st
/-- The value and the state of Raw. -/
theorem rdRaw_eq (st : Rs) : rdRaw st = match rdN st with
    | (_, .bad e) => ([], .bad e)
    | (n, .ok r) => (r.take n, .ok (r.drop n)) := by
  unfold rdRaw rdList
  have hn : ∀ n r, rdN st = (n, .ok r) → n ≤ r.length := by
    intro n r h
    unfold rdN at h
    split at h
    · cases h
    · split at h
      · cases h
      · cases h; omega
  generalize rdN st = x at hn
  obtain ⟨n, s⟩ := x
  cases s with
  | bad e => rfl
  | ok r =>
    obtain ⟨h1, h2⟩ := oct_it r n (hn n r rfl)
    simp only [h1, h2]
def rdEnd : Rs → Int
  | .bad e => e
  | .ok [] => 0
  | .ok (_ :: _) => 2

end Go.Proofs.Ythjedecfpedjbaa
