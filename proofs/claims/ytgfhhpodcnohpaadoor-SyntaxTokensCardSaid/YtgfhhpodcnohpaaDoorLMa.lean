/- Tokens: the mathematics of the lexer. It has no conditions. -/
import Derived.Test.YtgfhhpodcnohpaaDoorBase
namespace Go.Proofs.YtgfhhpodcnohpaaDoor
set_option linter.unusedVariables false

def isSp (c : Int) : Bool := c == 9 || c == 10 || c == 13 || c == 32
def isLo (c : Int) : Bool := decide (97 ≤ c ∧ c ≤ 122)
def isUp (c : Int) : Bool := decide (65 ≤ c ∧ c ≤ 90)
def isDi (c : Int) : Bool := decide (48 ≤ c ∧ c ≤ 57)
def coLo (c : Int) : Bool := isLo c || isDi c || c == 95
def coUp (c : Int) : Bool := isLo c || isUp c || isDi c
def noNl (c : Int) : Bool := c != 10
def noQt (c : Int) : Bool := c != 34 && c != 10
/-- How many bytes with a property there are ahead. -/
def run (p : Int → Bool) : List Int → Nat
  | [] => 0
  | c :: l => if p c then run p l + 1 else 0
theorem run_le (p : Int → Bool) : ∀ l, run p l ≤ l.length
  | [] => Nat.le_refl _
  | c :: l => by
    rw [run]
    have := run_le p l
    split <;> simp <;> omega
theorem run_isin (p : Int → Bool) : ∀ (l : List Int) (i : Nat), i < run p l → ∃ c, l[i]? = some c ∧ p c = true
  | [], i, h => by simp [run] at h
  | c :: l, 0, h => by
    rw [run] at h
    by_cases hc : p c = true
    · exact ⟨c, rfl, hc⟩
    · rw [if_neg hc] at h; omega
  | c :: l, i + 1, h => by
    rw [run] at h
    by_cases hc : p c = true
    · rw [if_pos hc] at h
      exact run_isin p l i (by omega)
    · rw [if_neg hc] at h; omega
theorem run_out (p : Int → Bool) : ∀ (l : List Int) (c : Int), l[run p l]? = some c → p c = false
  | [], c, h => by simp at h
  | d :: l, c, h => by
    rw [run] at h
    by_cases hd : p d = true
    · rw [if_pos hd] at h
      exact run_out p l c (by simpa using h)
    · rw [if_neg hd] at h
      simp at h
      subst h
      simpa using hd
/-- A loop that walks over bytes with a property ends where the run does. -/
theorem run_is (p : Int → Bool) (l : List Int) (n : Nat) (h1 : ∀ i, i < n → ∃ c, l[i]? = some c ∧ p c = true) (h2 : n = l.length ∨ ∃ c, l[n]? = some c ∧ p c = false) : run p l = n := by
  have hle := run_le p l
  rcases Nat.lt_trichotomy (run p l) n with h | h | h
  · obtain ⟨c, hc, hp⟩ := h1 _ h
    rw [run_out p l c hc] at hp
    cases hp
  · exact h
  · obtain ⟨c, hc, hp⟩ := run_isin p l n h
    rcases h2 with h2 | ⟨d, hd, hq⟩
    · omega
    · rw [hd] at hc
      cases hc
      rw [hp] at hq
      cases hq

/-- The keywords. -/
def KW : List (List Int) := [[116, 121, 112, 101], [116, 97, 98, 108, 101], [107, 101, 121], [114, 101, 102], [116, 111], [99, 104, 101, 99, 107], [102, 117, 110], [112, 114, 111, 99], [108, 101, 116], [105, 110], [105, 102], [116, 104, 101, 110], [101, 108, 115, 101], [109, 97, 116, 99, 104], [105, 110, 115, 101, 114, 116], [100, 101, 108, 101, 116, 101], [97, 115], [119, 104, 101, 114, 101], [117, 112, 100, 97, 116, 101], [115, 101, 116], [119, 105, 116, 104], [97, 110, 100], [111, 114], [110, 111, 116], [116, 114, 117, 101], [102, 97, 108, 115, 101]]
/-- The symbols: those of two bytes first. -/
def SY2 : List (List Int) := [[61, 61], [33, 61], [60, 61], [60, 45], [45, 62], [43, 43]]
def SY1 : List Int := [60, 62, 61, 43, 45, 42, 40, 41, 123, 125, 91, 93, 44, 46, 58, 124, 59, 63]
def SY : List (List Int) := SY2 ++ SY1.map fun c => [c]
/-- The length of the symbol ahead, or 0. -/
def syLen : List Int → Nat
  | a :: b :: l => if [a, b] ∈ SY2 then 2 else if a ∈ SY1 then 1 else 0
  | [a] => if a ∈ SY1 then 1 else 0
  | [] => 0
/-- The length of the string ahead (a quote is the first byte), or 0. -/
def stLen (l : List Int) : Nat := if l.tail[run noQt l.tail]? = some 34 then run noQt l.tail + 2 else 0
/-- The kind and the length of the token ahead, but for Bad: then the length is 0. -/
def prop : List Int → Int × Nat
  | [] => (8, 0)
  | c :: r => if isSp c then (0, run isSp (c :: r)) else if c = 35 then (1, run noNl (c :: r)) else if isLo c then (if (c :: r).take (run coLo (c :: r)) ∈ KW then (7, run coLo (c :: r)) else (2, run coLo (c :: r)))
    else if isUp c then (3, run coUp (c :: r)) else if isDi c then (4, run isDi (c :: r)) else if c = 34 then (5, stLen (c :: r)) else (6, syLen (c :: r))
/-- A Bad that begins with no quote ends ahead. -/
def endB (l : List Int) : Bool := (l.head? == some 34) || decide (0 < (prop l).2)
def badRun : List Int → Nat
  | [] => 0
  | c :: r => if endB (c :: r) then 0 else badRun r + 1
def badLen : List Int → Nat
  | [] => 0
  | c :: r => if c = 34 then run noNl (c :: r) else badRun r + 1
/-- The kind and the length of the token ahead. -/
def fst_ (l : List Int) : Int × Nat := if 0 < (prop l).2 then prop l else (8, badLen l)

theorem badRun_le : ∀ l, badRun l ≤ l.length
  | [] => Nat.le_refl _
  | c :: r => by
    rw [badRun]
    have := badRun_le r
    split <;> simp <;> omega
theorem stLen_le (l : List Int) (h : l ≠ []) : stLen l ≤ l.length := by
  cases l with
  | nil => exact absurd rfl h
  | cons c r =>
    unfold stLen
    by_cases h1 : (c :: r).tail[run noQt (c :: r).tail]? = some 34
    · rw [if_pos h1]
      have h2 := (List.getElem?_eq_some_iff.1 h1).1
      have h3 : (c :: r).tail.length = r.length := rfl
      rw [List.length_cons]
      omega
    · rw [if_neg h1]; exact Nat.zero_le _
theorem syLen_le : ∀ l, syLen l ≤ l.length
  | [] => by simp [syLen]
  | [a] => by rw [syLen]; split <;> simp
  | a :: b :: l => by
    rw [syLen]
    split
    · simp
    · split <;> simp
theorem prop_le (l : List Int) : (prop l).2 ≤ l.length := by
  cases l with
  | nil => simp [prop]
  | cons c r =>
    rw [prop]
    split
    · exact run_le _ _
    · split
      · exact run_le _ _
      · split
        · split
          · exact run_le _ _
          · exact run_le _ _
        · split
          · exact run_le _ _
          · split
            · exact run_le _ _
            · split
              · exact stLen_le _ (by simp)
              · exact syLen_le _
theorem badLen_pos {l : List Int} (h : l ≠ []) : 0 < badLen l ∧ badLen l ≤ l.length := by
  cases l with
  | nil => exact absurd rfl h
  | cons c r =>
    rw [badLen]
    have h1 := badRun_le r
    have h2 := run_le noNl (c :: r)
    split
    · rename_i hc
      subst hc
      refine ⟨?_, h2⟩
      rw [run, if_pos (by decide)]
      omega
    · simp only [List.length_cons]; omega
/-- A token has a byte at least, and lies in the text. -/
theorem fst_pos {l : List Int} (h : l ≠ []) : 0 < (fst_ l).2 ∧ (fst_ l).2 ≤ l.length := by
  unfold fst_
  by_cases hp : 0 < (prop l).2
  · rw [if_pos hp]; exact ⟨hp, prop_le l⟩
  · rw [if_neg hp]; exact badLen_pos h
/-- The tokens of a text. -/
def lexF : Nat → List Int → Nat → List (Int × List Int × Nat)
  | 0, _, _ => []
  | f + 1, l, at_ => if l = [] then [] else ((fst_ l).1, l.take (fst_ l).2, at_) :: lexF f (l.drop (fst_ l).2) (at_ + (fst_ l).2)
theorem lexF_more : ∀ (f g : Nat) (l : List Int) (a : Nat), l.length ≤ f → l.length ≤ g → lexF f l a = lexF g l a
  | 0, g, l, a, h1, h2 => by
    have : l = [] := List.eq_nil_of_length_eq_zero (by omega)
    subst this
    cases g <;> simp [lexF]
  | f + 1, 0, l, a, h1, h2 => by
    have : l = [] := List.eq_nil_of_length_eq_zero (by omega)
    subst this
    simp [lexF]
  | f + 1, g + 1, l, a, h1, h2 => by
    rw [lexF, lexF]
    by_cases h0 : l = []
    · rw [if_pos h0, if_pos h0]
    · rw [if_neg h0, if_neg h0]
      have hp := fst_pos h0
      rw [lexF_more f g _ _ (by rw [List.length_drop]; omega) (by rw [List.length_drop]; omega)]
def lex (l : List Int) (a : Nat) : List (Int × List Int × Nat) := lexF l.length l a
theorem lex_nil (a : Nat) : lex [] a = [] := rfl
theorem lex_step {l : List Int} (h : l ≠ []) (a : Nat) : lex l a = ((fst_ l).1, l.take (fst_ l).2, a) :: lex (l.drop (fst_ l).2) (a + (fst_ l).2) := by
  have hp := fst_pos h
  unfold lex
  obtain ⟨n, hn⟩ : ∃ n, l.length = n + 1 := ⟨l.length - 1, by omega⟩
  rw [hn, lexF, if_neg h, lexF_more n (l.drop (fst_ l).2).length _ _ (by rw [List.length_drop]; omega) (Nat.le_refl _)]

/-! What ends a token. -/
theorem run_app (p : Int → Bool) : ∀ (u m : List Int), run p u = u.length → (∀ c, m.head? = some c → p c = false) → run p (u ++ m) = u.length
  | [], m, _, h => by
    cases m with
    | nil => rfl
    | cons c m => rw [List.nil_append, run, if_neg (by rw [h c rfl]; simp)]; rfl
  | c :: u, m, h1, h2 => by
    rw [run] at h1
    by_cases hc : p c = true
    · rw [if_pos hc, List.length_cons] at h1
      rw [List.cons_append, run, if_pos hc, run_app p u m (by omega) h2, List.length_cons]
    · rw [if_neg hc] at h1; simp at h1
theorem run_take (p : Int → Bool) : ∀ (l : List Int), run p (l.take (run p l)) = run p l
  | [] => rfl
  | c :: l => by
    rw [run]
    by_cases hc : p c = true
    · rw [if_pos hc, List.take_succ_cons, run, if_pos hc, run_take p l]
    · rw [if_neg hc]; rfl
theorem run_drop (p : Int → Bool) (l : List Int) : ∀ c, (l.drop (run p l)).head? = some c → p c = false := fun c h => by
  rw [List.head?_drop] at h
  exact run_out p l c h
/-- m ends the token u of a kind. -/
def ends (k : Int) (u m : List Int) : Prop :=
  if k = 0 then ∀ c, m.head? = some c → isSp c = false
  else if k = 1 then ∀ c, m.head? = some c → noNl c = false
  else if k = 2 ∨ k = 7 then ∀ c, m.head? = some c → coLo c = false
  else if k = 3 then ∀ c, m.head? = some c → coUp c = false
  else if k = 4 then ∀ c, m.head? = some c → isDi c = false
  else if k = 5 then True
  else if k = 6 then u.length = 2 ∨ ∀ a c, u.head? = some a → m.head? = some c → [a, c] ∉ SY2
  else if u.head? = some 34 then ∀ c, m.head? = some c → noNl c = false
  else (m = [] ∨ endB m = true) ∧ ¬ (u.getLast? = some 33 ∧ m.head? = some 61)
/-- A byte that begins nothing, with what follows it. -/
def dull (c : Int) (n : Option Int) : Prop := isSp c = false ∧ c ≠ 35 ∧ isLo c = false ∧ isUp c = false ∧ isDi c = false ∧ c ≠ 34 ∧ c ∉ SY1 ∧ ¬ (c = 33 ∧ n = some 61)
theorem sy2_of {a b : Int} (h : [a, b] ∈ SY2) : a ∈ SY1 ∨ (a = 33 ∧ b = 61) := by
  simp only [SY2, List.mem_cons, List.cons.injEq, and_true, List.not_mem_nil, or_false] at h
  rcases h with ⟨rfl, _⟩ | ⟨rfl, rfl⟩ | ⟨rfl, _⟩ | ⟨rfl, _⟩ | ⟨rfl, _⟩ | ⟨rfl, _⟩
  · left; decide
  · right; exact ⟨rfl, rfl⟩
  · left; decide
  · left; decide
  · left; decide
  · left; decide
theorem syLen_pos (c : Int) (r : List Int) : 0 < syLen (c :: r) ↔ c ∈ SY1 ∨ (c = 33 ∧ r.head? = some 61) := by
  cases r with
  | nil =>
    rw [syLen]
    by_cases h : c ∈ SY1
    · rw [if_pos h]; simp [h]
    · rw [if_neg h]; simp [h]
  | cons b l =>
    rw [syLen]
    by_cases h2 : [c, b] ∈ SY2
    · rw [if_pos h2]
      rcases sy2_of h2 with h | ⟨rfl, rfl⟩
      · simp [h]
      · simp
    · rw [if_neg h2]
      by_cases h : c ∈ SY1
      · rw [if_pos h]; simp [h]
      · rw [if_neg h]
        simp only [Nat.lt_irrefl, List.head?_cons, Option.some.injEq, h, false_or, false_iff]
        rintro ⟨rfl, rfl⟩
        exact h2 (by decide)
theorem endB_iff (c : Int) (r : List Int) : endB (c :: r) = true ↔ ¬ dull c r.head? := by
  have key : endB (c :: r) = true ↔ c = 34 ∨ 0 < (prop (c :: r)).2 := by
    unfold endB
    rw [Bool.or_eq_true, decide_eq_true_eq, List.head?_cons, beq_iff_eq, Option.some.injEq]
  have hp : prop (c :: r) = if isSp c then (0, run isSp (c :: r)) else if c = 35 then (1, run noNl (c :: r)) else if isLo c then (if (c :: r).take (run coLo (c :: r)) ∈ KW then (7, run coLo (c :: r)) else (2, run coLo (c :: r)))
    else if isUp c then (3, run coUp (c :: r)) else if isDi c then (4, run isDi (c :: r)) else if c = 34 then (5, stLen (c :: r)) else (6, syLen (c :: r)) := rfl
  have one : ∀ p : Int → Bool, p c = true → 0 < run p (c :: r) := fun p h => by rw [run, if_pos h]; omega
  rw [key]
  unfold dull
  by_cases h1 : isSp c = true
  · have := one _ h1
    rw [hp, if_pos h1]
    simp [h1, this]
  · by_cases h2 : c = 35
    · have := one noNl (by subst h2; decide)
      rw [hp, if_neg h1, if_pos h2]
      simp [h2]
      subst h2
      simpa using this
    · by_cases h3 : isLo c = true
      · have := one coLo (by simp [coLo, h3])
        rw [hp, if_neg h1, if_neg h2, if_pos h3]
        split <;> simp [h3, this]
      · by_cases h4 : isUp c = true
        · have := one coUp (by simp [coUp, h4])
          rw [hp, if_neg h1, if_neg h2, if_neg h3, if_pos h4]
          simp [h4, this]
        · by_cases h5 : isDi c = true
          · have := one _ h5
            rw [hp, if_neg h1, if_neg h2, if_neg h3, if_neg h4, if_pos h5]
            simp [h5, this]
          · by_cases h6 : c = 34
            · simp [h6]
            · have := syLen_pos c r
              rw [hp, if_neg h1, if_neg h2, if_neg h3, if_neg h4, if_neg h5, if_neg h6]
              show c = 34 ∨ 0 < syLen (c :: r) ↔ _
              rw [this]
              have g1 : isSp c = false := by simpa using h1
              have g3 : isLo c = false := by simpa using h3
              have g4 : isUp c = false := by simpa using h4
              have g5 : isDi c = false := by simpa using h5
              constructor
              · rintro (h | h | h) hn
                · exact h6 h
                · exact hn.2.2.2.2.2.2.1 h
                · exact hn.2.2.2.2.2.2.2 h
              · intro hn
                by_cases hc : c ∈ SY1
                · exact .inr (.inl hc)
                · by_cases hq : c = 33 ∧ r.head? = some 61
                  · exact .inr (.inr hq)
                  · exact absurd ⟨g1, h2, g3, g4, g5, h6, hc, hq⟩ hn

end Go.Proofs.YtgfhhpodcnohpaaDoor
