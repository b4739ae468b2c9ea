/- The mathematics of hashes: mixing is injective in each argument; little-endian words; what Sum and Bytes compute. It has no conditions. -/
import Derived.Test.YthjedecfpedjbaaBase
namespace Go.Proofs.Ythjedecfpedjbaa
open Go.RowKit

/-- A 64-bit word as the number that the program holds. -/
def U (b : BitVec 64) : Int := (b.toNat : Int)
theorem U_nonneg (b : BitVec 64) : 0 ≤ U b := by unfold U; omega
theorem U_lt (b : BitVec 64) : U b < 18446744073709551616 := by have := b.isLt; unfold U; omega
theorem U_inj {a b : BitVec 64} (h : U a = U b) : a = b := by
  unfold U at h; exact BitVec.eq_of_toNat_eq (by omega)
theorem U_beq (a b : BitVec 64) : (U a == U b) = decide (a = b) := by
  by_cases h : a = b
  · subst h; simp
  · simp [h]; exact fun e => h (U_inj e)
def Mult : BitVec 64 := 0x9E3779B97F4A7C15#64
def MultInv : BitVec 64 := 0xF1DE83E19937733D#64
theorem mult_inv : Mult * MultInv = 1#64 := by decide
def fold32 (m : BitVec 64) : BitVec 64 := m ^^^ (m >>> 32)
def mixB (s w : BitVec 64) : BitVec 64 := fold32 ((s ^^^ w) * Mult)
theorem fold32_twice (m : BitVec 64) : fold32 (fold32 m) = m := by
  unfold fold32
  rw [BitVec.ushiftRight_xor_distrib, ← BitVec.shiftRight_add]
  have : m >>> (32 + 32) = 0#64 := by
    apply BitVec.eq_of_toNat_eq
    rw [BitVec.toNat_ushiftRight, Nat.shiftRight_eq_div_pow]
    exact Nat.div_eq_of_lt m.isLt
  rw [this]
  simp [BitVec.xor_assoc]
theorem fold32_inj {a b : BitVec 64} (h : fold32 a = fold32 b) : a = b := by
  have := congrArg fold32 h; rwa [fold32_twice, fold32_twice] at this
theorem mul_inj {a b : BitVec 64} (h : a * Mult = b * Mult) : a = b := by
  have := congrArg (· * MultInv) h
  simpa [BitVec.mul_assoc, mult_inv] using this
theorem xor_inj_right {s a b : BitVec 64} (h : s ^^^ a = s ^^^ b) : a = b := by
  have := congrArg (s ^^^ ·) h
  simpa [← BitVec.xor_assoc] using this
theorem xor_inj_left {s a b : BitVec 64} (h : a ^^^ s = b ^^^ s) : a = b := by
  have := congrArg (· ^^^ s) h
  simpa [BitVec.xor_assoc] using this
theorem mixB_inj_right {s a b : BitVec 64} (h : mixB s a = mixB s b) : a = b := xor_inj_right (mul_inj (fold32_inj h))
theorem mixB_inj_left {s a b : BitVec 64} (h : mixB a s = mixB b s) : a = b := xor_inj_left (mul_inj (fold32_inj h))
/-- What the Go text of mix computes, on the numbers. -/
theorem mix_form (s v : BitVec 64) :
    bits BinOp.xor IntKind.u64 (IntKind.u64.wrap (bits BinOp.xor IntKind.u64 (U s) (U v) * 11400714819323198485))
      (IntKind.u64.wrap (bits BinOp.xor IntKind.u64 (U s) (U v) * 11400714819323198485) / 4294967296) = U (mixB s v) := by
  have wrapU : ∀ b : BitVec 64, IntKind.u64.wrap (U b) = U b := fun b => by
    have h1 := U_nonneg b; have h2 := U_lt b
    rw [wrap_u64]; omega
  have ofU : ∀ b : BitVec 64, BitVec.ofInt 64 (U b) = b := fun b => by
    unfold U; rw [BitVec.ofInt_natCast]; simp
  have xorU : ∀ a b : BitVec 64, bits BinOp.xor IntKind.u64 (U a) (U b) = U (a ^^^ b) := fun a b => by
    show IntKind.u64.wrap (((BitVec.ofInt 64 (U a)) ^^^ (BitVec.ofInt 64 (U b))).toNat : Int) = _
    rw [ofU, ofU]; exact wrapU (a ^^^ b)
  have mulU : ∀ a : BitVec 64, IntKind.u64.wrap (U a * 11400714819323198485) = U (a * Mult) := fun a => by
    have e : U (a * Mult) = (U a * 11400714819323198485) % 18446744073709551616 := by
      unfold U
      rw [BitVec.toNat_mul]
      have : Mult.toNat = 11400714819323198485 := by decide
      rw [this]; omega
    rw [e, wrap_u64]
  have shrU : ∀ a : BitVec 64, U a / (4294967296 : Int) = U (a >>> 32) := fun a => by
    unfold U
    rw [BitVec.toNat_ushiftRight, Nat.shiftRight_eq_div_pow]; omega
  rw [xorU, mulU, shrU, xorU]
  rfl
/-- The little-endian number of a group of bytes. -/
def leN : List Int → Nat
  | [] => 0
  | c :: cs => c.toNat + 256 * leN cs
theorem leN_lt : ∀ {l : List Int}, Byt l → leN l < 256 ^ l.length
  | [], _ => by simp [leN]
  | c :: cs, h => by
    have h1 := h.cons
    have h2 := leN_lt h1.2.2
    simp only [leN, List.length_cons, Nat.pow_succ]
    have : c.toNat ≤ 255 := by omega
    omega
theorem leN_snoc (l : List Int) (c : Int) : leN (l ++ [c]) = leN l + 256 ^ l.length * c.toNat := by
  induction l with
  | nil => simp [leN]
  | cons d ds ih =>
    simp only [List.cons_append, leN, ih, List.length_cons, Nat.pow_succ, Nat.mul_add]
    rw [Nat.mul_comm (256 ^ ds.length) 256, Nat.mul_assoc, Nat.add_assoc]
theorem leN_small {l : List Int} (h : Byt l) (hl : l.length ≤ 8) : leN l < 18446744073709551616 := by
  have h1 := leN_lt h
  have h2 : 256 ^ l.length ≤ 256 ^ 8 := Nat.pow_le_pow_right (by omega) hl
  have h3 : (256 : Nat) ^ 8 = 18446744073709551616 := by decide
  omega
theorem mix_form2 (s v : BitVec 64) :
    bits BinOp.xor IntKind.u64 (IntKind.u64.wrap (bits BinOp.xor IntKind.u64 (U s) (U v) * 11400714819323198485))
      (IntKind.u64.wrap ((IntKind.u64.wrap (bits BinOp.xor IntKind.u64 (U s) (U v) * 11400714819323198485)).tdiv 4294967296)) = U (mixB s v) := by
  rw [← mix_form s v]
  have h : 0 ≤ IntKind.u64.wrap (bits BinOp.xor IntKind.u64 (U s) (U v) * 11400714819323198485) := by rw [wrap_u64]; omega
  have h2 : IntKind.u64.wrap (bits BinOp.xor IntKind.u64 (U s) (U v) * 11400714819323198485) < 18446744073709551616 := by rw [wrap_u64]; omega
  generalize IntKind.u64.wrap (bits BinOp.xor IntKind.u64 (U s) (U v) * 11400714819323198485) = x at h h2 ⊢
  rw [Int.tdiv_eq_ediv_of_nonneg h, wrap_u64, Int.emod_eq_of_lt (by omega) (by omega)]
/-- One step of littleEndian, on the numbers. -/
theorem or_form (zs : List Int) (k : Nat) (hk : k < zs.length) (h8 : zs.length ≤ 8) (hz : Byt zs) :
    bits BinOp.or IntKind.u64 (leN (zs.take k) : Int) (IntKind.u64.wrap (IntKind.u64.wrap zs[k] * 2 ^ (8 * k))) = (leN (zs.take (k + 1)) : Int) := by
  have hb := hz zs[k] (List.getElem_mem hk)
  obtain ⟨c, hc⟩ : ∃ c : Nat, zs[k] = (c : Int) := ⟨zs[k].toNat, by omega⟩
  have hl : leN (zs.take k) < 256 ^ k := by have := leN_lt (hz.take k); rwa [List.length_take, Nat.min_eq_left (by omega)] at this
  have e2 : (256 : Nat) ^ k = 2 ^ (8 * k) := by rw [Nat.pow_mul]
  have hk8 : (2 : Nat) ^ (8 * k) * 256 ≤ 18446744073709551616 := by
    have h1 : (2 : Nat) ^ (8 * k) ≤ 2 ^ 56 := Nat.pow_le_pow_right (by omega) (by omega)
    have h2 : (2 : Nat) ^ 56 * 256 = 18446744073709551616 := by decide
    omega
  have hcu : c ≤ 255 := by omega
  have hsn : leN (zs.take (k + 1)) = leN (zs.take k) + 2 ^ (8 * k) * c := by
    rw [List.take_succ_eq_append_getElem hk, leN_snoc, List.length_take, Nat.min_eq_left (by omega), e2, hc]; simp
  have hm : 2 ^ (8 * k) * c < 18446744073709551616 := by
    have : 2 ^ (8 * k) * c ≤ 2 ^ (8 * k) * 255 := Nat.mul_le_mul_left _ hcu
    omega
  have hsum : leN (zs.take k) + 2 ^ (8 * k) * c < 18446744073709551616 := by
    have : 2 ^ (8 * k) * c ≤ 2 ^ (8 * k) * 255 := Nat.mul_le_mul_left _ hcu
    rw [e2] at hl; omega
  rw [hsn, hc]
  have w1 : IntKind.u64.wrap (IntKind.u64.wrap (c : Int) * 2 ^ (8 * k)) = ((2 ^ (8 * k) * c : Nat) : Int) := by
    rw [wrap_u64, wrap_u64, Int.emod_eq_of_lt (a := (c : Int)) (by omega) (by omega)]
    have : (c : Int) * 2 ^ (8 * k) = ((2 ^ (8 * k) * c : Nat) : Int) := by push_cast; rw [Int.mul_comm]
    rw [this]
    exact Int.emod_eq_of_lt (by omega) (by omega)
  rw [w1]
  show IntKind.u64.wrap (((BitVec.ofInt 64 (leN (zs.take k) : Int)) ||| (BitVec.ofInt 64 ((2 ^ (8 * k) * c : Nat) : Int))).toNat : Int) = _
  rw [BitVec.ofInt_natCast, BitVec.ofInt_natCast, BitVec.toNat_or, BitVec.toNat_ofNat, BitVec.toNat_ofNat, Nat.mod_eq_of_lt (by rw [e2] at hl; omega), Nat.mod_eq_of_lt hm]
  rw [Nat.or_comm, ← Nat.two_pow_add_eq_or_of_lt (by rw [← e2]; exact hl), wrap_u64, Int.emod_eq_of_lt (by omega) (by omega)]
  omega
/-- The number of groups, the k-th group, its word. -/
def nGroups (n : Nat) : Nat := (n + 7) / 8
def grp (l : List Int) (k : Nat) : List Int := (l.drop (8 * k)).take 8
def word (l : List Int) (k : Nat) : BitVec 64 := BitVec.ofNat 64 (leN (grp l k))
def wordsL (l : List Int) : List (BitVec 64) := (List.range (nGroups l.length)).map (word l)
theorem grp_len (l : List Int) (k : Nat) : (grp l k).length = min 8 (l.length - 8 * k) := by simp [grp]
theorem U_word {l : List Int} (h : Byt l) (k : Nat) : U (word l k) = (leN (grp l k) : Int) := by
  unfold U word
  rw [BitVec.toNat_ofNat, Nat.mod_eq_of_lt]
  exact leN_small ((h.drop _).take _) (by rw [grp_len]; omega)
def absorb (s : BitVec 64) (ws : List (BitVec 64)) : BitVec 64 := ws.foldl mixB s
theorem absorb_snoc (s : BitVec 64) (ws : List (BitVec 64)) (w : BitVec 64) : absorb s (ws ++ [w]) = mixB (absorb s ws) w := by simp [absorb]
theorem absorb_append (s : BitVec 64) (a b : List (BitVec 64)) : absorb s (a ++ b) = absorb (absorb s a) b := by simp [absorb]
theorem absorb_inj {ws : List (BitVec 64)} : ∀ {a b : BitVec 64}, absorb a ws = absorb b ws → a = b := by
  induction ws with
  | nil => intro a b h; exact h
  | cons w ws ih => intro a b h; exact mixB_inj_left (ih h)
/-- Sum, of a label's bytes and of integers. -/
def sumS (lab ws : List Int) : BitVec 64 :=
  mixB (absorb (mixB (mixB (absorb 0#64 (wordsL lab)) (BitVec.ofInt 64 lab.length)) (BitVec.ofInt 64 ws.length)) (ws.map (BitVec.ofInt 64))) 0#64
/-- Bytes. -/
def bytesS (lab b : List Int) : BitVec 64 := sumS lab ((wordsL b).map (fun w => wrap64 (U w)) ++ [(b.length : Int)])
theorem ofInt_wrap64 (b : BitVec 64) : BitVec.ofInt 64 (wrap64 (U b)) = b := by
  apply BitVec.eq_of_toNat_eq
  have h1 := b.isLt
  unfold wrap64 U
  rw [BitVec.toNat_ofInt]
  omega

end Go.Proofs.Ythjedecfpedjbaa
