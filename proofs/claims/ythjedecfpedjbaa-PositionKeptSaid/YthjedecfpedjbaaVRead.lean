/- Contracts of the Reader: what each method returns. Conditions: at most 100000 bytes are left. -/
import Derived.Test.YthjedecfpedjbaaVWrite
import Derived.Test.YthjedecfpedjbaaOnly
namespace Go.Proofs.Ythjedecfpedjbaa
open Go.RowKit Go.Shelf
set_option linter.unusedVariables false

/-- The bytes that are left lie in a block from base on and below p. -/
def Left (w : World) (base p : Nat) (a : Option Addr) (zs : List Int) : Prop :=
  zs = [] ∨ ∃ b off, a = some ⟨b, off, none⟩ ∧ base ≤ b ∧ b < p ∧ ∀ j, j < zs.length → w.cell? ⟨b, off + j, none⟩ = some (.int .u8 (zs[j]?.getD 0))
theorem Left.keep {w w' : World} {base p : Nat} {a : Option Addr} {zs : List Int} (h : Left w base p a zs) (hb : ∀ b, base ≤ b → b < p → w'.heap[b]? = w.heap[b]?) : Left w' base p a zs := by
  rcases h with h | ⟨b, off, ha, h1, h2, hc⟩
  · exact .inl h
  · exact .inr ⟨b, off, ha, h1, h2, fun j hj => (World.cell?_of_block (w := w) (a := ⟨b, off + j, none⟩) (hb b h1 h2)).trans (hc j hj)⟩

/-- What a reader's state says of its two fields. -/
def Fits (zs : List Int) (e : Int) : Rs → Prop
  | .ok l => e = 0 ∧ zs = l
  | .bad x => e = x ∧ (x = 2 ∨ x = 3)
/-- A Reader lies at p in a state. -/
def Rd (w : World) (base p : Nat) (st : Rs) : Prop :=
  ∃ a cap zs e, Blk w p 87 #[.slice a zs.length cap, .int .i64 e] ∧ base ≤ p ∧ zs.length ≤ cap ∧ cap ≤ 9223372036854775807 ∧ Left w base p a zs ∧ Byt zs ∧ zs.length ≤ 100000 ∧ Fits zs e st
theorem Rd.lt {w : World} {base p : Nat} {st : Rs} (h : Rd w base p st) : base ≤ p ∧ p < w.heap.size := by
  obtain ⟨a, cap, zs, e, hb, h1, _⟩ := h; exact ⟨h1, hb.lt⟩
theorem Rd.keep {w w' : World} {base p : Nat} {st : Rs} (h : Rd w base p st) (hb : ∀ b, base ≤ b → b ≤ p → w'.heap[b]? = w.heap[b]?) : Rd w' base p st := by
  obtain ⟨a, cap, zs, e, h0, h1, h2, h3, h4, h5, h6, h7⟩ := h
  exact ⟨a, cap, zs, e, h0.same (hb p h1 (Nat.le_refl _)), h1, h2, h3, h4.keep (fun b hb1 hb2 => hb b hb1 (by omega)), h5, h6, h7⟩
theorem Rd.only {w w' : World} {T : Nat → Prop} {base p : Nat} {st : Rs} (h : Rd w base p st) (ho : Only T w w') (hT : ∀ b, base ≤ b → b ≤ p → ¬ T b) : Rd w' base p st :=
  h.keep fun b h1 h2 => ho.block b (by have := h.lt.2; omega) (hT b h1 h2)
theorem Rd.below {w w' : World} {base p : Nat} {st : Rs} (h : Rd w base p st) (ho : Below w.heap.size w w') : Rd w' base p st :=
  h.only (Only.of_below (T := fun _ => False) ho) (fun _ _ _ h => h)

/-- A call returns a value and leaves the reader in a state; it writes to the reader alone. -/
def RPost (base p : Nat) (v : Value) (st : Rs) (w : World) (e : Ending) (w' : World) : Prop := e = .returned v ∧ Rd w' base p st ∧ Only (fun k => k = p) w w'

theorem left_tail {w : World} {base p : Nat} {a : Option Addr} {c : Int} {t : List Int} {cap : Nat} (h : Left w base p a (c :: t)) (hcap : t.length + 1 ≤ cap) :
    ∃ b off, a = some ⟨b, off, none⟩ ∧ base ≤ b ∧ b < p ∧ w.cell? ⟨b, off, none⟩ = some (.int .u8 c) ∧ (∀ j, j < t.length → w.cell? ⟨b, off + 1 + j, none⟩ = some (.int .u8 (t[j]?.getD 0))) := by
  rcases h with h | ⟨b, off, ha, h1, h2, hc⟩
  · cases h
  · refine ⟨b, off, ha, h1, h2, by simpa using hc 0 (by simp), fun j hj => ?_⟩
    have := hc (j + 1) (by simp; omega)
    rw [show off + 1 + j = off + (j + 1) by omega, this]
    simp

set_option maxRecDepth 100000 in
set_option maxHeartbeats 1000000 in
theorem octet_any (base p : Nat) (st : Rs) (w : World) (h : Rd w base p st) :
    Calls Try.prog 66 #[.pointer (some ⟨p, 0, none⟩)] w (RPost base p (.int .u8 (oct st).1) (oct st).2 w) := by
  obtain ⟨a, cap, zs, e, h0, h1, h2, h3, h4, h5, h6, h7⟩ := h
  have hc0 : w.cell? ⟨p, 0, none⟩ = some (.slice a zs.length cap) := h0.cell 0
  have hc1 : w.cell? ⟨p, 1, none⟩ = some (.int .i64 e) := h0.cell 1
  have hf0 := h0.frozen 0
  have hf1 := h0.frozen 1
  have HB := Lib.hid h0
  have HL := Lib.hid h4
  have HZ := Lib.hid h5
  clear h0 h4 h5
  cases st with
  | bad x =>
    obtain ⟨rfl, hx⟩ := h7
    have hq : (e != 0) = true := by simp; omega
    go_enter Try.func66, Try.ntmps66
    go_wp2
    go_ret
    exact ⟨rfl, ⟨a, cap, zs, e, HB.out, h1, h2, h3, HL.out, HZ.out, h6, rfl, hx⟩, Only.refl _ _⟩
  | ok l =>
    obtain ⟨rfl, rfl⟩ := h7
    cases zs with
    | nil =>
      go_enter Try.func66, Try.ntmps66
      go_wp2
      go_ret
      exact ⟨rfl, ⟨a, cap, [], 3, HB.out.set 1 _, h1, h2, h3, .inl rfl, HZ.out, h6, rfl, .inr rfl⟩, Only.setCell (T := fun k => k = p) (Only.refl _ _) (p := ⟨p, 1, none⟩) (.inr rfl) _⟩
    | cons c t =>
      obtain ⟨b, off, rfl, hb1, hb2, hcc, hct⟩ := left_tail HL.out (by simpa using h2)
      simp only [List.length_cons] at hc0 h2 h6
      have hlen : (t.length : Int) + 1 ≠ 0 := by omega
      have HCT := Lib.hid hct
      clear hct
      by_cases hcap : cap = 1
      · have hl0 : t.length = 0 := by omega
        subst hcap
        obtain rfl : t = [] := List.eq_nil_of_length_eq_zero hl0
        simp only [List.length_nil] at hc0 hlen
        go_enter Try.func66, Try.ntmps66
        go_wp2
        go_ret
        have hbk : Blk (w.setCell ⟨p, 0, none⟩ (.slice (some ⟨b, off, none⟩) 0 0)) p 87 #[.slice (some ⟨b, off, none⟩) 0 0, .int .i64 0] := HB.out.set 0 _
        exact ⟨rfl, ⟨some ⟨b, off, none⟩, 0, [], 0, hbk, h1, Nat.le_refl _, by omega, .inl rfl, HZ.out.cons.2.2, by simp, rfl, rfl⟩, Only.setCell (T := fun k => k = p) (Only.refl _ _) (p := ⟨p, 0, none⟩) (.inr rfl) _⟩
      · go_enter Try.func66, Try.ntmps66
        go_wp2
        go_ret
        have hbk : Blk (w.setCell ⟨p, 0, none⟩ (.slice (some ⟨b, off + 1, none⟩) t.length (cap - 1))) p 87 #[.slice (some ⟨b, off + 1, none⟩) t.length (cap - 1), .int .i64 0] := HB.out.set 0 _
        refine ⟨rfl, ⟨some ⟨b, off + 1, none⟩, cap - 1, t, 0, hbk, h1, by omega, by omega, .inr ⟨b, off + 1, rfl, hb1, hb2, fun j hj => ?_⟩, HZ.out.cons.2.2, by omega, rfl, rfl⟩, Only.setCell (T := fun k => k = p) (Only.refl _ _) (p := ⟨p, 0, none⟩) (.inr rfl) _⟩
        exact (World.cell?_of_block (w := w) (a := ⟨b, off + 1 + j, none⟩) (Below.heap_setCell w ⟨p, 0, none⟩ _ b (by show b ≠ p; omega))).trans (HCT.out j hj)

set_option maxRecDepth 100000 in
set_option maxHeartbeats 1000000 in
theorem rread_any (a : Option Addr) (cap : Nat) (zs : List Int) (w : World) (h : Sli .u8 w a cap zs) (hz : Byt zs) (hl : zs.length ≤ 100000) :
    Calls Try.prog 31 #[.slice a zs.length cap] w fun e w' => ∃ p, e = .returned (.pointer (some ⟨p, 0, none⟩)) ∧ Rd w' w.heap.size p (.ok zs) ∧ Below w.heap.size w w' := by
  have c1 := clone_any a cap zs w h (by omega)
  obtain ⟨n, hn⟩ : ∃ n, zs.length = n := ⟨_, rfl⟩
  rw [hn] at c1 ⊢
  have C1 := Lib.hid c1
  have HZ := Lib.hid hz
  have HN := Lib.hid hn
  rw [hn] at hl
  clear c1 h hz hn
  go_enter Try.func31, Try.ntmps31
  go_wp2_with fail
  refine C1.out.mono ?_
  rintro e w1 ⟨v, rfl, hown, hb⟩
  obtain ⟨_, a1, c1, rfl, hs⟩ := sli_of_own hown
  have HO := Lib.hid hown
  have HS := Lib.hid hs
  have HB := Lib.hid hb
  rw [HN.out] 
  clear hown hs hb
  go_wp2
  go_ret
  refine ⟨w1.heap.size, rfl, ⟨a1, c1, zs, 0, ?_, HB.out.size, HS.out.le, HS.out.mx, ?_, HZ.out, by rw [HN.out]; exact hl, rfl, rfl⟩, HB.out.alloc HB.out.size _⟩
  · rw [HN.out]; exact Blk.new _ _ _
  · rcases HS.out.cells with h | ⟨b, off, ha, hlt, hc⟩
    · exact .inl h
    · refine .inr ⟨b, off, ha, ?_, hlt, fun j hj => (World.cell?_of_block (w := w1) (a := ⟨b, off + j, none⟩) (Below.heap_alloc w1 _ b hlt)).trans (hc j hj)⟩
      subst ha
      exact (HO.out.lt b rfl).1

set_option maxRecDepth 100000 in
set_option maxHeartbeats 1000000 in
theorem rend_any (base p : Nat) (st : Rs) (w : World) (h : Rd w base p st) :
    Calls Try.prog 35 #[.pointer (some ⟨p, 0, none⟩)] w fun e w' => e = .returned (.int .i64 (rdEnd st)) ∧ w = w' := by
  obtain ⟨a, cap, zs, e, h0, h1, h2, h3, h4, h5, h6, h7⟩ := h
  have hc0 : w.cell? ⟨p, 0, none⟩ = some (.slice a zs.length cap) := h0.cell 0
  have hc1 : w.cell? ⟨p, 1, none⟩ = some (.int .i64 e) := h0.cell 1
  clear h0 h4 h5
  cases st with
  | bad x =>
    obtain ⟨rfl, hx⟩ := h7
    have hq : (e == 0) = false := by simp; omega
    go_enter Try.func35, Try.ntmps35
    go_wp2
    go_ret
    exact ⟨rfl, rfl⟩
  | ok l =>
    obtain ⟨rfl, rfl⟩ := h7
    cases zs with
    | nil =>
      go_enter Try.func35, Try.ntmps35
      go_wp2
      go_ret
      exact ⟨rfl, rfl⟩
    | cons c t =>
      simp only [List.length_cons] at hc0
      go_enter Try.func35, Try.ntmps35
      go_wp2
      go_ret
      exact ⟨rfl, rfl⟩

theorem and_1 (z : Nat) (h : z < 18446744073709551616) : bits BinOp.and IntKind.u64 (z : Int) 1 = ((z % 2 : Nat) : Int) := by
  show IntKind.u64.wrap (((BitVec.ofInt 64 (z : Int)) &&& (BitVec.ofInt 64 1)).toNat : Int) = _
  rw [BitVec.ofInt_natCast, show (1 : Int) = ((1 : Nat) : Int) from rfl, BitVec.ofInt_natCast, BitVec.toNat_and, BitVec.toNat_ofNat, BitVec.toNat_ofNat, Nat.mod_eq_of_lt h, show 1 % 2 ^ 64 = 1 by decide, Nat.and_one_is_mod, wrap_u64]
  omega
theorem not_i64 (x : Nat) (h : x < 9223372036854775808) : bits BinOp.xor IntKind.i64 (-1) (x : Int) = -(x : Int) - 1 := by
  have hw : ∀ n : Int, IntKind.i64.wrap n = (n + 9223372036854775808) % 18446744073709551616 - 9223372036854775808 := fun n => by
    simp [IntKind.wrap, IntKind.signed, IntKind.bits]
    split <;> omega
  show IntKind.i64.wrap (((BitVec.ofInt 64 (-1)) ^^^ (BitVec.ofInt 64 (x : Int))).toNat : Int) = _
  rw [show BitVec.ofInt 64 (-1) = BitVec.allOnes 64 by decide, BitVec.allOnes_xor, BitVec.toNat_not, BitVec.ofInt_natCast, BitVec.toNat_ofNat, Nat.mod_eq_of_lt (by omega), hw]
  omega
theorem unzig_any (z : Nat) (w : World) (h : z < 18446744073709551616) :
    Calls Try.prog 52 #[.int .u64 (z : Int)] w fun e w' => e = .returned (.int .i64 (unz z)) ∧ w = w' := by
  have ha := and_1 z h
  by_cases hz : z % 2 = 1
  · have hq : (bits BinOp.and IntKind.u64 (z : Int) 1 == 1) = true := by rw [ha, hz]; rfl
    have hr : unz z = bits BinOp.xor IntKind.i64 (-1) ((z : Int) / 2) := by
      rw [show (z : Int) / 2 = ((z / 2 : Nat) : Int) by omega, not_i64 _ (by omega), unz, if_pos hz]
    rw [hr]
    clear ha hz hr
    go_enter Try.func52, Try.ntmps52
    go_wp2
    go_ret
    exact ⟨rfl, rfl⟩
  · have hq : (bits BinOp.and IntKind.u64 (z : Int) 1 == 1) = false := by rw [ha, show z % 2 = 0 by omega]; rfl
    have hr : unz z = (z : Int) / 2 := by
      rw [unz, if_neg hz]; omega
    rw [hr]
    clear ha hz hr
    go_enter Try.func52, Try.ntmps52
    go_wp2
    go_ret
    exact ⟨rfl, rfl⟩

/-- Reading goes on at group i with n collected. -/
def contU (i n : Nat) : Rs → Nat × Rs
  | .bad e => (0, .bad e)
  | .ok zs => match goU i n zs with
    | .ok x => (x.1, .ok x.2)
    | .error e => (0, .bad e)
theorem contU_0 (st : Rs) : contU 0 0 st = rdU st := by cases st <;> rfl

theorem contU_nil (k n : Nat) : contU k n (.ok []) = (0, .bad 3) := rfl
theorem contU_err {k n : Nat} {c : Int} {t : List Int} (h : (k = 9 ∧ 1 < c) ∨ (0 < k ∧ c = 0)) : contU k n (.ok (c :: t)) = (0, .bad 2) := by simp only [contU, goU, if_pos h]
theorem contU_end {k n : Nat} {c : Int} {t : List Int} (h : ¬ ((k = 9 ∧ 1 < c) ∨ (0 < k ∧ c = 0))) (h2 : c < 128) : contU k n (.ok (c :: t)) = (n + c.toNat * 128 ^ k, .ok t) := by simp only [contU, goU, if_neg h, if_pos h2]
theorem contU_more {k n : Nat} {c : Int} {t : List Int} (h : ¬ ((k = 9 ∧ 1 < c) ∨ (0 < k ∧ c = 0))) (h2 : ¬ c < 128) : contU k n (.ok (c :: t)) = contU (k + 1) (n + (c.toNat - 128) * 128 ^ k) (.ok t) := by simp only [contU, goU, if_neg h, if_neg h2]

/-- What a step collects. -/
def stepU (k n : Nat) (c : Int) : Int := bits BinOp.or IntKind.u64 (n : Int) (IntKind.u64.wrap (IntKind.u64.wrap (bits BinOp.andNot IntKind.u8 c 128) * 2 ^ (7 * k)))
theorem andNot_128 (c : Nat) (h : c ≤ 255) : bits BinOp.andNot IntKind.u8 (c : Int) 128 = ((c % 128 : Nat) : Int) := by
  have hw : ∀ n : Int, IntKind.u8.wrap n = n % 256 := fun n => by simp [IntKind.wrap, IntKind.signed, IntKind.bits]
  show IntKind.u8.wrap (((BitVec.ofInt 8 (c : Int)) &&& ~~~ (BitVec.ofInt 8 128)).toNat : Int) = _
  have e : ∀ b : BitVec 8, (b &&& ~~~ (BitVec.ofInt 8 128)).toNat = b.toNat % 128 := by decide
  rw [e, hw, BitVec.ofInt_natCast, BitVec.toNat_ofNat]
  omega
theorem or_shift (k n d : Nat) (hn : n < 2 ^ (7 * k)) (hs : n + d * 2 ^ (7 * k) < 18446744073709551616) :
    bits BinOp.or IntKind.u64 (n : Int) ((d * 2 ^ (7 * k) : Nat) : Int) = ((n + d * 2 ^ (7 * k) : Nat) : Int) := by
  show IntKind.u64.wrap (((BitVec.ofInt 64 (n : Int)) ||| (BitVec.ofInt 64 ((d * 2 ^ (7 * k) : Nat) : Int))).toNat : Int) = _
  rw [BitVec.ofInt_natCast, BitVec.ofInt_natCast, BitVec.toNat_or, BitVec.toNat_ofNat, BitVec.toNat_ofNat, Nat.mod_eq_of_lt (by omega), Nat.mod_eq_of_lt (by omega)]
  rw [Nat.or_comm, Nat.mul_comm d, ← Nat.two_pow_add_eq_or_of_lt hn, wrap_u64, Int.emod_eq_of_lt (by omega) (by rw [Nat.mul_comm]; omega)]
  omega
theorem stepU_eq (k n : Nat) (c : Int) (hk : k ≤ 9) (hn : n < 128 ^ k) (hc0 : 0 ≤ c) (hc1 : c ≤ 255) (h9 : k = 9 → c ≤ 1) : stepU k n c = ((n + (c.toNat % 128) * 128 ^ k : Nat) : Int) := by
  obtain ⟨m, rfl⟩ : ∃ m : Nat, c = (m : Int) := ⟨c.toNat, by omega⟩
  have e2 : (128 : Nat) ^ k = 2 ^ (7 * k) := by rw [Nat.pow_mul]
  simp only [Int.toNat_natCast]
  have hsum : n + m % 128 * 128 ^ k < 18446744073709551616 := by
    rcases Nat.lt_or_ge k 9 with h | h
    · have hp : (128 : Nat) ^ k ≤ 128 ^ 8 := Nat.pow_le_pow_right (by decide) (by omega)
      have h8 : (128 : Nat) ^ 8 = 72057594037927936 := by decide
      have h1 : m % 128 * 128 ^ k ≤ 127 * 128 ^ k := Nat.mul_le_mul_right _ (by omega)
      omega
    · obtain rfl : k = 9 := by omega
      have := h9 rfl
      rw [pow9] at hn ⊢
      omega
  have hd : m % 128 * 128 ^ k < 18446744073709551616 := by omega
  unfold stepU
  rw [andNot_128 m (by omega), wrap_u64, wrap_u64, Int.emod_eq_of_lt (a := ((m % 128 : Nat) : Int)) (by omega) (by omega)]
  have e3 : ((m % 128 : Nat) : Int) * 2 ^ (7 * k) = ((m % 128 * 2 ^ (7 * k) : Nat) : Int) := by push_cast; rfl
  rw [e2] at hn hsum hd ⊢
  rw [e3, Int.emod_eq_of_lt (by omega) (by omega), or_shift k n _ hn hsum]

theorem Rd.ok_err {w : World} {base p : Nat} {t : List Int} (h : Rd w base p (.ok t)) : w.cell? ⟨p, 1, none⟩ = some (.int .i64 0) ∧ w.frozen? ⟨p, 1, none⟩ = false ∧
    ∀ x, x = 2 ∨ x = 3 → Rd (w.setCell ⟨p, 1, none⟩ (.int .i64 x)) base p (.bad x) ∧ Only (fun k => k = p) w (w.setCell ⟨p, 1, none⟩ (.int .i64 x)) := by
  obtain ⟨a, cap, zs, e, h0, g1, g2, g3, g4, g5, g6, rfl, rfl⟩ := h
  refine ⟨h0.cell 1, h0.frozen 1, fun x hx => ⟨⟨a, cap, zs, x, h0.set 1 _, g1, g2, g3, ?_, g5, g6, rfl, hx⟩, Only.setCell (T := fun k => k = p) (Only.refl _ _) (p := ⟨p, 1, none⟩) (.inr rfl) _⟩⟩
  exact g4.keep fun b _ hb => Below.heap_setCell w ⟨p, 1, none⟩ _ b (by show b ≠ p; omega)
theorem Rd.byt {w : World} {base p : Nat} {t : List Int} (h : Rd w base p (.ok t)) : Byt t ∧ t.length ≤ 100000 := by
  obtain ⟨a, cap, zs, e, h0, g1, g2, g3, g4, g5, g6, rfl, rfl⟩ := h
  exact ⟨g5, g6⟩

def RdW (base p : Nat) (st : Rs) (w w' : World) : Prop := Rd w' base p st ∧ Only (fun k => k = p) w w'
set_option maxRecDepth 100000 in
set_option maxHeartbeats 2000000 in
theorem ruint_any (base p : Nat) (st : Rs) (w : World) (h : Rd w base p st) :
    Calls Try.prog 53 #[.pointer (some ⟨p, 0, none⟩)] w (RPost base p (.int .u64 ((rdU st).1 : Int)) (rdU st).2 w) := by
  rw [← contU_0]
  have HR0 : Hid (RdW base p st w w) := ⟨h, Only.refl _ _⟩
  obtain ⟨R, hR⟩ : ∃ R, contU 0 0 st = R := ⟨_, rfl⟩
  rw [hR]
  have hd := Lib.hid hR
  clear h hR
  go_enter Try.func53, Try.ntmps53
  go_wp2
  go_loopw [3, 4] (fun t i wr => ∃ (k n : Nat) (s : Rs), k ≤ 9 ∧ n < 128 ^ k ∧ t = .int .u64 (n : Int) ∧ i = .int .i64 (k : Int) ∧ Hid (contU k n s = R) ∧ Hid (RdW base p s w wr)) (fun _ i _ => 9 - (intOf i).toNat)
  case atStart => exact ⟨0, 0, st, by omega, by decide, rfl, rfl, hd, HR0⟩
  case round =>
    obtain ⟨k, n, s, hk, hn, rfl, rfl, HC, HR⟩ := hrel
    cases s with
    | bad x =>
      have c1 := octet_any base p _ wr HR.out.1
      simp only [oct] at c1
      have C1 := Lib.hid c1
      clear c1
      go_wp2_with fail
      refine C1.out.mono ?_
      rintro e w1 ⟨rfl, hr1, ho1⟩
      have H1 : Hid (RdW base p (.bad x) w w1) := ⟨hr1, HR.out.2.trans ho1⟩
      obtain ⟨a, cap, zs, e, h0, _, _, _, _, _, _, rfl, hx⟩ := hr1
      have hc1 : w1.cell? ⟨p, 1, none⟩ = some (.int .i64 e) := h0.cell 1
      clear h0 ho1
      have hq : (e != 0) = true := by simp; omega
      go_wp2
      go_ret
      rw [← HC.out]
      exact ⟨rfl, H1.out⟩
    | ok l =>
      cases l with
      | nil =>
        have c1 := octet_any base p _ wr HR.out.1
        simp only [oct] at c1
        have C1 := Lib.hid c1
        clear c1
        go_wp2_with fail
        refine C1.out.mono ?_
        rintro e w1 ⟨rfl, hr1, ho1⟩
        have H1 : Hid (RdW base p (.bad 3) w w1) := ⟨hr1, HR.out.2.trans ho1⟩
        obtain ⟨a, cap, zs, e, h0, _, _, _, _, _, _, rfl, hx⟩ := hr1
        have hc1 : w1.cell? ⟨p, 1, none⟩ = some (.int .i64 3) := h0.cell 1
        clear h0 ho1
        go_wp2
        go_ret
        rw [← HC.out]
        exact ⟨rfl, H1.out⟩
      | cons c t =>
        have c1 := octet_any base p _ wr HR.out.1
        simp only [oct] at c1
        have C1 := Lib.hid c1
        obtain ⟨hb0, hb1, _⟩ := HR.out.1.byt.1.cons
        clear c1
        by_cases hbad : (k = 9 ∧ 1 < c) ∨ (0 < k ∧ c = 0)
        · have hres := HC.out
          rw [contU_err hbad] at hres
          have HRES := Lib.hid hres
          clear hres HC
          have hways : ((k : Int) == 9) = true ∧ 1 < c ∨ ((k : Int) == 9) = true ∧ 0 < k ∧ c = 0 ∨ ((k : Int) == 9) = false ∧ 0 < k ∧ c = 0 := by
            simp; omega
          clear hbad
          rcases hways with ⟨h9, h1⟩ | ⟨h9, h1, rfl⟩ | ⟨h9, h1, rfl⟩
          all_goals
            go_wp2_with fail
            refine C1.out.mono ?_
            rintro e w1 ⟨rfl, hr1, ho1⟩
            obtain ⟨hc1, hf1, hx⟩ := hr1.ok_err
            have hx2 := hx 2 (.inl rfl)
            have H1 : Hid (RdW base p (.bad 2) w (w1.setCell ⟨p, 1, none⟩ (.int .i64 2))) := ⟨hx2.1, (HR.out.2.trans ho1).trans hx2.2⟩
            clear hr1 ho1 hx hx2
            go_wp2
            go_ret
            rw [← HRES.out]
            exact ⟨rfl, H1.out⟩
        · by_cases h128 : c < 128
          · have hres := HC.out
            rw [contU_end hbad h128] at hres
            have HRES := Lib.hid hres
            clear hres HC
            have hst := stepU_eq k n c hk hn hb0 hb1 (fun h => by omega)
            have hways : ((k : Int) == 9) = true ∧ 0 < k ∧ ¬ 1 < c ∧ (c == 0) = false ∨ ((k : Int) == 9) = false ∧ ¬ 0 < k ∨ ((k : Int) == 9) = false ∧ 0 < k ∧ (c == 0) = false := by
              simp; omega
            rw [show c.toNat % 128 = c.toNat by omega] at hst
            have HST := Lib.hid hst
            clear hbad hst
            rcases hways with ⟨h9, h1, h2, h3⟩ | ⟨h9, h1⟩ | ⟨h9, h1, h2⟩
            all_goals
              go_wp2_with fail
              refine C1.out.mono ?_
              rintro e w1 ⟨rfl, hr1, ho1⟩
              obtain ⟨hc1, hf1, _⟩ := hr1.ok_err
              have H1 : Hid (RdW base p (.ok t) w w1) := ⟨hr1, HR.out.2.trans ho1⟩
              clear hr1 ho1
              go_wp2
              go_ret
              rw [← HRES.out]
              refine ⟨ret_u64w ?_, H1.out⟩
              exact HST.out
          · have h89 : ¬ k = 9 := fun e => hbad (.inl ⟨e, by omega⟩)
            have hres := HC.out
            rw [contU_more hbad h128] at hres
            have hst := stepU_eq k n c hk hn hb0 hb1 (fun h => by omega)
            rw [show c.toNat % 128 = c.toNat - 128 by omega] at hst
            have hnn : n + (c.toNat - 128) * 128 ^ k < 128 ^ (k + 1) := by
              have h1 : (c.toNat - 128) * 128 ^ k ≤ 127 * 128 ^ k := Nat.mul_le_mul_right _ (by omega)
              rw [Nat.pow_succ]; omega
            have HRES := Lib.hid hres
            have HST := Lib.hid hst
            have HNN := Lib.hid hnn
            have hways : ((k : Int) == 9) = false ∧ ¬ 0 < k ∨ ((k : Int) == 9) = false ∧ 0 < k ∧ (c == 0) = false := by
              simp; omega
            clear hres HC hst hnn hbad
            rcases hways with ⟨h9, h1⟩ | ⟨h9, h1, h2⟩
            all_goals
              go_wp2_with fail
              refine C1.out.mono ?_
              rintro e w1 ⟨rfl, hr1, ho1⟩
              obtain ⟨hc1, hf1, _⟩ := hr1.ok_err
              have H1 : Hid (RdW base p (.ok t) w w1) := ⟨hr1, HR.out.2.trans ho1⟩
              clear hr1 ho1
              go_wp2
              go_roundw
              case rel => exact ⟨k + 1, _, _, by omega, HNN.out, congrArg (Value.int .u64) HST.out, by go_num, HRES, H1⟩
              case measure => simp [intOf]; omega

end Go.Proofs.Ythjedecfpedjbaa
