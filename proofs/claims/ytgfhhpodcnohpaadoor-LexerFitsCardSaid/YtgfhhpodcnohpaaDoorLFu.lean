/- Tokens: numbers of decimal digits: the library's ParseUint and the reference's small. Conditions: texts of at most 100000 bytes, all of them digits; the library's variable of the range error holds an error. -/
import Derived.Test.YtgfhhpodcnohpaaDoorLPu
import Derived.Test.YtgfhhpodcnohpaaDoorLPo
import Derived.Test.YtgfhhpodcnohpaaDoorLRa
namespace Go.Proofs.YtgfhhpodcnohpaaDoor
open Go.RowKit Go.Shelf
set_option linter.unusedVariables false

/-- The library's range error lies in memory. -/
def ErrW (w : World) : Prop := ∃ te pe, w.cell? ⟨5, 0, none⟩ = some (.iface te pe)
theorem ErrW.below {w w' : World} (h : ErrW w) (hb : Below w.heap.size w w') : ErrW w' := by
  obtain ⟨te, pe, hc⟩ := h
  exact ⟨te, pe, (hb.cell (World.block_lt_of_cell? w _ hc)).trans hc⟩
/-- The number that digits represent. -/
def vN : Nat → List Int → Nat
  | acc, [] => acc
  | acc, c :: r => vN (acc * 10 + (c - 48).toNat) r
theorem vN_ge : ∀ (l : List Int) (acc : Nat), acc ≤ vN acc l
  | [], acc => Nat.le_refl _
  | c :: r, acc => by
    have := vN_ge r (acc * 10 + (c - 48).toNat)
    rw [vN]
    omega
def Dig (l : List Int) : Prop := ∀ c ∈ l, 48 ≤ c ∧ c ≤ 57
theorem parse_dig : ∀ (l : List UInt8) (acc : Nat), Dig (l.map fun c => (c.toNat : Int)) →
    (∃ u, Lib.parseUintM (2 ^ 64 - 1) acc l = .ok u ∧ u = vN acc (l.map fun c => (c.toNat : Int))) ∨ (Lib.parseUintM (2 ^ 64 - 1) acc l = .range ∧ 1099511627776 < vN acc (l.map fun c => (c.toNat : Int)))
  | [], acc, _ => .inl ⟨acc, rfl, rfl⟩
  | c :: r, acc, h => by
    have hc := h (c.toNat : Int) (by simp)
    have hr : Dig (r.map fun c => (c.toNat : Int)) := fun x hx => h x (by simp only [List.map_cons]; exact List.mem_cons_of_mem _ hx)
    have hd : ((c.toNat : Int) - 48).toNat = c.toNat - 48 := by omega
    have hge := vN_ge (r.map fun c => (c.toNat : Int)) (acc * 10 + (c.toNat - 48))
    rw [Lib.parseUintM, if_pos (by omega), List.map_cons, vN, hd]
    by_cases h1 : 1844674407370955162 ≤ acc
    · rw [if_pos h1]
      exact .inr ⟨rfl, by omega⟩
    · rw [if_neg h1]
      by_cases h2 : 2 ^ 64 - 1 < acc * 10 + (c.toNat - 48)
      · rw [if_pos h2]
        exact .inr ⟨rfl, by omega⟩
      · rw [if_neg h2]
        exact parse_dig r (acc * 10 + (c.toNat - 48)) hr
/-- At most 2^40. -/
def smV (l : List Int) : Bool := decide (vN 0 l ≤ 1099511627776)
/-- What ParseUint hands back for digits. -/
def PuP (s : ByteArray) (w : World) (e : Ending) (w' : World) : Prop :=
  ∃ (n : Nat) (ev : Value), e = .returned (.tuple #[.int .u64 (n : Int), ev]) ∧ Below w.heap.size w w' ∧ ((ev = .nilIface ∧ smV (sb s) = decide (n ≤ 1099511627776)) ∨ ((∃ te pe, ev = .iface te pe) ∧ smV (sb s) = false))
theorem pu_any (s : ByteArray) (hs : s.size ≤ 100000) (h0 : 0 < s.size) (hd : Dig (sb s)) (w : World) (hE : ErrW w) :
    Calls Tryd.prog 47 #[.string s, .int .i64 10, .int .i64 64] w (PuP s w) := by
  have hne : s.data.toList ≠ [] := fun e => by
    have := congrArg List.length e
    have h2 : s.data.toList.length = s.size := rfl
    rw [List.length_nil] at this
    omega
  have hB : Lib.parseUintB 64 s.data.toList = Lib.parseUintM (2 ^ 64 - 1) 0 s.data.toList := by unfold Lib.parseUintB; rw [if_neg hne]
  rcases parse_dig s.data.toList 0 hd with ⟨u, hu, hv⟩ | ⟨hr, hv⟩
  · refine (Any.strconv_ParseUint_10_at64_ok Hs.puA s (by omega) u (hB.trans hu) w).mono ?_
    rintro e w' ⟨rfl, hw⟩
    refine ⟨u, _, rfl, ?_, .inl ⟨rfl, ?_⟩⟩
    · rcases hw with rfl | rfl
      · exact Below.refl _ _
      · exact Lib.bytesWorld_below _ _ _
    · rw [hv]
      rfl
  · obtain ⟨te, pe, hc⟩ := hE
    refine (Any.strconv_ParseUint_10_at64_range Hs.puA s (by omega) (hB.trans hr) (.iface te pe) w hc (.inr ⟨te, pe, rfl⟩)).mono ?_
    rintro e w' ⟨N, rfl, _, _, hb⟩
    refine ⟨18446744073709551615, _, rfl, hb, .inr ⟨⟨_, _, rfl⟩, ?_⟩⟩
    unfold smV
    exact decide_eq_false (by have : vN 0 (sb s) = vN 0 (s.data.toList.map fun c => (c.toNat : Int)) := rfl; omega)

theorem vN_snoc : ∀ (l : List Int) (acc : Nat) (c : Int), vN acc (l ++ [c]) = vN acc l * 10 + (c - 48).toNat
  | [], acc, c => rfl
  | d :: r, acc, c => by rw [List.cons_append, vN, vN, vN_snoc r]
set_option maxRecDepth 100000 in
set_option maxHeartbeats 2000000 in
theorem rsmall_any (s : ByteArray) (hs : s.size ≤ 100000) (hd : Dig (sb s)) (w : World) :
    Calls Tryd.prog 50 #[.string s] w fun e w' => e = .returned (.bool (smV (sb s))) ∧ w' = w := by
  have HD := Lib.hid hd
  have HST : Hid (∀ k (hk : k < s.size), vN 0 ((sb s).take (k + 1)) = vN 0 ((sb s).take k) * 10 + (((s[k]'hk).toNat : Int) - 48).toNat) := Lib.hid fun k hk => by
    rw [List.take_succ_eq_append_getElem (by rw [sb_len]; exact hk), vN_snoc]
    have h1 := sbAt s k hk
    rw [List.getElem?_eq_getElem (by rw [sb_len]; exact hk)] at h1
    rw [Option.some.inj h1]
  have HBIG : Hid (∀ k, 1099511627776 < vN 0 ((sb s).take k) → smV (sb s) = false) := Lib.hid fun k h => by
    unfold smV
    apply decide_eq_false
    have h1 : ∀ (a b : List Int) (acc : Nat), vN acc (a ++ b) = vN (vN acc a) b := by
      intro a
      induction a with
      | nil => intro b acc; rfl
      | cons c r ih => intro b acc; rw [List.cons_append, vN, vN, ih]
    have h2 := h1 ((sb s).take k) ((sb s).drop k) 0
    rw [List.take_append_drop] at h2
    have h3 := vN_ge ((sb s).drop k) (vN 0 ((sb s).take k))
    omega
  have HALL : Hid (vN 0 ((sb s).take s.size) ≤ 1099511627776 → smV (sb s) = true) := Lib.hid fun h => by
    rw [← sb_len, List.take_length] at h
    unfold smV
    exact decide_eq_true h
  clear hd
  go_enter Tryd.func50, Tryd.ntmps50
  go_wp2
  go_loop [3, 4] (fun v3 vi => ∃ (k n : Nat), k ≤ s.size ∧ n ≤ 1099511627776 ∧ v3 = .int .i64 (n : Int) ∧ vi = .int .i64 (k : Int) ∧ Hid (vN 0 ((sb s).take k) = n)) (fun _ vi => s.size - (RowKit.intOf vi).toNat)
  case atStart => exact ⟨0, 0, Nat.zero_le _, Nat.zero_le _, rfl, rfl, rfl⟩
  case round =>
    obtain ⟨k, n, hk, hn, rfl, rfl, HV⟩ := hrel
    by_cases hlt : k < s.size
    · have hltz : (k : Int) < (s.size : Int) := by omega
      have hst := HST.out k hlt
      have hget := sbAt s k hlt
      have hdg := HD.out _ (List.mem_of_getElem? hget)
      obtain ⟨c, hc⟩ : ∃ c : Int, ((s[k]'hlt).toNat : Int) = c := ⟨_, rfl⟩
      rw [hc] at hst hdg
      rw [HV.out] at hst
      obtain ⟨d, hdd⟩ : ∃ d : Nat, (c - 48).toNat = d := ⟨_, rfl⟩
      have hcd : c - 48 = (d : Int) := by omega
      have hd9 : d ≤ 9 := by omega
      rw [hdd] at hst
      have hw8 : IntKind.u8.wrap (c - 48) = (d : Int) := by rw [hcd]; simp [IntKind.wrap, IntKind.signed, IntKind.bits]; omega
      have hw8' : IntKind.u8.wrap ((d : Nat) : Int) = (d : Int) := by simp [IntKind.wrap, IntKind.signed, IntKind.bits]; omega
      have hwi : IntKind.i64.wrap ((d : Nat) : Int) = (d : Int) := by simp [IntKind.wrap, IntKind.signed, IntKind.bits]; omega
      have HST1 := Lib.hid hst
      obtain ⟨m, hm⟩ : ∃ m, n * 10 + d = m := ⟨_, rfl⟩
      have hmz : 10 * (n : Int) + (d : Int) = (m : Int) := by omega
      have HM := Lib.hid hm
      have hm3 : m ≤ 10995116277769 := by omega
      clear hst hget hdg hdd hm
      by_cases hb : 1099511627776 < m
      · have HF := Lib.hid (HBIG.out (k + 1) (by rw [HST1.out, HM.out]; exact hb))
        have hbz : (1099511627776 : Int) < (m : Int) := by omega
        go_wp2
        go_ret
        exact ⟨by rw [HF.out]; rfl, rfl⟩
      · have hbz : ¬ (1099511627776 : Int) < (m : Int) := by omega
        have HV2 : Hid (vN 0 ((sb s).take (k + 1)) = m) := Lib.hid (by rw [HST1.out, HM.out])
        go_wp2
        refine ⟨⟨k + 1, m, by omega, by omega, by first | rfl | go_num, by go_num, HV2⟩, ?_⟩
        simp only [RowKit.intOf, Int.toNat_natCast]
        omega
    · obtain rfl : k = s.size := by omega
      have hltz : ¬ (s.size : Int) < (s.size : Int) := by omega
      have HF := Lib.hid (HALL.out (by rw [HV.out]; exact hn))
      go_wp2
      go_ret
      exact ⟨by rw [HF.out]; rfl, rfl⟩

end Go.Proofs.YtgfhhpodcnohpaaDoor
