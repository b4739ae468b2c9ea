/- Contracts of mix, littleEndian, slices.Chunk and wordsOf. Conditions: bytes lie in cells. -/
import Derived.Test.YthjedecfpedjbaaProg
import Derived.Test.YthjedecfpedjbaaMath
import Derived.Test.YthjedecfpedjbaaLaw
import Derived.WalkKit
import Derived.WalkSpells
import Derived.WalkLawsBesides
import Derived.BigQuiet
import Derived.Deep.QuietTactic
import Derived.Lib.Hide
namespace Go.Proofs.Ythjedecfpedjbaa
open Go.RowKit Go.Shelf

theorem ret_u64 {a b : Int} (h : a = b) : Ending.returned (.int .u64 a) = .returned (.int .u64 b) := by rw [h]

theorem mix_any (s v : BitVec 64) (w : World) :
    Calls Try.prog 70 #[.int .u64 (U s), .int .u64 (U v)] w fun e w' => e = .returned (.int .u64 (U (mixB s v))) ∧ w = w' := by
  go_enter Try.func70, Try.ntmps70
  go_wp2
  go_ret
  exact ⟨ret_u64 (mix_form s v), rfl⟩

set_option maxHeartbeats 400000 in
theorem le_any (b off n cap : Nat) (zs : List Int) (w : World) (hn : zs.length = n) (h8 : n ≤ 8) (hz : Byt zs)
    (hc : ∀ j, j < n → w.cell? ⟨b, off + j, none⟩ = some (.int .u8 (zs[j]?.getD 0))) :
    Calls Try.prog 69 #[.slice (some ⟨b, off, none⟩) n cap] w fun e w' => e = .returned (.int .u64 (leN zs : Int)) ∧ w = w' := by
  go_enter Try.func69, Try.ntmps69
  go_wp2
  go_loop [3, 8] (fun v i => ∃ k : Nat, k ≤ n ∧ i = .int .i64 k ∧ v = .int .u64 (leN (zs.take k) : Int)) (fun _ i => n - (intOf i).toNat)
  case atStart => exact ⟨0, Nat.zero_le _, rfl, rfl⟩
  case round =>
    obtain ⟨k, hk, rfl, rfl⟩ := hrel
    by_cases hlt : k < n
    · have hck := hc k hlt
      clear hc
      go_wp2
      go_round
      case rel => exact ⟨k + 1, by omega, by go_num, by rw [or_form zs k (by omega) (by omega) hz]⟩
      case measure => simp [intOf]; omega
    · obtain rfl : k = n := by omega
      go_wp2
      go_ret
      exact ⟨ret_u64 (by rw [List.take_of_length_le (by omega)]), rfl⟩

theorem chunk_any (a : Option Addr) (n cap : Nat) (w : World) :
    Calls Try.prog 68 #[.slice a n cap, .int .i64 8] w fun e w' =>
      e = .returned (.func (.func 72) #[] #[.pointer (some ⟨w.heap.size, 0, none⟩), .pointer (some ⟨w.heap.size + 1, 0, none⟩)]) ∧ w' = (w.alloc (.cells #[.slice a n cap] 54)).alloc (.cells #[.int .i64 8] 3) := by
  go_enter Try.func68, Try.ntmps68
  go_wp2
  go_ret
  exact ⟨rfl, rfl⟩

theorem wordsOf_any (a : Option Addr) (n cap : Nat) (w : World) :
    Calls Try.prog 54 #[.slice a n cap] w fun e w' =>
      e = .returned (.func (.func 67) #[] #[.pointer (some ⟨w.heap.size, 0, none⟩)]) ∧ w' = w.alloc (.cells #[.slice a n cap] 54) := by
  go_enter Try.func54, Try.ntmps54
  go_wp2
  go_ret
  exact ⟨rfl, rfl⟩

/-- The value of the k-th group of a slice. -/
def subV (b off len k : Nat) : Value := .slice (some ⟨b, off + 8 * k, none⟩) (min 8 (len - 8 * k)) (min 8 (len - 8 * k))

attribute [local go_sem] Oper.semAt_some

set_option maxRecDepth 100000 in
set_option maxHeartbeats 1000000 in
theorem chunk_gives (bs bn b off len cap : Nat) (w : World) (hl2 : len ≤ 1000000) (hlen : len ≤ cap) (_hcap : cap ≤ 9223372036854775807)
    (hs : w.cell? ⟨bs, 0, none⟩ = some (.slice (some ⟨b, off, none⟩) len cap)) (hn : w.cell? ⟨bn, 0, none⟩ = some (.int .i64 8)) (ls : bs < w.heap.size) (ln : bn < w.heap.size) :
    Gives Try.prog 72 #[.pointer (some ⟨bs, 0, none⟩), .pointer (some ⟨bn, 0, none⟩)] (fun k => #[subV b off len k]) (nGroups len) (fun k => k = bs ∨ k = bn) w := by
  intro l J T W hW hT hJ hY h0
  have hs1 := (hW.cell (p := ⟨bs, 0, none⟩) ls).trans hs
  have hn1 := (hW.cell (p := ⟨bn, 0, none⟩) ln).trans hn
  have hsz := hW.size
  refine callsIn_of_wp Try.func72 rfl trivial ?_ rfl
  simp only [Try.ntmps72, List.size_toArray, List.length_cons, List.length_nil, Nat.reduceAdd, Nat.reduceSub, Array.replicate_succ, Array.replicate_zero, List.push_toArray, List.append_toArray, List.nil_append, List.cons_append]
  gi_wp2
  gi_loopw [4] (fun i wr => ∃ k : Nat, k ≤ nGroups len ∧ i = .int .i64 ((8 * k : Nat) : Int) ∧ J k wr ∧ W.heap.size ≤ wr.heap.size ∧ wr.cell? ⟨bs, 0, none⟩ = some (.slice (some ⟨b, off, none⟩) len cap) ∧ wr.cell? ⟨bn, 0, none⟩ = some (.int .i64 8))
    (fun i _ => 8 * nGroups len - (intOf i).toNat)
  case atStart => exact ⟨0, Nat.zero_le _, rfl, h0, Nat.le_refl _, hs1, hn1⟩
  case round =>
    obtain ⟨k, hk, rfl, hJk, hsz1, hs2, hn2⟩ := hrel
    have hg : nGroups len * 8 ≤ len + 7 := by unfold nGroups; omega
    by_cases hlt : 8 * k < len
    · have hkN : k < nGroups len := by unfold nGroups; omega
      have hTs : ¬ T bs := fun h => (hT _ h).2 (.inl rfl)
      have hTn : ¬ T bn := fun h => (hT _ h).2 (.inr rfl)
      obtain ⟨fn, tmps, assign, body, hy, hR⟩ := hY k wr.drew hkN hsz1 (hJ _ _ _ hJk ((Below.refl _ _).drew))
      unfold subV at hy
      have hafter : ∀ W3, Keep T wr.drew W3 → W3.cell? ⟨bs, 0, none⟩ = some (.slice (some ⟨b, off, none⟩) len cap) ∧ W3.cell? ⟨bn, 0, none⟩ = some (.int .i64 8) ∧ W.heap.size ≤ W3.heap.size := fun W3 hk3 =>
        ⟨(World.cell?_of_block (w := wr.drew) (hk3.2 bs (by show bs < wr.heap.size; omega) hTs)).trans hs2, (World.cell?_of_block (w := wr.drew) (hk3.2 bn (by show bn < wr.heap.size; omega) hTn)).trans hn2, Nat.le_trans hsz1 hk3.1⟩
      have Hafter := Lib.hid hafter
      have HT := Lib.hid hT
      have HJ := Lib.hid hJ
      have HY := Lib.hid hY
      clear hafter hT hJ hY hTs hTn
      rcases Nat.lt_or_ge (len - 8 * k) 8 with hm | hm
      · obtain ⟨m, rfl⟩ : ∃ m, len = 8 * k + m := ⟨len - 8 * k, by omega⟩
        rw [Nat.min_eq_right (by omega), Nat.add_sub_cancel_left] at hy
        rw [Nat.add_sub_cancel_left] at hm
        have hm0 : 0 < m := by omega
        have ht : (8 * (k : Int) + (m : Int)).toNat = 8 * k + m := by omega
        gi_wp2
        gi_region
        gi_wp2_with fail
        refine ⟨rfl, hR.mono ?_⟩
        rintro e W3 ⟨rfl, hJ3, hk3⟩
        obtain ⟨hs3, hn3, hz3⟩ := Hafter.out W3 hk3
        gi_wp2
        go_roundw
        case rel => exact ⟨k + 1, by omega, by go_num, hJ3, hz3, hs3, hn3⟩
        case measure => simp [intOf]; omega
      · rw [Nat.min_eq_left (by omega)] at hy
        gi_wp2
        gi_region
        gi_wp2_with fail
        refine ⟨rfl, hR.mono ?_⟩
        rintro e W3 ⟨rfl, hJ3, hk3⟩
        obtain ⟨hs3, hn3, hz3⟩ := Hafter.out W3 hk3
        gi_wp2
        go_roundw
        case rel => exact ⟨k + 1, by omega, by go_num, hJ3, hz3, hs3, hn3⟩
        case measure => simp [intOf]; omega
    · gi_wp2
      go_end0
      have : k = nGroups len := by unfold nGroups at *; omega
      subst this
      exact ⟨⟨_, rfl⟩, hJk⟩

end Go.Proofs.Ythjedecfpedjbaa
