/- Tokens: the reference's Source: a text of at most 400 bytes. Conditions: the slice's elements are integers of 64 bits. -/
import Derived.Test.YtgfhhpodcnohpaaDoorLRh
namespace Go.Proofs.YtgfhhpodcnohpaaDoor
open Go.RowKit Go.Shelf
set_option linter.unusedVariables false

set_option maxRecDepth 100000 in
set_option maxHeartbeats 4000000 in
theorem source_any (a : Option Addr) (cap : Nat) (zs : List Int) (w : World) (hS : Sli .i64 w a cap zs) (hz : ∀ z ∈ zs, -9223372036854775808 ≤ z ∧ z ≤ 9223372036854775807) :
    Calls Tryd.prog 22 #[.slice a zs.length cap] w fun e w' => ∃ x : ByteArray, e = .returned (.string x) ∧ x.size ≤ 400 ∧ Below w.heap.size w w' := by
  have hle := hS.le
  have hmx := hS.mx
  have HS := Lib.hid hS
  have HZ := Lib.hid hz
  obtain ⟨n, hn⟩ : ∃ n, zs.length = n := ⟨_, rfl⟩
  rw [hn] at hle ⊢
  have HN := Lib.hid hn
  clear hS hz hn
  go_enter Tryd.func22, Tryd.ntmps22
  go_wp2
  go_loopw [3, 4] (fun v i wr => ∃ (k : Nat) (x : ByteArray), k ≤ n ∧ k ≤ 20 ∧ x.size ≤ 20 * k ∧ v = .string x ∧ i = .int .i64 (k : Int) ∧ Hid (Below w.heap.size w wr)) (fun _ i _ => n - (RowKit.intOf i).toNat)
  case atStart => exact ⟨0, ⟨#[]⟩, Nat.zero_le _, Nat.zero_le _, Nat.le_refl 0, rfl, rfl, Below.refl _ _⟩
  case round =>
    obtain ⟨k, x, hk, hk20, hx, rfl, rfl, HB⟩ := hrel
    by_cases hlt : k < n
    · have hltz : (k : Int) < (n : Int) := by omega
      by_cases h20 : k < 20
      · have q20 : (k : Int) < 20 := by omega
        have hcs := (HS.out.below HB.out).cells
        have hkz : k < zs.length := by rw [HN.out]; exact hlt
        obtain ⟨b, off, hab, hbl, hc⟩ : ∃ b off, a = some ⟨b, off, none⟩ ∧ b < wr.heap.size ∧ ∀ j, j < zs.length → wr.cell? ⟨b, off + j, none⟩ = some (.int .i64 (zs[j]?.getD 0)) := by
          rcases hcs with h0 | h0
          · rw [h0] at hkz; simp at hkz
          · exact h0
        have hck := hc k hkz
        obtain ⟨z, hzk⟩ : ∃ z, zs[k]?.getD 0 = z := ⟨_, rfl⟩
        rw [hzk] at hck
        have hzb : -9223372036854775808 ≤ z ∧ z ≤ 9223372036854775807 := by
          rw [← hzk, List.getElem?_eq_getElem hkz]
          exact HZ.out _ (List.getElem_mem hkz)
        have CP := Lib.hid (fun W => part_any z W hzb.1 hzb.2)
        subst hab
        clear hc hcs hzk hkz hzb
        go_wp2_with fail
        refine (CP.out _).mono ?_
        rintro e w2 ⟨y, rfl, hy, hb2⟩
        have HB2 := Lib.hid (HB.out.trans (hb2.mono HB.out.size))
        have hsz : x.size + y.size ≤ 9223372036854775807 := by omega
        have HXY : Hid ((x ++ y).size ≤ 20 * (k + 1)) := Lib.hid (by rw [ByteArray.size_append]; omega)
        clear hb2
        go_wp2
        go_roundw
        case rel => exact ⟨k + 1, x ++ y, by omega, by omega, HXY.out, rfl, by go_num, HB2⟩
        case measure => simp only [RowKit.intOf, Int.toNat_natCast]; omega
      · have q20 : ¬ (k : Int) < 20 := by omega
        go_wp2
        go_ret
        exact ⟨_, rfl, by omega, HB.out⟩
    · have hltz : ¬ (k : Int) < (n : Int) := by omega
      go_wp2
      go_ret
      exact ⟨_, rfl, by omega, HB.out⟩

end Go.Proofs.YtgfhhpodcnohpaaDoor
