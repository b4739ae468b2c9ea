/- Ints copies the first integers. It has no conditions. -/
import Derived.Test.YtfecajeenmnoeaaBase
namespace Go.Proofs.Ytfecajeenmnoeaa
open Go.RowKit Go.Shelf

set_option maxRecDepth 100000 in
set_option maxHeartbeats 1000000 in
theorem ints_any (a : Option Addr) (cap M : Nat) (zs : List Int) (w : World) (h : Sli .i64 w a cap zs) (hM : M ≤ 1000) :
    Calls Try.prog 18 #[.slice a zs.length cap, .int .i64 (M : Int)] w (NewRow .i64 3 w (zs.take M)) := by
  obtain ⟨i0, hi, hz0, hz1, hz2⟩ := info_parts info3
  obtain ⟨hle, hmx, hnil, hc⟩ := h
  have hlen : (zs.take M).length = min zs.length M := by rw [List.length_take, Nat.min_comm]
  have HL := Lib.hid hlen
  have HC := Lib.hid hc
  clear hlen hc
  cases a with
  | none =>
    have h0 := hnil rfl
    subst h0
    have hz : zs.length = 0 := by omega
    obtain rfl : zs = [] := List.eq_nil_of_length_eq_zero hz
    clear hz hnil hle hmx HL HC
    go_enter Try.func18, Try.ntmps18
    go_wp2_with (at_builtin; refine wpList_append_own_none rfl _ _ 22 rfl w.heap.size 3 i0 1 Try.underlying22 hi (.slice none 0 0) 0 [] rfl (World.ownsRow_nil _ _ _ _) rfl ?_)
    go_ret
    exact ⟨_, rfl, by simpa using World.ownsRow_nil w w.heap.size 3 1, Below.refl _ _⟩
  | some ad =>
    clear hnil
    have hnew := cells_take HC.out M
    rcases Nat.lt_or_ge M zs.length with hlt | hge
    · obtain ⟨n, hn⟩ : ∃ n, zs.length = n := ⟨_, rfl⟩
      rw [hn] at hle hlt ⊢
      have hl2 : ((zs.take M).map (Value.int .i64)).length = M * 1 := by rw [List.length_map, HL.out]; omega
      have HN := Lib.hid hn
      have HW := Lib.hid hnew
      have HL2 := Lib.hid hl2
      clear hn hnew hl2
      go_enter Try.func18, Try.ntmps18
      go_wp2_with (at_builtin; refine wpList_append_own _ rfl _ _ 22 rfl w.heap.size 3 i0 (.int .i64 0) 1 8 Try.underlying22 hi hz0 hz1 hz2 rfl (by decide) (.slice none 0 0) 0 [] rfl (World.ownsRow_nil _ _ _ _) ad M cap ((zs.take M).map (Value.int .i64)) rfl HL2.out HW.out (one_ints _ _) (by unfold maxLen; omega) (by omega) (Nat.le_refl _) ?_; intro v' w1 hown hgrow _)
      go_ret
      have hown' : w1.ownsRow w.heap.size 3 1 v' (zs.take M).length ((zs.take M).map (Value.int .i64)) := by rw [HL.out, HN.out, Nat.min_eq_right (by omega)]; simpa using hown
      exact ⟨_, rfl, hown', (Below.refl _ _).grown hgrow (Nat.le_refl _) (fun k e => by cases e)⟩
    · obtain ⟨n, hn⟩ : ∃ n, zs.length = n := ⟨_, rfl⟩
      rw [hn] at hle hge ⊢
      have hl2 : ((zs.take M).map (Value.int .i64)).length = n * 1 := by rw [List.length_map, HL.out]; omega
      have HN := Lib.hid hn
      have HW := Lib.hid hnew
      have HL2 := Lib.hid hl2
      clear hn hnew hl2
      go_enter Try.func18, Try.ntmps18
      go_wp2_with (at_builtin; refine wpList_append_own _ rfl _ _ 22 rfl w.heap.size 3 i0 (.int .i64 0) 1 8 Try.underlying22 hi hz0 hz1 hz2 rfl (by decide) (.slice none 0 0) 0 [] rfl (World.ownsRow_nil _ _ _ _) ad n cap ((zs.take M).map (Value.int .i64)) rfl HL2.out HW.out (one_ints _ _) (by unfold maxLen; omega) (by omega) (Nat.le_refl _) ?_; intro v' w1 hown hgrow _)
      go_ret
      have hown' : w1.ownsRow w.heap.size 3 1 v' (zs.take M).length ((zs.take M).map (Value.int .i64)) := by rw [HL.out, HN.out, Nat.min_eq_left (by omega)]; simpa using hown
      exact ⟨_, rfl, hown', (Below.refl _ _).grown hgrow (Nat.le_refl _) (fun k e => by cases e)⟩
theorem ints_sli (X : List Int) (a : Option Addr) (cap M : Nat) (zs : List Int) (w : World) (h : Sli .i64 w a cap zs) (hM : M ≤ 1000) (hX : zs.take M = X) :
    Calls Try.prog 18 #[.slice a zs.length cap, .int .i64 (M : Int)] w (NewSli .i64 w X) := by
  subst hX; exact (ints_any a cap M zs w h hM).mono fun _ _ => newSli_of_row

end Go.Proofs.Ytfecajeenmnoeaa
