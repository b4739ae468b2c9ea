/- The contract of Bytes at one edit, and what two borders make of it. Conditions: texts of at most 100000 bytes. -/
import Derived.Test.YthjedecfpedjbaaPEd5
import Derived.Test.YthjedecfpedjbaaPCnt
namespace Go.Proofs.Ythjedecfpedjbaa
open Go.RowKit Go.Shelf
set_option linter.unusedVariables false

theorem pbytes_one (s : ByteArray) (p : PE) (d : Ed) (er : Int) (q : Nat) (w : World) (hs : s.size ≤ 100000) (hp : p.fit) (hq : Blk w q 43 p.vals.toArray) (h : EdS (sb s) p d er) :
    Calls Try.prog 25 #[.string s, .slice (some ⟨q, 0, none⟩) 1 1] w fun e w' => Below w.heap.size w w' ∧
      ((er ≠ 0 ∧ e = .returned (.tuple #[.slice none 0 0, .int .i64 er])) ∨
       (er = 0 ∧ ∃ a cap, e = .returned (.tuple #[.slice a 1 cap, .int .i64 0]) ∧ 1 ≤ cap ∧ cap ≤ 9223372036854775807 ∧ ECells w'.heap.size w' a 1 (fun _ => d))) := by
  refine (pbytes_any s (some ⟨q, 0, none⟩) 1 1 (fun _ => p) (fun _ => d) (fun _ => er) w hs (by omega) (by omega) (fun _ _ => hp) (.inr ⟨q, 0, rfl, hq.lt, fun k hk i hi => ?_⟩) (fun _ _ => h)).mono ?_
  · obtain rfl : k = 0 := by omega
    rw [hq.cell]
    simp
  · rintro e w' (⟨hl, _⟩ | ⟨_, hb, ⟨er', ⟨k, _, h1, h2, _⟩, rfl⟩ | ⟨hz, a, cap, rfl, h1, h2, h3⟩⟩)
    · omega
    · simp only at h1
      subst h1
      exact ⟨hb, .inl ⟨h2, rfl⟩⟩
    · exact ⟨hb, .inr ⟨hz 0 (by omega), a, cap, rfl, h1, h2, h3⟩⟩
theorem border_mono {Z : List Int} {i j x y : Nat} (hj : j < (bordI Z).length) (h1 : (bordI Z)[i]?.getD 0 = (x : Int)) (h2 : (bordI Z)[j]?.getD 0 = (y : Int)) (hij : i ≤ j) : x ≤ y := by
  rcases Nat.lt_or_ge i j with h | h
  · have hl : (bordI Z).length = (bords 0 Z).length := by simp [bordI]
    have hp := List.pairwise_iff_getElem.1 (bords_pair Z 0) i j (by omega) (by omega) h
    have e1 : (bordI Z)[i]?.getD 0 = (((bords 0 Z)[i]'(by omega) : Nat) : Int) := by simp [bordI, show i < (bords 0 Z).length by omega]
    have e2 : (bordI Z)[j]?.getD 0 = (((bords 0 Z)[j]'(by omega) : Nat) : Int) := by simp [bordI, show j < (bords 0 Z).length by omega]
    rw [e1] at h1
    rw [e2] at h2
    omega
  · obtain rfl : i = j := by omega
    omega
theorem ed_there {Z : List Int} {l1 u1 l2 u2 x y : Nat} (t : ByteArray) (h1 : Pos Z x l1 u1) (h2 : Pos Z y l2 u2) (h : x ≤ y) : EdS Z ⟨l1, u1, l2, u2, t⟩ ⟨x, y, t⟩ 0 :=
  ⟨x, 0, y, 0, .inl ⟨rfl, l1, u1, rfl, rfl, h1⟩, .inl ⟨rfl, l2, u2, rfl, rfl, h2⟩, .inr (.inr (.inr ⟨rfl, rfl, h, rfl, rfl⟩))⟩
theorem ed_back {Z : List Int} {l1 u1 l2 u2 x y : Nat} (t : ByteArray) (h1 : Pos Z x l1 u1) (h2 : Pos Z y l2 u2) (h : y < x) : EdS Z ⟨l1, u1, l2, u2, t⟩ Ed.zero 1 :=
  ⟨x, 0, y, 0, .inl ⟨rfl, l1, u1, rfl, rfl, h1⟩, .inl ⟨rfl, l2, u2, rfl, rfl, h2⟩, .inr (.inr (.inl ⟨rfl, rfl, h, rfl, rfl⟩))⟩

end Go.Proofs.Ythjedecfpedjbaa
