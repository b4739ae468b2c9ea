/- The examples of the chapter hold. It has no conditions. -/
import Derived.Test.YthjedecfpedjbaaPAtP
import Derived.Test.YthjedecfpedjbaaPOffP
import Derived.Test.YthjedecfpedjbaaPEx
namespace Go.Proofs.Ythjedecfpedjbaa
open Go.RowKit Go.Shelf
set_option linter.unusedVariables false

theorem pat_at {s : ByteArray} {off : Int} {l u : Nat} {er : Int} (x y : Int) (hx : (l : Int) = x) (hy : (u : Int) = y) (w : World) (hs : s.size ≤ 100000) (h1 : -9223372036854775808 ≤ off) (h2 : off ≤ 9223372036854775807) (h : AtSpec (sb s) off l u er) :
    Calls Try.prog 22 #[.string s, .int .i64 off] w fun e w' => e = .returned (.tuple #[.agg #[.int .i64 x, .int .i64 y], .int .i64 er]) ∧ Below w.heap.size w w' := by
  subst hx hy
  refine (pat_any s off w hs h1 h2).mono ?_
  rintro e w' ⟨l', u', er', rfl, hsp, hb⟩
  obtain ⟨rfl, rfl, rfl⟩ := hsp.det h
  exact ⟨rfl, hb⟩
theorem poff_at {s : ByteArray} {l u : Int} {o : Nat} {er : Int} (x : Int) (hx : (o : Int) = x) (w : World) (hs : s.size ≤ 100000) (h1 : -9223372036854775808 ≤ l ∧ l ≤ 9223372036854775807) (h2 : -9223372036854775808 ≤ u ∧ u ≤ 9223372036854775807) (h : OffSpec (sb s) l u o er) :
    Calls Try.prog 20 #[.string s, .agg #[.int .i64 l, .int .i64 u]] w fun e w' => e = .returned (.tuple #[.int .i64 x, .int .i64 er]) ∧ Below w.heap.size w w' := by
  subst hx
  refine (poff_any s l u w hs h1 h2).mono ?_
  rintro e w' ⟨o', er', rfl, hsp, hb⟩
  obtain ⟨rfl, rfl⟩ := hsp.det h
  exact ⟨rfl, hb⟩

set_option maxRecDepth 100000 in
set_option maxHeartbeats 4000000 in
theorem plives_any (w : World) : Calls Try.prog 19 #[] w fun e w' => e = .returned (.bool true) ∧ Below w.heap.size w w' := by
  obtain ⟨P, hP⟩ : ∃ P, w.heap.size = P := ⟨_, rfl⟩
  have HP := Lib.hid hP
  have c1 := fun W => pat_at (s := exB) 0 3 rfl rfl W (by decide) (by decide) (by decide) ex_at5
  have c2 := fun W => pat_at (s := exB) 1 1 rfl rfl W (by decide) (by decide) (by decide) ex_at9
  have c3 := fun W => pat_at (s := exB) 0 0 rfl rfl W (by decide) (by decide) (by decide) ex_at2
  have c4 := fun W => poff_at (s := exB) 10 rfl W (by decide) (by decide) (by decide) ex_off12
  have c5 := fun W => poff_at (s := exB) 0 rfl W (by decide) (by decide) (by decide) ex_off02
  have c6 := fun W => poff_at (s := exB) 0 rfl W (by decide) (by decide) (by decide) ex_off04
  have c7 := fun W => punits_any exB W (by decide)
  rw [ex_units, show ((6 : Nat) : Int) = 6 from rfl] at c7
  have C1 := Lib.hid c1; have C2 := Lib.hid c2; have C3 := Lib.hid c3; have C4 := Lib.hid c4; have C5 := Lib.hid c5; have C6 := Lib.hid c6; have C7 := Lib.hid c7
  clear hP c1 c2 c3 c4 c5 c6 c7
  go_enter Try.func19, Try.ntmps19
  go_wp2_with fail
  refine (C1.out _).mono ?_
  rintro e w1 ⟨rfl, b1⟩
  rw [HP.out] at b1
  have H1 := Lib.hid b1
  clear b1
  go_wp2_with fail
  refine (C2.out _).mono ?_
  rintro e w2 ⟨rfl, b2⟩
  have s1 : P ≤ w1.heap.size := by have := H1.out.size; have := HP.out; omega
  have s2 : w1.heap.size < w2.heap.size := by have := b2.size; simp at this; omega
  have p20 := b2.cell (p := ⟨w1.heap.size, 0, none⟩) (by simp)
  have p21 := b2.cell (p := ⟨w1.heap.size, 1, none⟩) (by simp)
  simp at p20 p21
  have H2 : Hid (Below P w w2) := (H1.out.alloc s1 _).trans (b2.mono (by simp; omega))
  clear b2
  go_wp2_with fail
  refine (C3.out _).mono ?_
  rintro e w3 ⟨rfl, b3⟩
  have s3 : w2.heap.size < w3.heap.size := by have := b3.size; simp at this; omega
  have q30 := b3.cell (p := ⟨w2.heap.size, 0, none⟩) (by simp)
  have q31 := b3.cell (p := ⟨w2.heap.size, 1, none⟩) (by simp)
  have p30 := (b3.cell (p := ⟨w1.heap.size, 0, none⟩) (by simp; omega))
  have p31 := (b3.cell (p := ⟨w1.heap.size, 1, none⟩) (by simp; omega))
  have B3 := Lib.hid b3
  have H3 : Hid (Below P w w3) := (H2.out.alloc (by omega) _).trans (b3.mono (by simp; omega))
  have e30 : w3.cell? ⟨w1.heap.size, 0, none⟩ = some (.int .i64 0) := by rw [p30]; exact (World.cell?_of_block (Below.heap_alloc w2 _ w1.heap.size s2)).trans p20
  have e31 : w3.cell? ⟨w1.heap.size, 1, none⟩ = some (.int .i64 3) := by rw [p31]; exact (World.cell?_of_block (Below.heap_alloc w2 _ w1.heap.size s2)).trans p21
  simp at q30 q31
  clear b3 p30 p31 p20 p21
  go_wp2_with fail
  refine (C4.out _).mono ?_
  rintro e w4 ⟨rfl, b4⟩
  have keep : ∀ {W : World} {a : Nat} {i : Nat} {v : Value}, Below (w3.alloc (.cells #[.int .i64 0, .int .i64 0] 32)).heap.size (w3.alloc (.cells #[.int .i64 0, .int .i64 0] 32)) W → a < w3.heap.size → w3.cell? ⟨a, i, none⟩ = some v → W.cell? ⟨a, i, none⟩ = some v := by
    intro W a i v hb ha hv
    rw [hb.cell (p := ⟨a, i, none⟩) (by simp; omega)]
    exact (World.cell?_of_block (Below.heap_alloc w3 _ a ha)).trans hv
  have B4 := Lib.hid b4
  clear b4
  go_wp2_with fail
  refine (C5.out _).mono ?_
  rintro e w5 ⟨rfl, b5⟩
  have B5 := Lib.hid (B4.out.trans (b5.mono B4.out.size))
  clear b5
  go_wp2_with fail
  refine (C6.out _).mono ?_
  rintro e w6 ⟨rfl, b6⟩
  have B6 := Lib.hid (B5.out.trans (b6.mono B5.out.size))
  clear b6
  go_wp2_with fail
  refine (C7.out _).mono ?_
  rintro e w7 ⟨rfl, b7⟩
  have B7 := Lib.hid (B6.out.trans (b7.mono B6.out.size))
  have f0 := keep B7.out (by omega) e30
  have f1 := keep B7.out (by omega) e31
  have g0 := keep B7.out (by omega) q30
  have g1 := keep B7.out (by omega) q31
  have H7 : Hid (Below P w w7) := (H3.out.alloc (by omega) _).trans (B7.out.mono (by simp; omega))
  clear b7 e30 e31 q30 q31 keep
  go_wp2
  go_ret
  exact ⟨rfl, by rw [HP.out]; exact H7.out⟩

end Go.Proofs.Ythjedecfpedjbaa
