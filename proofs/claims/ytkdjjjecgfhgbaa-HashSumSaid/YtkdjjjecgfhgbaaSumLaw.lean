/- For every label (its first 40 bytes) and every list of integers (its first 12), Sum agrees with the reference model (P1.1). It has no conditions. The frame below is the guide's shell. -/
/-
  THE SHELL OF A PROOF OF 'Rows.HashSumSaid' ('schemalens/schemalenslaw01.HashSum'), WRITTEN BY PROGRAM (proof-skeleton.mjs, third state) off the guide's own print for that function. Not trusted: Lean checks it.
  YOURS IS THE HOLE MARKED 'HOLE' (it bears 'sorry'). ALL ELSE IS THE GUIDE's OWN WAY (howto/template/XProofs.lean; Derived/Test/ChunkProofs.lean for 'Below') at this function's number and types: leave it.
-/
import Derived.Test.YtkdjjjecgfhgbaaRows
import Derived.Test.YtkdjjjecgfhgbaaRSum
import Derived.WalkKit
import Derived.ProofKit
import Derived.OpenShut
import Derived.ShutString
import Derived.ChangeOld
import Derived.Below
namespace Go.Proofs.Ytkdjjjecgfhgbaa.hashSum
open Go.ChangeShapes Go.WideShapes Go.ChangeAt Go.RowKit
open Go.ChangeMaps (open_string shut_string)
set_option linter.unusedVariables false

theorem own : ownKnob Try.prog.godebug = none := by kernel_rfl
theorem laidOut : laidOutB Try.prog = true := by kernel_rfl

theorem sli_nil (w : World) : Sli .i64 w none 0 [] := ⟨by simp, by decide, fun _ => rfl, .inl rfl⟩

set_option maxRecDepth 100000 in
set_option maxHeartbeats 2000000 in
theorem walkB (s : ByteArray) (a : Option Addr) (ca : Nat) (xs : List Int) (w : World) (hs : s.size ≤ 9223372036854775807) (hx : Sli .i64 w a ca xs) :
    Calls Try.prog 3 #[.string s, .slice a xs.length ca] w fun e w' => e = .returned (.bool true) ∧ Below w.heap.size w w' := by
  obtain ⟨X, hX⟩ : ∃ X, xs.take 12 = X := ⟨_, rfl⟩
  have hXl : X.length ≤ 12 := by rw [← hX, List.length_take]; omega
  obtain ⟨S, hS⟩ : ∃ S, shS s 40 = S := ⟨_, rfl⟩
  have hSl : S.size ≤ 40 := by rw [← hS]; exact shS_size s 40
  have c0 := fun W => short_any s 40 W hs (by omega)
  rw [hS] at c0
  obtain ⟨p, hp⟩ : ∃ p, U (sumS (sb S) X) = p := ⟨_, rfl⟩
  obtain ⟨q, hq⟩ : ∃ q, U (sumS (sb S) []) = q := ⟨_, rfl⟩
  have c1 := fun W h => ints_sli X a ca 12 xs W h (by omega) hX
  have c3 := fun a1 c1 W h => sum_sli S a1 c1 X W h (by omega) (by omega) p hp
  have c4 := fun a1 c1 W h => rsum_any S a1 c1 X W (by omega) (by omega) h p hp
  have c5 := fun W => sum_sli S none 0 [] W (sli_nil W) (by omega) (by simp) q hq
  have c6 := fun W => rsum_any S none 0 [] W (by omega) (by simp) (sli_nil W) q hq
  have C0 := Lib.hid c0; have C1 := Lib.hid c1; have C3 := Lib.hid c3; have C4 := Lib.hid c4; have C5 := Lib.hid c5; have C6 := Lib.hid c6
  have HX := Lib.hid hx
  clear c0 c1 c3 c4 c5 c6 hX hp hq hx hS
  go_enter Try.func3, Try.ntmps3
  go_wp2_with fail
  refine (C0.out _).mono ?_
  rintro e w' ⟨rfl, rfl⟩
  go_wp2_with fail
  refine (C1.out _ HX.out).mono ?_
  rintro e w1 ⟨a1, k1, rfl, s1, b1⟩
  have H1 := Lib.hid (And.intro s1 b1)
  clear s1 b1
  go_wp2_with fail
  refine (C3.out _ _ _ H1.out.1).mono ?_
  rintro e w2 ⟨rfl, b2⟩
  have H2 : Hid (Sli .i64 w2 a1 k1 X ∧ Below w.heap.size w w2) := ⟨H1.out.1.below b2, H1.out.2.trans (b2.mono H1.out.2.size)⟩
  clear b2 H1
  go_wp2_with fail
  refine (C4.out _ _ _ H2.out.1).mono ?_
  rintro e w3 ⟨rfl, b3⟩
  have H3 : Hid (Below w.heap.size w w3) := H2.out.2.trans (b3.mono H2.out.2.size)
  clear b3 H2
  go_wp2_with fail
  refine (C5.out _).mono ?_
  rintro e w4 ⟨rfl, b4⟩
  have H4 : Hid (Below w.heap.size w w4) := H3.out.trans (b4.mono H3.out.size)
  clear b4 H3
  go_wp2_with fail
  refine (C6.out _).mono ?_
  rintro e w5 ⟨rfl, b5⟩
  have H5 : Hid (Below w.heap.size w w5) := H4.out.trans (b5.mono H4.out.size)
  clear b5 H4
  go_wp2_with fail
  refine (lives_any _).mono ?_
  rintro e w6 ⟨rfl, b6⟩
  have H6 : Hid (Below w.heap.size w w6) := H5.out.trans (b6.mono H5.out.size)
  clear b6 H5
  go_wp2
  go_ret
  exact ⟨rfl, H6.out⟩

theorem walk (a0 : ByteArray) (a1 : Option Addr) (len1 cap1 : Nat) (z1 : List Int) (w : World) (w0 : a0.size ≤ maxLen) (w1 : IsRow .i64 w a1 len1 cap1 z1) :
    Calls Try.prog 3 #[.string a0, .slice a1 len1 cap1] w fun e w' => e = .returned (.bool true) ∧ Below w.heap.size w w' := by
  obtain ⟨xs, rfl, hx, _⟩ := sli_of_isRow w1
  exact walkB a0 a1 cap1 xs w (by unfold maxLen at w0; omega) hx

/-! ### THE ROW's STEP: WRITTEN OUT: LEAVE IT -/
set_option maxRecDepth 100000 in
theorem lifted (os : Os) (started : os.Started) (H : Type) (enc : TypeId × Value → H) :
    ReturnsInHanded {} Try.checked os 3 .any (Rows.hashSumSpec.pre6 enc Try.prog Try.f3 Rows.hashSumRow.domain false) (Rows.hashSumSpec.post enc Try.prog Try.f3 false true false false) := by
  refine returnsInHanded_of_change (C := Try.checked) own started (by kernel_rfl) Try.func3
    (ChangeSpec.witness6 (enc := enc) (C := Try.checked) false ⟨#[], #[.string ByteArray.empty, .slice none 0 0], []⟩ 8 (by kernel_rfl) (by kernel_rfl) (by kernel_rfl) (by kernel_rfl)) ?_
  intro W base args ds gs before hval0 hW hcnd _
  have hval : ∀ (j : Nat) t v, Try.f3.params[j]? = some t → args[j]? = some v → Value.okWide Try.prog W .any base t v := hval0
  have hW' := hW
  obtain ⟨p, q, hA0, hV, rfl, hfz, hnd⟩ := hW
  have hA : DataW.TrodAll enc Try.prog W 0 (fun _ => true) true Try.f3.params.toList args.toList ds p := hA0
  rw [Try.params3] at hA hval
  obtain ⟨v0, vs0, d0, ds0, p0, q0, hargs, rfl, rfl, h0, r0⟩ := trodAll_cons hA
  obtain ⟨v1, vs1, d1, ds1, p1, q1, rfl, rfl, rfl, h1, r1⟩ := trodAll_cons r0
  obtain ⟨rfl, rfl, rfl⟩ := trodAll_nil r1
  obtain rfl : args = #[v0, v1] := by cases args; simp_all
  obtain ⟨rfl, rfl⟩ := trodVars_none hV
  obtain ⟨a0, rfl, rfl, rfl, w0⟩ := open_string Try.underlying9 (hval 0 9 v0 rfl rfl) h0
  obtain ⟨a1, len1, cap1, rfl⟩ := okWide_slice Try.underlying22 (hval 1 22 v1 rfl rfl)
  have k1 := h1
  have lt1 : ∀ x ∈ p1, x.block < W.heap.size := by obtain ⟨m, hm⟩ := k1; exact DataW.trod_lt m _ _ _ hm
  obtain ⟨z1, w1⟩ : ∃ zs, IsRow .i64 W a1 len1 cap1 zs := by
    obtain ⟨fuel, hf⟩ := h1
    rcases open_ints Try.underlying22 Try.underlying3 (by kernel_rfl) hf with ⟨hcs, _⟩ | ⟨x, l, c, zs, hcs, _, hl, hm, hz, _, hcell, hwz⟩
    · simp [Value.cells] at hcs
      obtain ⟨rfl, rfl, rfl⟩ := hcs
      exact ⟨[], .inl ⟨rfl, rfl, rfl, rfl⟩⟩
    · simp [Value.cells] at hcs
      obtain ⟨rfl, rfl, rfl⟩ := hcs
      exact ⟨zs, .inr ⟨_, rfl, hl, hm, by simpa using hz, hcell, hwz⟩⟩
  clear hA0 hval0
  refine (walk a0 a1 len1 cap1 z1 W w0 w1).mono fun e W' ⟨he, bel⟩ => ?_
  subst he
  exact ⟨_, rfl, _, _, _, [], _, [], hW', trodAll_mk1 (shut_bool Try.underlying4 _), (trodAll_cons_mk (shut_string Try.underlying9 w0) (trodAll_cons_mk (Below.trod laidOut (by kernel_rfl) (of_decide_eq_true (by kernel_rfl)) k1 bel lt1) trodAll_mk0)), rfl, bel.frame _, fun h => by cases h⟩

theorem over : Rows.hashSumRow.holds Try.pinned (OpenSpec.ofChange Rows.hashSumSpec) :=
  OpenClaim.holds_of_wide 3 Try.f3 rfl rfl rfl rfl rfl rfl rfl ⟨rfl, rfl, rfl, rfl, rfl⟩ rfl rfl rfl rfl rfl (by kernel_rfl) Try.func3 (by kernel_rfl)
    (of_decide_eq_true (by kernel_rfl)) (by unfold Func.isWrapper; first | (rw [if_pos (by decide +kernel)]; kernel_rfl) | (rw [if_neg (by decide +kernel)]; exact ⟨rfl, rfl⟩))
    (fun os started H enc _ => lifted os started H enc)

/-- ████ THE STATEMENT ████ -/
theorem proved : Rows.HashSumSaid := over
#print axioms proved
end Go.Proofs.Ytkdjjjecgfhgbaa.hashSum
