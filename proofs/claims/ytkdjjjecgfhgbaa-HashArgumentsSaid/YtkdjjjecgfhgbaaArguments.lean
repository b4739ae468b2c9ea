/- For every list of integers (its first 10) and every byte slice (its first 30), hashing leaves its arguments unchanged and returns the same value when repeated (P1.1, P1.2, R4). It has no conditions. The frame below is the guide's shell. -/
/-
  THE SHELL OF A PROOF OF 'Rows.HashArgumentsSaid' ('schemalens/schemalenslaw01.HashArguments'), WRITTEN BY PROGRAM (proof-skeleton.mjs, third state) off the guide's own print for that function. Not trusted: Lean checks it.
  YOURS IS THE HOLE MARKED 'HOLE' (it bears 'sorry'). ALL ELSE IS THE GUIDE's OWN WAY (howto/template/XProofs.lean; Derived/Test/ChunkProofs.lean for 'Below') at this function's number and types: leave it.
-/
import Derived.Test.YtkdjjjecgfhgbaaRows
import Derived.Test.YtkdjjjecgfhgbaaRefs
import Derived.WalkKit
import Derived.ProofKit
import Derived.OpenShut
import Derived.ShutString
import Derived.ChangeOld
import Derived.Below
namespace Go.Proofs.Ytkdjjjecgfhgbaa.hashArguments
open Go.ChangeShapes Go.WideShapes Go.ChangeAt Go.RowKit
open Go.ChangeMaps (open_string shut_string)
set_option linter.unusedVariables false

theorem own : ownKnob Try.prog.godebug = none := by kernel_rfl
theorem laidOut : laidOutB Try.prog = true := by kernel_rfl

abbrev sameB : ByteArray := ⟨#[115, 97, 109, 101]⟩

set_option maxRecDepth 100000 in
set_option maxHeartbeats 2000000 in
theorem walkB (a b : Option Addr) (ca cb : Nat) (xs ys : List Int) (w : World) (hx : Sli .i64 w a ca xs) (hy : Sli .u8 w b cb ys) (hz : Byt ys) :
    Calls Try.prog 10 #[.slice a xs.length ca, .slice b ys.length cb] w fun e w' => e = .returned (.bool true) ∧ Below w.heap.size w w' := by
  obtain ⟨X, hX⟩ : ∃ X, xs.take 10 = X := ⟨_, rfl⟩
  obtain ⟨Y, hY⟩ : ∃ Y, ys.take 30 = Y := ⟨_, rfl⟩
  have hXl : X.length ≤ 10 := by rw [← hX, List.length_take]; omega
  have hYl : Y.length ≤ 30 := by rw [← hY, List.length_take]; omega
  have hYb : Byt Y := by rw [← hY]; exact hz.take _
  obtain ⟨p, hp⟩ : ∃ p, U (sumS (sb sameB) X) = p := ⟨_, rfl⟩
  obtain ⟨q, hq⟩ : ∃ q, U (bytesS (sb sameB) Y) = q := ⟨_, rfl⟩
  have c1 := fun W h => ints_sli X a ca 10 xs W h (by omega) hX
  have c2 := fun W h => few_sli Y b cb 30 ys W h (by omega) hY
  have c3 := fun a1 c1 W h => sum_sli sameB a1 c1 X W h (by decide) (by omega) p hp
  have c4 := fun a1 c1 W h => bytes_sli sameB a1 c1 Y W h (by decide) (by omega) hYb q hq
  have c5 := fun a1 a2 c1 c2 W h h2 => sameInts_any a1 a2 c1 c2 X X W h h2 (by omega) (by omega)
  have c6 := fun a1 a2 c1 c2 W h h2 => sameBytes_any a1 a2 c1 c2 Y Y W h h2 (by omega) (by omega)
  simp only [decide_true] at c5 c6
  have C1 := Lib.hid c1; have C2 := Lib.hid c2; have C3 := Lib.hid c3; have C4 := Lib.hid c4; have C5 := Lib.hid c5; have C6 := Lib.hid c6
  have HX := Lib.hid hx; have HY := Lib.hid hy
  clear c1 c2 c3 c4 c5 c6 hX hY hp hq hx hy hz hYb
  go_enter Try.func10, Try.ntmps10
  go_wp2_with fail
  refine (C1.out _ HX.out).mono ?_
  rintro e w1 ⟨a1, k1, rfl, s1, b1⟩
  have H1 := Lib.hid (And.intro s1 b1)
  clear s1 b1
  go_wp2_with fail
  refine (C2.out _ (HY.out.below H1.out.2)).mono ?_
  rintro e w2 ⟨a2, k2, rfl, s2, b2⟩
  have H2 : Hid (Sli .i64 w2 a1 k1 X ∧ Sli .u8 w2 a2 k2 Y ∧ Below w.heap.size w w2) := ⟨H1.out.1.below b2, s2, H1.out.2.trans (b2.mono H1.out.2.size)⟩
  clear s2 b2 H1
  go_wp2_with fail
  refine (C3.out _ _ _ H2.out.1).mono ?_
  rintro e w3 ⟨rfl, b3⟩
  have H3 : Hid (Sli .i64 w3 a1 k1 X ∧ Sli .u8 w3 a2 k2 Y ∧ Below w.heap.size w w3) := ⟨H2.out.1.below b3, H2.out.2.1.below b3, H2.out.2.2.trans (b3.mono H2.out.2.2.size)⟩
  clear b3 H2
  go_wp2_with fail
  refine (C4.out _ _ _ H3.out.2.1).mono ?_
  rintro e w4 ⟨rfl, b4⟩
  have H4 : Hid (Sli .i64 w4 a1 k1 X ∧ Sli .u8 w4 a2 k2 Y ∧ Below w.heap.size w w4) := ⟨H3.out.1.below b4, H3.out.2.1.below b4, H3.out.2.2.trans (b4.mono H3.out.2.2.size)⟩
  clear b4 H3
  go_wp2_with fail
  refine (C1.out _ (HX.out.below H4.out.2.2)).mono ?_
  rintro e w5 ⟨a5, k5, rfl, s5, b5⟩
  have H5 : Hid (Sli .i64 w5 a1 k1 X ∧ Sli .u8 w5 a2 k2 Y ∧ Below w.heap.size w w5) := ⟨H4.out.1.below b5, H4.out.2.1.below b5, H4.out.2.2.trans (b5.mono H4.out.2.2.size)⟩
  have S5 := Lib.hid s5
  clear b5 s5 H4
  go_wp2_with fail
  refine (C5.out _ _ _ _ _ H5.out.1 S5.out).mono ?_
  rintro e w6 ⟨rfl, b6⟩
  have H6 : Hid (Sli .i64 w6 a1 k1 X ∧ Sli .u8 w6 a2 k2 Y ∧ Below w.heap.size w w6) := ⟨H5.out.1.below b6, H5.out.2.1.below b6, H5.out.2.2.trans (b6.mono H5.out.2.2.size)⟩
  clear b6 S5 H5
  go_wp2_with fail
  refine (C2.out _ (HY.out.below H6.out.2.2)).mono ?_
  rintro e w7 ⟨a7, k7, rfl, s7, b7⟩
  have H7 : Hid (Sli .i64 w7 a1 k1 X ∧ Sli .u8 w7 a2 k2 Y ∧ Below w.heap.size w w7) := ⟨H6.out.1.below b7, H6.out.2.1.below b7, H6.out.2.2.trans (b7.mono H6.out.2.2.size)⟩
  have S7 := Lib.hid s7
  clear b7 s7 H6
  go_wp2_with fail
  refine (C6.out _ _ _ _ _ H7.out.2.1 S7.out).mono ?_
  rintro e w8 ⟨rfl, b8⟩
  have H8 : Hid (Sli .i64 w8 a1 k1 X ∧ Sli .u8 w8 a2 k2 Y ∧ Below w.heap.size w w8) := ⟨H7.out.1.below b8, H7.out.2.1.below b8, H7.out.2.2.trans (b8.mono H7.out.2.2.size)⟩
  clear b8 S7 H7
  go_wp2_with fail
  refine (C3.out _ _ _ H8.out.1).mono ?_
  rintro e w9 ⟨rfl, b9⟩
  have H9 : Hid (Sli .i64 w9 a1 k1 X ∧ Sli .u8 w9 a2 k2 Y ∧ Below w.heap.size w w9) := ⟨H8.out.1.below b9, H8.out.2.1.below b9, H8.out.2.2.trans (b9.mono H8.out.2.2.size)⟩
  clear b9 H8
  go_wp2_with fail
  refine (C4.out _ _ _ H9.out.2.1).mono ?_
  rintro e w10 ⟨rfl, b10⟩
  have H10 : Hid (Below w.heap.size w w10) := H9.out.2.2.trans (b10.mono H9.out.2.2.size)
  clear b10 H9
  go_wp2_with fail
  refine (lives_any _).mono ?_
  rintro e w11 ⟨rfl, b11⟩
  have H11 : Hid (Below w.heap.size w w11) := H10.out.trans (b11.mono H10.out.size)
  clear b11 H10
  go_wp2
  go_ret
  exact ⟨rfl, H11.out⟩

theorem walk (a0 : Option Addr) (len0 cap0 : Nat) (z0 : List Int) (a1 : Option Addr) (len1 cap1 : Nat) (z1 : List Int) (w : World) (w0 : IsRow .i64 w a0 len0 cap0 z0) (w1 : IsRow .u8 w a1 len1 cap1 z1) :
    Calls Try.prog 10 #[.slice a0 len0 cap0, .slice a1 len1 cap1] w fun e w' => e = .returned (.bool true) ∧ Below w.heap.size w w' := by
  obtain ⟨xs, rfl, hx, _⟩ := sli_of_isRow w0
  obtain ⟨ys, rfl, hy, hwf⟩ := sli_of_isRow w1
  exact walkB a0 a1 cap0 cap1 xs ys w hx hy (byt_of_wf hwf)

/-! ### THE ROW's STEP: WRITTEN OUT: LEAVE IT -/
set_option maxRecDepth 100000 in
theorem lifted (os : Os) (started : os.Started) (H : Type) (enc : TypeId × Value → H) :
    ReturnsInHanded {} Try.checked os 10 .any (Rows.hashArgumentsSpec.pre6 enc Try.prog Try.f10 Rows.hashArgumentsRow.domain false) (Rows.hashArgumentsSpec.post enc Try.prog Try.f10 false true false false) := by
  refine returnsInHanded_of_change (C := Try.checked) own started (by kernel_rfl) Try.func10
    (ChangeSpec.witness6 (enc := enc) (C := Try.checked) false ⟨#[], #[.slice none 0 0, .slice none 0 0], []⟩ 8 (by kernel_rfl) (by kernel_rfl) (by kernel_rfl) (by kernel_rfl)) ?_
  intro W base args ds gs before hval0 hW hcnd _
  have hval : ∀ (j : Nat) t v, Try.f10.params[j]? = some t → args[j]? = some v → Value.okWide Try.prog W .any base t v := hval0
  have hW' := hW
  obtain ⟨p, q, hA0, hV, rfl, hfz, hnd⟩ := hW
  have hA : DataW.TrodAll enc Try.prog W 0 (fun _ => true) true Try.f10.params.toList args.toList ds p := hA0
  rw [Try.params10] at hA hval
  obtain ⟨v0, vs0, d0, ds0, p0, q0, hargs, rfl, rfl, h0, r0⟩ := trodAll_cons hA
  obtain ⟨v1, vs1, d1, ds1, p1, q1, rfl, rfl, rfl, h1, r1⟩ := trodAll_cons r0
  obtain ⟨rfl, rfl, rfl⟩ := trodAll_nil r1
  obtain rfl : args = #[v0, v1] := by cases args; simp_all
  obtain ⟨rfl, rfl⟩ := trodVars_none hV
  obtain ⟨a0, len0, cap0, rfl⟩ := okWide_slice Try.underlying22 (hval 0 22 v0 rfl rfl)
  have k0 := h0
  have lt0 : ∀ x ∈ p0, x.block < W.heap.size := by obtain ⟨m, hm⟩ := k0; exact DataW.trod_lt m _ _ _ hm
  obtain ⟨z0, w0⟩ : ∃ zs, IsRow .i64 W a0 len0 cap0 zs := by
    obtain ⟨fuel, hf⟩ := h0
    rcases open_ints Try.underlying22 Try.underlying3 (by kernel_rfl) hf with ⟨hcs, _⟩ | ⟨x, l, c, zs, hcs, _, hl, hm, hz, _, hcell, hwz⟩
    · simp [Value.cells] at hcs
      obtain ⟨rfl, rfl, rfl⟩ := hcs
      exact ⟨[], .inl ⟨rfl, rfl, rfl, rfl⟩⟩
    · simp [Value.cells] at hcs
      obtain ⟨rfl, rfl, rfl⟩ := hcs
      exact ⟨zs, .inr ⟨_, rfl, hl, hm, by simpa using hz, hcell, hwz⟩⟩
  obtain ⟨a1, len1, cap1, rfl⟩ := okWide_slice Try.underlying30 (hval 1 30 v1 rfl rfl)
  have k1 := h1
  have lt1 : ∀ x ∈ p1, x.block < W.heap.size := by obtain ⟨m, hm⟩ := k1; exact DataW.trod_lt m _ _ _ hm
  obtain ⟨z1, w1⟩ : ∃ zs, IsRow .u8 W a1 len1 cap1 zs := by
    obtain ⟨fuel, hf⟩ := h1
    rcases open_ints Try.underlying30 Try.underlying5 (by kernel_rfl) hf with ⟨hcs, _⟩ | ⟨x, l, c, zs, hcs, _, hl, hm, hz, _, hcell, hwz⟩
    · simp [Value.cells] at hcs
      obtain ⟨rfl, rfl, rfl⟩ := hcs
      exact ⟨[], .inl ⟨rfl, rfl, rfl, rfl⟩⟩
    · simp [Value.cells] at hcs
      obtain ⟨rfl, rfl, rfl⟩ := hcs
      exact ⟨zs, .inr ⟨_, rfl, hl, hm, by simpa using hz, hcell, hwz⟩⟩
  clear hA0 hval0
  refine (walk a0 len0 cap0 z0 a1 len1 cap1 z1 W w0 w1).mono fun e W' ⟨he, bel⟩ => ?_
  subst he
  exact ⟨_, rfl, _, _, _, [], _, [], hW', trodAll_mk1 (shut_bool Try.underlying4 _), (trodAll_cons_mk (Below.trod laidOut (by kernel_rfl) (of_decide_eq_true (by kernel_rfl)) k0 bel lt0) (trodAll_cons_mk (Below.trod laidOut (by kernel_rfl) (of_decide_eq_true (by kernel_rfl)) k1 bel lt1) trodAll_mk0)), rfl, bel.frame _, fun h => by cases h⟩

theorem over : Rows.hashArgumentsRow.holds Try.pinned (OpenSpec.ofChange Rows.hashArgumentsSpec) :=
  OpenClaim.holds_of_wide 10 Try.f10 rfl rfl rfl rfl rfl rfl rfl ⟨rfl, rfl, rfl, rfl, rfl⟩ rfl rfl rfl rfl rfl (by kernel_rfl) Try.func10 (by kernel_rfl)
    (of_decide_eq_true (by kernel_rfl)) (by unfold Func.isWrapper; first | (rw [if_pos (by decide +kernel)]; kernel_rfl) | (rw [if_neg (by decide +kernel)]; exact ⟨rfl, rfl⟩))
    (fun os started H enc _ => lifted os started H enc)

/-- ████ THE STATEMENT ████ -/
theorem proved : Rows.HashArgumentsSaid := over
#print axioms proved
end Go.Proofs.Ytkdjjjecgfhgbaa.hashArguments
