/- For all hashes, Pair is injective in its first argument and in its second argument, and equals Sum over the two hashes (P1.4). It has no conditions. The frame below is the guide's shell. -/
/-
  THE SHELL OF A PROOF OF 'Rows.HashPairsSaid' ('schemalens/schemalenslaw01.HashPairs'), WRITTEN BY PROGRAM (proof-skeleton.mjs) off the guide's own print for that function. Not trusted: Lean checks it.
  YOURS ARE THE HOLES MARKED 'HOLE' (each bears 'sorry'). ALL ELSE IS THE GUIDE's TEMPLATE (howto/template/XProofs.lean) at this function's number and types: leave it.
-/
import Derived.Test.YtkdjjjecgfhgbaaRows
import Derived.Test.YtkdjjjecgfhgbaaPair
import Derived.WalkKit
import Derived.ProofKit
import Derived.OpenShut
import Derived.ShutString
namespace Go.Proofs.Ytkdjjjecgfhgbaa.hashPairs
open Go.ChangeShapes Go.WideShapes Go.ChangeAt Go.RowKit
open Go.ChangeMaps (open_string shut_string)
set_option linter.unusedVariables false      -- a walk need not use every 'w<i>' (that an integer argument fits its kind)

theorem own : ownKnob Try.prog.godebug = none := by kernel_rfl

theorem of_wf {a : Int} (h : (Lit.int .u64 a).wf = true) : ∃ b : BitVec 64, a = U b := by
  have h1 := (bounds_u64 h).1
  have h2 := (bounds_u64 h).2
  exact ⟨BitVec.ofInt 64 a, by unfold U; rw [BitVec.toNat_ofInt]; omega⟩
theorem sumS_two_left {lab : List Int} {x y z : Int} (h : sumS lab [x, z] = sumS lab [y, z]) : BitVec.ofInt 64 x = BitVec.ofInt 64 y := by
  rw [sumS_head, sumS_head] at h
  have h1 := mixB_inj_left h
  simp only [List.map_cons, List.map_nil, absorb, List.foldl_cons, List.foldl_nil] at h1
  exact mixB_inj_right (mixB_inj_left h1)
theorem sumS_two_right {lab : List Int} {x y z : Int} (h : sumS lab [z, x] = sumS lab [z, y]) : BitVec.ofInt 64 x = BitVec.ofInt 64 y := by
  rw [sumS_head, sumS_head] at h
  have h1 := mixB_inj_left h
  simp only [List.map_cons, List.map_nil, absorb, List.foldl_cons, List.foldl_nil] at h1
  exact mixB_inj_right h1
theorem pairS_left {a b c : BitVec 64} (h : pairS a c = pairS b c) : a = b := by
  have h1 := sumS_two_left (lab := sb pairB) h
  rwa [ofInt_wrap64, ofInt_wrap64] at h1
theorem pairS_right {a b c : BitVec 64} (h : pairS c a = pairS c b) : a = b := by
  have h1 := sumS_two_right (lab := sb pairB) h
  rwa [ofInt_wrap64, ofInt_wrap64] at h1

set_option maxRecDepth 100000 in
set_option maxHeartbeats 1000000 in
theorem walkB (a b c : BitVec 64) (w : World) :
    Calls Try.prog 9 #[.int .u64 (U a), .int .u64 (U b), .int .u64 (U c)] w fun e w' => e = .returned (.bool true) ∧ Below w.heap.size w w' := by
  have e1 : (U (pairS a c) == U (pairS b c)) = (U a == U b) := by
    rw [U_beq, U_beq]; exact decide_eq_decide.2 ⟨pairS_left, fun h => by rw [h]⟩
  have e2 : (U (pairS c a) == U (pairS c b)) = (U a == U b) := by
    rw [U_beq, U_beq]; exact decide_eq_decide.2 ⟨pairS_right, fun h => by rw [h]⟩
  obtain ⟨q, hq⟩ : ∃ q, (U a == U b) = q := ⟨_, rfl⟩
  rw [hq] at e1 e2
  have c1 := fun W => pair_any a c W
  have c2 := fun W => pair_any b c W
  have c3 := fun W => pair_any c a W
  have c4 := fun W => pair_any c b W
  have c5 := fun W => pair_any a b W
  have c6 := fun W => sum_two pairB (wrap64 (U a)) (wrap64 (U b)) W (by decide)
  change ∀ W, Calls Try.prog 13 _ _ fun e w' => e = .returned (.int .u64 (U (pairS a b))) ∧ Below W.heap.size W w' at c6
  generalize U (pairS a c) = p1 at e1 c1
  generalize U (pairS b c) = p2 at e1 c2
  generalize U (pairS c a) = p3 at e2 c3
  generalize U (pairS c b) = p4 at e2 c4
  generalize U (pairS a b) = p5 at c5 c6
  have C1 := Lib.hid c1; have C2 := Lib.hid c2; have C3 := Lib.hid c3; have C4 := Lib.hid c4; have C5 := Lib.hid c5; have C6 := Lib.hid c6
  clear c1 c2 c3 c4 c5 c6
  go_enter Try.func9, Try.ntmps9
  go_wp2_with fail
  refine (C1.out _).mono ?_
  rintro e w1 ⟨rfl, b1⟩
  go_wp2_with fail
  refine (C2.out _).mono ?_
  rintro e w2 ⟨rfl, b2⟩
  go_wp2_with fail
  refine (C3.out _).mono ?_
  rintro e w3 ⟨rfl, b3⟩
  go_wp2_with fail
  refine (C4.out _).mono ?_
  rintro e w4 ⟨rfl, b4⟩
  go_wp2_with fail
  refine (C5.out _).mono ?_
  rintro e w5 ⟨rfl, b5⟩
  go_wp2_with fail
  refine (C6.out _).mono ?_
  rintro e w6 ⟨rfl, b6⟩
  go_wp2_with fail
  refine (lives_any _).mono ?_
  rintro e w7 ⟨rfl, b7⟩
  have g1 := b1.size
  have g2 := b2.size
  have g3 := b3.size
  have g4 := b4.size
  have g5 := b5.size
  have g6 := b6.size
  have hB : Below w.heap.size w w7 := b1.trans ((b2.mono (by omega)).trans ((b3.mono (by omega)).trans ((b4.mono (by omega)).trans ((b5.mono (by omega)).trans ((b6.mono (by omega)).trans (b7.mono (by omega)))))))
  have HB := Lib.hid hB
  clear b1 b2 b3 b4 b5 b6 b7 hB g1 g2 g3 g4 g5 g6
  go_wp2
  go_ret
  exact ⟨rfl, HB.out⟩

theorem walk (a0 : Int) (a1 : Int) (a2 : Int) (w0 : (Lit.int .u64 a0).wf = true) (w1 : (Lit.int .u64 a1).wf = true) (w2 : (Lit.int .u64 a2).wf = true) (w : World) :
    Calls Try.prog 9 #[.int .u64 a0, .int .u64 a1, .int .u64 a2] w fun e w' => e = .returned (.bool true) ∧ Below w.heap.size w w' := by
  obtain ⟨a, rfl⟩ := of_wf w0
  obtain ⟨b, rfl⟩ := of_wf w1
  obtain ⟨c, rfl⟩ := of_wf w2
  exact walkB a b c w

/-! ### THE ROW's STEP: WRITTEN OUT: LEAVE IT -/
set_option maxRecDepth 100000 in
theorem lifted (os : Os) (started : os.Started) (H : Type) (enc : TypeId × Value → H) :
    ReturnsInHanded {} Try.checked os 9 .any (Rows.hashPairsSpec.pre6 enc Try.prog Try.f9 Rows.hashPairsRow.domain false) (Rows.hashPairsSpec.post enc Try.prog Try.f9 false true false false) := by
  refine returnsInHanded_of_change (C := Try.checked) own started (by kernel_rfl) Try.func9
    (ChangeSpec.witness6 (enc := enc) (C := Try.checked) false ⟨#[], #[.int .u64 0, .int .u64 0, .int .u64 0], []⟩ 8 (by kernel_rfl) (by kernel_rfl) (by kernel_rfl) (by kernel_rfl)) ?_
  intro W base args ds gs before hval0 hW hcnd _
  have hval : ∀ (j : Nat) t v, Try.f9.params[j]? = some t → args[j]? = some v → Value.okWide Try.prog W .any base t v := hval0
  have hW' := hW
  obtain ⟨p, q, hA0, hV, rfl, hfz, hnd⟩ := hW
  have hA : DataW.TrodAll enc Try.prog W 0 (fun _ => true) true Try.f9.params.toList args.toList ds p := hA0
  rw [Try.params9] at hA hval
  obtain ⟨v0, vs0, d0, ds0, p0, q0, hargs, rfl, rfl, h0, r0⟩ := trodAll_cons hA
  obtain ⟨v1, vs1, d1, ds1, p1, q1, rfl, rfl, rfl, h1, r1⟩ := trodAll_cons r0
  obtain ⟨v2, vs2, d2, ds2, p2, q2, rfl, rfl, rfl, h2, r2⟩ := trodAll_cons r1
  obtain ⟨rfl, rfl, rfl⟩ := trodAll_nil r2
  obtain rfl : args = #[v0, v1, v2] := by cases args; simp_all
  obtain ⟨rfl, rfl⟩ := trodVars_none hV
  obtain ⟨a0, rfl, rfl, rfl, w0⟩ := open_int Try.underlying25 (hval 0 25 v0 rfl rfl) h0
  obtain ⟨a1, rfl, rfl, rfl, w1⟩ := open_int Try.underlying25 (hval 1 25 v1 rfl rfl) h1
  obtain ⟨a2, rfl, rfl, rfl, w2⟩ := open_int Try.underlying25 (hval 2 25 v2 rfl rfl) h2
  clear hA0 hval0
  simp only [List.append_nil] at hW'
  refine (walk a0 a1 a2 w0 w1 w2 W).mono fun e W' ⟨he, bel⟩ => ?_
  subst he
  exact ⟨_, rfl, _, _, _, [], _, [], hW', trodAll_mk1 (shut_bool Try.underlying4 _), (trodAll_cons_mk (shut_int Try.underlying25 w0) (trodAll_cons_mk (shut_int Try.underlying25 w1) (trodAll_cons_mk (shut_int Try.underlying25 w2) trodAll_mk0))), rfl, bel.frame _, fun h => by cases h⟩

theorem over : Rows.hashPairsRow.holds Try.pinned (OpenSpec.ofChange Rows.hashPairsSpec) :=
  OpenClaim.holds_of_wide 9 Try.f9 rfl rfl rfl rfl rfl rfl rfl ⟨rfl, rfl, rfl, rfl, rfl⟩ rfl rfl rfl rfl rfl (by kernel_rfl) Try.func9 (by kernel_rfl)
    (of_decide_eq_true (by kernel_rfl)) (by unfold Func.isWrapper; first | (rw [if_pos (by decide +kernel)]; kernel_rfl) | (rw [if_neg (by decide +kernel)]; exact ⟨rfl, rfl⟩))
    (fun os started H enc _ => lifted os started H enc)

/-- ████ THE STATEMENT ████ -/
theorem proved : Rows.HashPairsSaid :=
  over
#print axioms proved
end Go.Proofs.Ytkdjjjecgfhgbaa.hashPairs
