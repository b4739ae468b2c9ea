/- For every string (its first 60 bytes) and every generated text, Units and Lines agree with the reference (P3.1, P3.2). It has no conditions. The frame below is the guide's shell. -/
import Derived.Test.YthjedecfpedjbaaRows
import Derived.Test.YthjedecfpedjbaaPLives
import Derived.Test.YthjedecfpedjbaaPText
import Derived.Test.YthjedecfpedjbaaShort
import Derived.Test.YthjedecfpedjbaaSameInts
import Derived.Test.YthjedecfpedjbaaWf
import Derived.WalkKit
import Derived.ProofKit
import Derived.OpenShut
import Derived.ShutString
import Derived.ChangeOld
import Derived.Below
namespace Go.Proofs.Ythjedecfpedjbaa.positionUnits
open Go.ChangeShapes Go.WideShapes Go.ChangeAt Go.RowKit
open Go.ChangeMaps (open_string shut_string)
set_option linter.unusedVariables false

theorem own : ownKnob Try.prog.godebug = none := by kernel_rfl
theorem laidOut : laidOutB Try.prog = true := by kernel_rfl

set_option maxRecDepth 100000 in
set_option maxHeartbeats 8000000 in
theorem walkB (s : ByteArray) (a : Option Addr) (cap : Nat) (ls : List Int) (w : World) (hs : s.size ≤ 9223372036854775807) (h : Sli .i64 w a cap ls) (hi : ∀ n ∈ ls, -9223372036854775808 ≤ n ∧ n ≤ 9223372036854775807) :
    Calls Try.prog 3 #[.string s, .slice a ls.length cap] w fun e w' => e = .returned (.bool true) ∧ Below w.heap.size w w' := by
  obtain ⟨B, hB⟩ : ∃ B, w.heap.size = B := ⟨_, rfl⟩
  have c1 := rtext_any a cap ls w h hi
  rw [hB] at c1
  have C1 := Lib.hid c1; have HB := Lib.hid hB
  clear c1 h hi hB
  obtain ⟨S, hS⟩ : ∃ S, shS s 60 = S := ⟨_, rfl⟩
  have cS := fun W => short_any s 60 W hs (by omega)
  have hSl : S.size ≤ 60 := by rw [← hS]; exact shS_size s 60
  rw [hS] at cS
  have CS := Lib.hid cS
  clear cS hS
  go_enter Try.func3, Try.ntmps3
  go_wp2_with fail
  refine (CS.out _).mono ?_
  rintro e w' ⟨rfl, rfl⟩
  go_wp2_with fail
  refine C1.out.mono ?_
  rintro e w1 ⟨T, rfl, hTl, hTw, hb1⟩
  obtain ⟨w2, hw2⟩ : ∃ W, w1.alloc (.cells #[.string S, .string T] 9) = W := ⟨_, rfl⟩
  obtain ⟨X, hX⟩ : ∃ X, w1.heap.size = X := ⟨_, rfl⟩
  have bX : Blk w2 X 9 #[.string S, .string T] := by rw [← hw2, ← hX]; exact Blk.new _ _ _
  have hb2 : Below B w w2 := by rw [← hw2]; exact hb1.alloc (by have := hb1.size; have := HB.out; omega) _
  have hs2 : w2.heap.size = X + 1 := by rw [← hw2, World.size_alloc, hX]
  have HDT : Hid (∀ j, j < 2 → ∃ z, w2.cell? ⟨X, j, none⟩ = some (.string z) ∧ z.size ≤ 100) := by
    intro j hj
    have : j = 0 ∨ j = 1 := by omega
    rcases this with rfl | rfl
    · exact ⟨S, bX.cell 0, by omega⟩
    · exact ⟨T, bX.cell 1, by omega⟩
  have HX := Lib.hid hX; have HW2 := Lib.hid hw2; have HS2 := Lib.hid hs2; have HB2 := Lib.hid hb2
  clear hX hw2 bX hs2 hb2 hb1 hTw
  go_wp2_with fail
  rw [HX.out, show w1.alloc (.cells #[.string S, .string T] 9) = w2 from HW2.out]
  go_loopw [6] (fun i wr => ∃ j : Nat, j ≤ 2 ∧ i = .int .i64 j ∧ Hid (Below w2.heap.size w2 wr)) (fun i _ => 2 - (intOf i).toNat)
  case atStart => exact ⟨0, by omega, rfl, Below.refl _ _⟩
  case round =>
    obtain ⟨j, hj, rfl, HR⟩ := hrel
    by_cases hlt : j < 2
    · obtain ⟨z, hc, hzl⟩ := HDT.out j hlt
      have hcr := (HR.out.cell (p := ⟨X, j, none⟩) (by have := HS2.out; show X < w2.heap.size; omega)).trans hc
      have hXr : X < wr.heap.size := by have := HR.out.size; have := HS2.out; omega
      have hcw : ∀ W, Below wr.heap.size wr W → W.cell? ⟨X, j, none⟩ = some (.string z) := fun W hW => (hW.cell (p := ⟨X, j, none⟩) hXr).trans hcr
      obtain ⟨U, hU⟩ : ∃ U, unis (sb z) = U := ⟨_, rfl⟩
      obtain ⟨Q, hQ⟩ : ∃ Q, lns (sb z) = Q := ⟨_, rfl⟩
      obtain ⟨nQ, hnQ⟩ : ∃ n, Q.length = n := ⟨_, rfl⟩
      have hQl : Q.length ≤ 1000 := by have := lnsF_len 0 (sb z); rw [sb_len] at this; rw [← hQ]; simp [lns]; omega
      have K1 : Hid (∀ W, Below wr.heap.size wr W → Calls Try.prog 14 #[.string z] W fun e w' => e = .returned (.int .i64 (U : Int)) ∧ Below wr.heap.size wr w' ∧ w'.cell? ⟨X, j, none⟩ = some (.string z)) := by
        intro W hW
        refine (punits_any z W (by omega)).mono ?_
        rintro e w' ⟨rfl, hb⟩
        have hb2 := hW.trans (hb.mono hW.size)
        exact ⟨by rw [hU], hb2, hcw _ hb2⟩
      have K2 : Hid (∀ W, Below wr.heap.size wr W → Calls Try.prog 15 #[.string z] W fun e w' => e = .returned (.int .i64 (U : Int)) ∧ W = w') := by
        intro W hW
        have := runits_any z W (by omega)
        rwa [hU] at this
      have K3 : Hid (∀ W, Below wr.heap.size wr W → Calls Try.prog 17 #[.string z] W fun e w' => ∃ A k, e = .returned (.slice A nQ k) ∧ Sli .i64 w' A k Q ∧ Below W.heap.size W w' ∧ Below wr.heap.size wr w' ∧ w'.cell? ⟨X, j, none⟩ = some (.string z)) := by
        intro W hW
        refine (plines_any z W (by omega)).mono ?_
        intro e w' h
        rw [hQ] at h
        obtain ⟨A, k, rfl, row, hb⟩ := row_of_new h
        have hb2 := hW.trans (hb.mono hW.size)
        exact ⟨A, k, by rw [hnQ], row.sli, hb, hb2, hcw _ hb2⟩
      have K4 : Hid (∀ W, Below wr.heap.size wr W → Calls Try.prog 18 #[.string z] W fun e w' => ∃ A k, e = .returned (.slice A nQ k) ∧ Sli .i64 w' A k Q ∧ Below W.heap.size W w' ∧ Below wr.heap.size wr w' ∧ w'.cell? ⟨X, j, none⟩ = some (.string z)) := by
        intro W hW
        refine (rlines_any z W (by omega)).mono ?_
        intro e w' h
        rw [hQ] at h
        obtain ⟨A, k, rfl, row, hb⟩ := row_of_new h
        have hb2 := hW.trans (hb.mono hW.size)
        exact ⟨A, k, by rw [hnQ], row.sli, hb, hb2, hcw _ hb2⟩
      have K5 : Hid (∀ W A k A' k', Sli .i64 W A k Q → Sli .i64 W A' k' Q → Below wr.heap.size wr W → Calls Try.prog 16 #[.slice A nQ k, .slice A' nQ k'] W fun e w' => e = .returned (.bool true) ∧ Below wr.heap.size wr w' ∧ w'.cell? ⟨X, j, none⟩ = some (.string z)) := by
        intro W A k A' k' h1 h2 hW
        have c9 := sameInts_any A A' k k' Q Q W h1 h2 (by omega) (by omega)
        simp only [decide_true] at c9
        rw [hnQ] at c9
        refine c9.mono ?_
        rintro e w' ⟨rfl, hb⟩
        exact ⟨rfl, hW.trans (hb.mono hW.size), hcw _ (hW.trans (hb.mono hW.size))⟩
      have hne : ((U : Int) != (U : Int)) = false := by simp
      have hjj : (j : Int) < 2 := by omega
      have b0 : Below wr.heap.size wr wr.drew := (Below.refl _ _).drew
      clear hc hcw hU hQ hnQ hQl
      go_wp2_with fail
      go_region_held3 (fun w' => w'.cell? ⟨X, j, none⟩ = some (.string z)) (first | exact cF | exact cE | exact cD | exact cA | exact hcr)
        (first
        | (go_at_call 14; refine (K1.out _ (by first | exact b0 | exact bB | exact bA)).mono ?_; rintro e wA ⟨rfl, bA, cA⟩)
        | (go_at_call 15; refine (K2.out _ (by first | exact bA | exact b0)).mono ?_; rintro e wB ⟨rfl, rfl⟩)
        | (go_at_call 17; refine (K3.out _ (by first | exact bE | exact bA)).mono ?_; rintro e wD ⟨AD, kD, rfl, sD, tD, bD, cD⟩)
        | (go_at_call 18; refine (K4.out _ (by first | exact bD | exact bA)).mono ?_; rintro e wE ⟨AE, kE, rfl, sE, tE, bE, cE⟩)
        | (go_at_call 16; refine (K5.out _ _ _ _ _ (by first | exact sD | exact Sli.below sD tE) (by first | exact sE | exact Sli.below sE tD) (by first | exact bE | exact bD)).mono ?_; rintro e wF ⟨rfl, bF, cF⟩; have H6 : Hid (Below w2.heap.size w2 wF) := HR.out.trans (bF.mono HR.out.size); clear bF))
      all_goals
        go_wp2
        go_roundw
        case rel => exact ⟨j + 1, by omega, by go_num, H6⟩
        case measure => simp [intOf]; omega
    · obtain rfl : 2 = j := by omega
      go_wp2_with fail
      refine (plives_any _).mono ?_
      rintro e wf ⟨rfl, hbf⟩
      have HFF : Hid (Below B w wf) := (HB2.out.trans (HR.out.mono (by have := HB2.out.size; have := HB.out; omega))).trans (hbf.mono (by have := HR.out.size; have := HB2.out.size; have := HB.out; omega))
      clear hbf
      go_wp2
      go_ret
      exact ⟨rfl, by rw [HB.out]; exact HFF.out⟩

theorem walk (a0 : ByteArray) (a1 : Option Addr) (len1 cap1 : Nat) (z1 : List Int) (w : World) (w0 : a0.size ≤ maxLen) (w1 : IsRow .i64 w a1 len1 cap1 z1) :
    Calls Try.prog 3 #[.string a0, .slice a1 len1 cap1] w fun e w' => e = .returned (.bool true) ∧ Below w.heap.size w w' := by
  obtain ⟨ls, rfl, hl, hwl⟩ := sli_of_isRow w1
  exact walkB a0 a1 cap1 ls w (by unfold maxLen at w0; omega) hl (fun n hn => wf_i64 (hwl n hn))

/-! ### THE ROW's STEP: WRITTEN OUT: LEAVE IT -/
set_option maxRecDepth 100000 in
theorem lifted (os : Os) (started : os.Started) (H : Type) (enc : TypeId × Value → H) :
    ReturnsInHanded {} Try.checked os 3 .any (Rows.positionUnitsSpec.pre6 enc Try.prog Try.f3 Rows.positionUnitsRow.domain false) (Rows.positionUnitsSpec.post enc Try.prog Try.f3 false true false false) := by
  refine returnsInHanded_of_change (C := Try.checked) own started (by kernel_rfl) Try.func3
    (ChangeSpec.witness6 (enc := enc) (C := Try.checked) false ⟨#[], #[.string ByteArray.empty, .slice none 0 0], []⟩ 8 (by kernel_rfl) (by kernel_rfl) (by kernel_rfl) (by kernel_rfl)) ?_
  intro W base args ds gs before hval0 hW hcnd _
  have hval : ∀ (j : Nat) t v, Try.f3.params[j]? = some t → args[j]? = some v → Value.okWide Try.prog W .any base t v := hval0
  have hW' := hW
  obtain ⟨p, q, hA0, hV, rfl, hfz, hnd⟩ := hW
  have hA : DataW.TrodAll enc Try.prog W 0 (fun _ => true) true Try.f3.params.toList args.toList ds p := hA0
  rw [Try.params3] at hA hval
  obtain ⟨v0, vs0, d0, ds0, p0, q0, hargs, rfl, rfl, h0, r0⟩ := trodAll_cons hA
  obtain ⟨v1, vs1, d1, ds1, p1, q1, rfl, rfl, rfl, h1, r1⟩ := trodAll_cons r0
  obtain ⟨rfl, rfl, rfl⟩ := trodAll_nil r1
  obtain rfl : args = #[v0, v1] := by cases args; simp_all
  obtain ⟨rfl, rfl⟩ := trodVars_none hV
  obtain ⟨a0, rfl, rfl, rfl, w0⟩ := open_string Try.underlying9 (hval 0 9 v0 rfl rfl) h0
  obtain ⟨a1, len1, cap1, rfl⟩ := okWide_slice Try.underlying22 (hval 1 22 v1 rfl rfl)
  have k1 := h1
  have lt1 : ∀ x ∈ p1, x.block < W.heap.size := by obtain ⟨m, hm⟩ := k1; exact DataW.trod_lt m _ _ _ hm
  obtain ⟨z1, w1⟩ : ∃ zs, IsRow .i64 W a1 len1 cap1 zs := by
    obtain ⟨fuel, hf⟩ := h1
    rcases open_ints Try.underlying22 Try.underlying3 (by kernel_rfl) hf with ⟨hcs, _⟩ | ⟨x, l, c, zs, hcs, _, hl, hm, hz, _, hcell, hwz⟩
    · simp [Value.cells] at hcs
      obtain ⟨rfl, rfl, rfl⟩ := hcs
      exact ⟨[], .inl ⟨rfl, rfl, rfl, rfl⟩⟩
    · simp [Value.cells] at hcs
      obtain ⟨rfl, rfl, rfl⟩ := hcs
      exact ⟨zs, .inr ⟨_, rfl, hl, hm, by simpa using hz, hcell, hwz⟩⟩
  clear hA0 hval0
  refine (walk a0 a1 len1 cap1 z1 W w0 w1).mono fun e W' ⟨he, bel⟩ => ?_
  subst he
  exact ⟨_, rfl, _, _, _, [], _, [], hW', trodAll_mk1 (shut_bool Try.underlying4 _), (trodAll_cons_mk (shut_string Try.underlying9 w0) (trodAll_cons_mk (Below.trod laidOut (by kernel_rfl) (of_decide_eq_true (by kernel_rfl)) k1 bel lt1) trodAll_mk0)), rfl, bel.frame _, fun h => by cases h⟩

theorem over : Rows.positionUnitsRow.holds Try.pinned (OpenSpec.ofChange Rows.positionUnitsSpec) :=
  OpenClaim.holds_of_wide 3 Try.f3 rfl rfl rfl rfl rfl rfl rfl ⟨rfl, rfl, rfl, rfl, rfl⟩ rfl rfl rfl rfl rfl (by kernel_rfl) Try.func3 (by kernel_rfl)
    (of_decide_eq_true (by kernel_rfl)) (by unfold Func.isWrapper; first | (rw [if_pos (by decide +kernel)]; kernel_rfl) | (rw [if_neg (by decide +kernel)]; exact ⟨rfl, rfl⟩))
    (fun os started H enc _ => lifted os started H enc)

/-- ████ THE STATEMENT ████ -/
theorem proved : Rows.PositionUnitsSaid := over
#print axioms proved
end Go.Proofs.Ythjedecfpedjbaa.positionUnits
