/- For every string (its first 60 bytes), every generated text and every position, Offset agrees with the reference (P3.3). It has no conditions. The frame below is the guide's shell. -/
import Derived.Test.YthjedecfpedjbaaRows
import Derived.Test.YthjedecfpedjbaaPLives
import Derived.Test.YthjedecfpedjbaaPText
import Derived.Test.YthjedecfpedjbaaShort
import Derived.Test.YthjedecfpedjbaaSameInts
import Derived.Test.YthjedecfpedjbaaWf
import Derived.Test.YthjedecfpedjbaaAround
import Derived.WalkKit
import Derived.ProofKit
import Derived.OpenShut
import Derived.ShutString
import Derived.ChangeOld
import Derived.Below
namespace Go.Proofs.Ythjedecfpedjbaa.positionOffset
open Go.ChangeShapes Go.WideShapes Go.ChangeAt Go.RowKit
open Go.ChangeMaps (open_string shut_string)
set_option linter.unusedVariables false

theorem own : ownKnob Try.prog.godebug = none := by kernel_rfl
theorem laidOut : laidOutB Try.prog = true := by kernel_rfl

theorem two_cells {cs : Array Value} (h : cs.size = 2) : ∃ c0 c1, cs = #[c0, c1] := by
  obtain ⟨l⟩ := cs
  match l, h with
  | [c0, c1], _ => exact ⟨c0, c1, rfl⟩
set_option maxRecDepth 100000 in
set_option maxHeartbeats 4000000 in
theorem walkB (s : ByteArray) (a : Option Addr) (cap : Nat) (ls : List Int) (w : World) (hs : s.size ≤ 9223372036854775807) (h : Sli .i64 w a cap ls) (hi : ∀ n ∈ ls, -9223372036854775808 ≤ n ∧ n ≤ 9223372036854775807) (l u : Int) (hl2 : -9223372036854775808 ≤ l ∧ l ≤ 9223372036854775807) (hu2 : -9223372036854775808 ≤ u ∧ u ≤ 9223372036854775807) :
    Calls Try.prog 4 #[.string s, .slice a ls.length cap, .agg #[.int .i64 l, .int .i64 u]] w fun e w' => e = .returned (.bool true) ∧ Below w.heap.size w w' := by
  obtain ⟨B, hB⟩ : ∃ B, w.heap.size = B := ⟨_, rfl⟩
  obtain ⟨W0, hW0⟩ : ∃ W, w.alloc (.cells #[.int .i64 l, .int .i64 u] 32) = W := ⟨_, rfl⟩
  have bP : Blk W0 B 32 #[.int .i64 l, .int .i64 u] := by rw [← hW0, ← hB]; exact Blk.new _ _ _
  have hb0 : Below B w W0 := by rw [← hW0, ← hB]; exact (Below.refl _ _).alloc (Nat.le_refl _) _
  have hBW0 : B < W0.heap.size := bP.lt
  have c1 := rtext_any a cap ls W0 (Sli.below h (by rw [hB]; exact hb0)) hi
  have C1 := Lib.hid c1; have HB := Lib.hid hB; have HW0 := Lib.hid hW0; have HBP := Lib.hid bP; have HB0 := Lib.hid hb0
  clear c1 h hi hB hW0 bP hb0
  obtain ⟨S, hS⟩ : ∃ S, shS s 60 = S := ⟨_, rfl⟩
  have cS := fun W => short_any s 60 W hs (by omega)
  have hSl : S.size ≤ 60 := by rw [← hS]; exact shS_size s 60
  rw [hS] at cS
  have CS := Lib.hid cS
  clear cS hS
  go_enter Try.func4, Try.ntmps4
  go_wp2_with fail
  rw [HB.out, show w.alloc (.cells #[.int .i64 l, .int .i64 u] 32) = W0 from HW0.out]
  refine (CS.out _).mono ?_
  rintro e w' ⟨rfl, rfl⟩
  go_wp2_with fail
  refine C1.out.mono ?_
  rintro e w1 ⟨T, rfl, hTl, hTw, hb1⟩
  obtain ⟨w2, hw2⟩ : ∃ W, w1.alloc (.cells #[.string S, .string T] 9) = W := ⟨_, rfl⟩
  obtain ⟨X, hX⟩ : ∃ X, w1.heap.size = X := ⟨_, rfl⟩
  have bX : Blk w2 X 9 #[.string S, .string T] := by rw [← hw2, ← hX]; exact Blk.new _ _ _
  have hs1 := hb1.size
  have hb2 : Below B w w2 := by rw [← hw2]; exact (HB0.out.trans (hb1.mono (by omega))).alloc (by omega) _
  have hs2 : w2.heap.size = X + 1 := by rw [← hw2, World.size_alloc, hX]
  have bP2 : Blk w2 B 32 #[.int .i64 l, .int .i64 u] := by
    rw [← hw2]
    exact (HBP.out.same (hb1.block B HBP.out.lt)).same (Below.heap_alloc w1 _ B (by omega))
  have HDT : Hid (∀ j, j < 2 → ∃ z, z.size ≤ 100 ∧ ∀ W, Below w2.heap.size w2 W → W.cell? ⟨X, j, none⟩ = some (.string z) ∧ W.cell? ⟨B, 0, none⟩ = some (.int .i64 l) ∧ W.cell? ⟨B, 1, none⟩ = some (.int .i64 u)) := by
    have hp : ∀ W, Below w2.heap.size w2 W → W.cell? ⟨B, 0, none⟩ = some (.int .i64 l) ∧ W.cell? ⟨B, 1, none⟩ = some (.int .i64 u) := by
      intro W hW
      have h2 := bP2.same (hW.block B bP2.lt)
      exact ⟨by simpa using h2.cell 0, by simpa using h2.cell 1⟩
    intro j hj
    have : j = 0 ∨ j = 1 := by omega
    rcases this with rfl | rfl
    · exact ⟨S, by omega, fun W hW => ⟨(bX.same (hW.block X bX.lt)).cell 0, hp W hW⟩⟩
    · exact ⟨T, by omega, fun W hW => ⟨(bX.same (hW.block X bX.lt)).cell 1, hp W hW⟩⟩
  have HX := Lib.hid hX; have HW2 := Lib.hid hw2; have HS2 := Lib.hid hs2; have HB2 := Lib.hid hb2
  clear hX hw2 bX hs2 hb2 hb1 hTw hs1 bP2
  go_wp2_with fail
  rw [HX.out, show w1.alloc (.cells #[.string S, .string T] 9) = w2 from HW2.out]
  go_loopw [8] (fun i wr => ∃ j : Nat, j ≤ 2 ∧ i = .int .i64 j ∧ Hid (Below w2.heap.size w2 wr)) (fun i _ => 2 - (intOf i).toNat)
  case atStart => exact ⟨0, by omega, rfl, Below.refl _ _⟩
  case round =>
    obtain ⟨j, hj, rfl, HR⟩ := hrel
    by_cases hlt : j < 2
    · obtain ⟨z, hzl, hcw⟩ := HDT.out j hlt
      have hjj : (j : Int) < 2 := by omega
      have K1 : Hid (∀ W, Below w2.heap.size w2 W → Calls Try.prog 20 #[.string z, .agg #[.int .i64 l, .int .i64 u]] W fun e w' => ∃ (o : Nat) (er : Int), e = .returned (.tuple #[.int .i64 (o : Int), .int .i64 er]) ∧ OffSpec (sb z) l u o er ∧ Below w2.heap.size w2 w' ∧ w'.cell? ⟨X, j, none⟩ = some (.string z) ∧ w'.cell? ⟨B, 0, none⟩ = some (.int .i64 l) ∧ w'.cell? ⟨B, 1, none⟩ = some (.int .i64 u)) := by
        intro W hW
        refine (poff_any z l u W (by omega) hl2 hu2).mono ?_
        rintro e w' ⟨o, er, rfl, hsp, hb⟩
        have hbb := hW.trans (hb.mono hW.size)
        exact ⟨o, er, rfl, hsp, hbb, hcw _ hbb⟩
      have K2 : Hid (∀ W, Below w2.heap.size w2 W → Calls Try.prog 21 #[.string z, .agg #[.int .i64 l, .int .i64 u]] W fun e w' => ∃ (o : Nat) (er : Int), e = .returned (.tuple #[.int .i64 (o : Int), .int .i64 er]) ∧ OffSpec (sb z) l u o er ∧ Below w2.heap.size w2 w' ∧ w'.cell? ⟨X, j, none⟩ = some (.string z) ∧ w'.cell? ⟨B, 0, none⟩ = some (.int .i64 l) ∧ w'.cell? ⟨B, 1, none⟩ = some (.int .i64 u)) := by
        intro W hW
        refine (roff_any z l u W (by omega) hl2.2).mono ?_
        rintro e w' ⟨o, er, rfl, hsp, hb⟩
        have hbb := hW.trans (hb.mono hW.size)
        exact ⟨o, er, rfl, hsp, hbb, hcw _ hbb⟩
      have s0 := hcw wr HR.out
      have b0 : Below w2.heap.size w2 wr.drew := HR.out.drew
      clear hcw
      go_wp2_with fail
      go_region_held3 (fun w' => w'.cell? ⟨X, j, none⟩ = some (.string z) ∧ w'.cell? ⟨B, 0, none⟩ = some (.int .i64 l) ∧ w'.cell? ⟨B, 1, none⟩ = some (.int .i64 u)) (first | exact sA | exact s0)
        (first | (go_at_call 20; refine (K1.out _ b0).mono ?_; rintro e wA ⟨o, er, rfl, hsp, bA, sA⟩))
      all_goals
        have HSP := Lib.hid hsp
        have b1 : Below w2.heap.size w2 wA.drew := bA.drew
        clear hsp b0 s0
        go_wp2_with fail
        go_region_held3 (fun w' => w'.cell? ⟨X, j, none⟩ = some (.string z) ∧ w'.cell? ⟨B, 0, none⟩ = some (.int .i64 l) ∧ w'.cell? ⟨B, 1, none⟩ = some (.int .i64 u)) (first | exact sC | exact sA)
          (first | (go_at_call 21; refine (K2.out _ b1).mono ?_; rintro e wC ⟨o', er', rfl, hsp', bC, sC⟩))
        all_goals
          obtain ⟨rfl, rfl⟩ := HSP.out.det hsp'
          have hq1 : ((o : Int) != (o : Int)) = false := by simp
          have hq2 : (er != er) = false := by simp
          have HC := Lib.hid bC
          clear bC bA b1 hsp' sA sC
          go_wp2
          go_roundw
          case rel => exact ⟨j + 1, by omega, by go_num, HC⟩
          case measure => simp [intOf]; omega
    · obtain rfl : 2 = j := by omega
      go_wp2_with fail
      refine (plives_any _).mono ?_
      rintro e wf ⟨rfl, hbf⟩
      have HFF : Hid (Below B w wf) := (HB2.out.trans (HR.out.mono (by have := HB2.out.size; have := HB.out; omega))).trans (hbf.mono (by have := HR.out.size; have := HB2.out.size; have := HB.out; omega))
      clear hbf
      go_wp2
      go_ret
      exact ⟨rfl, by rw [HB.out]; exact HFF.out⟩

theorem walk (a0 : ByteArray) (a1 : Option Addr) (len1 cap1 : Nat) (z1 : List Int) (a2 a3 : Int) (w : World) (w0 : a0.size ≤ maxLen) (w1 : IsRow .i64 w a1 len1 cap1 z1) (w2 : (Lit.int .i64 a2).wf = true) (w3 : (Lit.int .i64 a3).wf = true) :
    Calls Try.prog 4 #[.string a0, .slice a1 len1 cap1, .agg #[.int .i64 a2, .int .i64 a3]] w fun e w' => e = .returned (.bool true) ∧ Below w.heap.size w w' := by
  obtain ⟨ls, rfl, hl, hwl⟩ := sli_of_isRow w1
  exact walkB a0 a1 cap1 ls w (by unfold maxLen at w0; omega) hl (fun n hn => wf_i64 (hwl n hn)) a2 a3 (wf_i64 w2) (wf_i64 w3)

/-! ### THE ROW's STEP: WRITTEN OUT: LEAVE IT -/
set_option maxRecDepth 100000 in
set_option maxHeartbeats 2000000 in
theorem lifted (os : Os) (started : os.Started) (H : Type) (enc : TypeId × Value → H) :
    ReturnsInHanded {} Try.checked os 4 .any (Rows.positionOffsetSpec.pre6 enc Try.prog Try.f4 Rows.positionOffsetRow.domain false) (Rows.positionOffsetSpec.post enc Try.prog Try.f4 false true false false) := by
  refine returnsInHanded_of_change (C := Try.checked) own started (by kernel_rfl) Try.func4
    (ChangeSpec.witness6 (enc := enc) (C := Try.checked) false ⟨#[], #[.string ByteArray.empty, .slice none 0 0, .agg #[.int .i64 0, .int .i64 0]], []⟩ 8 (by kernel_rfl) (by kernel_rfl) (by kernel_rfl) (by kernel_rfl)) ?_
  intro W base args ds gs before hval0 hW hcnd _
  have hval : ∀ (j : Nat) t v, Try.f4.params[j]? = some t → args[j]? = some v → Value.okWide Try.prog W .any base t v := hval0
  have hW' := hW
  obtain ⟨p, q, hA0, hV, rfl, hfz, hnd⟩ := hW
  have hA : DataW.TrodAll enc Try.prog W 0 (fun _ => true) true Try.f4.params.toList args.toList ds p := hA0
  rw [Try.params4] at hA hval
  obtain ⟨v0, vs0, d0, ds0, p0, q0, hargs, rfl, rfl, h0, r0⟩ := trodAll_cons hA
  obtain ⟨v1, vs1, d1, ds1, p1, q1, rfl, rfl, rfl, h1, r1⟩ := trodAll_cons r0
  obtain ⟨v2, vs2, d2, ds2, p2, q2, rfl, rfl, rfl, h2, r2⟩ := trodAll_cons r1
  obtain ⟨rfl, rfl, rfl⟩ := trodAll_nil r2
  obtain rfl : args = #[v0, v1, v2] := by cases args; simp_all
  obtain ⟨rfl, rfl⟩ := trodVars_none hV
  obtain ⟨a0, rfl, rfl, rfl, w0⟩ := open_string Try.underlying9 (hval 0 9 v0 rfl rfl) h0
  obtain ⟨a1, len1, cap1, rfl⟩ := okWide_slice Try.underlying22 (hval 1 22 v1 rfl rfl)
  have k1 := h1
  have lt1 : ∀ x ∈ p1, x.block < W.heap.size := by obtain ⟨m, hm⟩ := k1; exact DataW.trod_lt m _ _ _ hm
  obtain ⟨z1, w1⟩ : ∃ zs, IsRow .i64 W a1 len1 cap1 zs := by
    obtain ⟨fuel, hf⟩ := h1
    rcases open_ints Try.underlying22 Try.underlying3 (by kernel_rfl) hf with ⟨hcs, _⟩ | ⟨x, l, c, zs, hcs, _, hl, hm, hz, _, hcell, hwz⟩
    · simp [Value.cells] at hcs
      obtain ⟨rfl, rfl, rfl⟩ := hcs
      exact ⟨[], .inl ⟨rfl, rfl, rfl, rfl⟩⟩
    · simp [Value.cells] at hcs
      obtain ⟨rfl, rfl, rfl⟩ := hcs
      exact ⟨zs, .inr ⟨_, rfl, hl, hm, by simpa using hz, hcell, hwz⟩⟩
  obtain ⟨cs, rfl, hsz⟩ := okWide_struct Try.underlying32 (hval 2 32 v2 rfl rfl)
  rw [show Try.prog.cellsOf 32 = 2 by kernel_rfl] at hsz
  have k2 := h2
  have lt2 : ∀ x ∈ p2, x.block < W.heap.size := by obtain ⟨m, hm⟩ := k2; exact DataW.trod_lt m _ _ _ hm
  obtain ⟨c0, c1, rfl⟩ := two_cells hsz
  obtain ⟨fuel2, hf2⟩ := h2
  obtain ⟨y0, y1, m2, hx2, _, hy0, hy1⟩ := trod_struct2 Try.underlying32 hf2
  obtain ⟨a2, e0, _, w2⟩ := DataW.trod_int Try.underlying3 hy0
  obtain ⟨a3, e1, _, w3⟩ := DataW.trod_int Try.underlying3 hy1
  simp [Value.cells, show Try.prog.cellsOf 3 = 1 by kernel_rfl] at e0 e1
  subst e0 e1
  clear hA0 hval0
  refine (walk a0 a1 len1 cap1 z1 a2 a3 W w0 w1 w2 w3).mono fun e W' ⟨he, bel⟩ => ?_
  subst he
  exact ⟨_, rfl, _, _, _, [], _, [], hW', trodAll_mk1 (shut_bool Try.underlying4 _), (trodAll_cons_mk (shut_string Try.underlying9 w0) (trodAll_cons_mk (Below.trod laidOut (by kernel_rfl) (of_decide_eq_true (by kernel_rfl)) k1 bel lt1) (trodAll_cons_mk (Below.trod laidOut (by kernel_rfl) (of_decide_eq_true (by kernel_rfl)) k2 bel lt2) trodAll_mk0))), rfl, bel.frame _, fun h => by cases h⟩

theorem over : Rows.positionOffsetRow.holds Try.pinned (OpenSpec.ofChange Rows.positionOffsetSpec) :=
  OpenClaim.holds_of_wide 4 Try.f4 rfl rfl rfl rfl rfl rfl rfl ⟨rfl, rfl, rfl, rfl, rfl⟩ rfl rfl rfl rfl rfl (by kernel_rfl) Try.func4 (by kernel_rfl)
    (of_decide_eq_true (by kernel_rfl)) (by unfold Func.isWrapper; first | (rw [if_pos (by decide +kernel)]; kernel_rfl) | (rw [if_neg (by decide +kernel)]; exact ⟨rfl, rfl⟩))
    (fun os started H enc _ => lifted os started H enc)

/-- ████ THE STATEMENT ████ -/
theorem proved : Rows.PositionOffsetSaid := over
#print axioms proved
end Go.Proofs.Ythjedecfpedjbaa.positionOffset
