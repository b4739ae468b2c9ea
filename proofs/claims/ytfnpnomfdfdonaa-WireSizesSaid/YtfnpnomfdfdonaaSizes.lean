/- For all numbers, the varint has one byte for every 7 bits that are needed, and numbers from -63 to 63 have encodings of one byte (P2.1, P2.8). It has no conditions. The frame below is the guide's shell. -/
import Derived.Test.YtfnpnomfdfdonaaRows
import Derived.Test.YtfnpnomfdfdonaaWLives
import Derived.Test.YtfnpnomfdfdonaaBound
import Derived.Test.YtfnpnomfdfdonaaWf
import Derived.ChangeOld
import Derived.Below
import Derived.WalkKit
import Derived.ProofKit
import Derived.OpenShut
import Derived.ShutString
namespace Go.Proofs.Ytfnpnomfdfdonaa.wireSizes
open Go.ChangeShapes Go.WideShapes Go.ChangeAt Go.RowKit
open Go.ChangeMaps (open_string shut_string)
set_option linter.unusedVariables false      -- a walk need not use every 'w<i>' (that an integer argument fits its kind)

theorem own : ownKnob Try.prog.godebug = none := by kernel_rfl

theorem shr_le (u k : Nat) (h : u < 18446744073709551616) : u / 2 ^ k < 18446744073709551616 := Nat.lt_of_le_of_lt (Nat.div_le_self _ _) h
theorem len_lo {n : Nat} (h : n < 128) : (vU n).length = 1 := by rw [vU_lo h]; rfl
theorem len_hi {n : Nat} (h : ¬ n < 128) : (vU n).length = (vU (n / 128)).length + 1 := by rw [vU_hi h]; rfl

set_option maxRecDepth 100000 in
set_option maxHeartbeats 2000000 in
theorem walkB (u : Nat) (n s : Int) (w : World) (hu : u < 18446744073709551616) (hn1 : -9223372036854775808 ≤ n) (hn2 : n ≤ 9223372036854775807) (hs1 : -9223372036854775808 ≤ s) (hs2 : s ≤ 9223372036854775807) :
    Calls Try.prog 8 #[.int .u64 (u : Int), .int .i64 n, .int .i64 s] w fun e w' => e = .returned (.bool true) ∧ Below w.heap.size w w' := by
  have c1 := fun W => around_any s 64 W hs1 hs2 (by omega) (by omega)
  have c2 := fun W => bound_any n 63 W hn1 hn2 (by omega)
  have C1 := Lib.hid c1; have C2 := Lib.hid c2
  clear c1 c2
  go_enter Try.func8, Try.ntmps8
  go_wp2_with fail
  refine (C1.out _).mono ?_
  rintro e w' ⟨k, hk, rfl, rfl⟩
  go_wp2_with fail
  obtain ⟨K, hK⟩ : ∃ K : Nat, u / 2 ^ k = K := ⟨_, rfl⟩
  have hKl : K < 18446744073709551616 := by rw [← hK]; exact shr_le u k hu
  have hKi : (u : Int) / 2 ^ k = (K : Int) := by rw [← hK]; push_cast; rfl
  have hq : IntKind.u64.wrap (((u : Int) / 2 ^ k).tdiv 128) = ((K / 128 : Nat) : Int) := by
    rw [hKi, Int.tdiv_eq_ediv_of_nonneg (by omega), wrap_u64]; omega
  rw [hq, hKi]
  obtain ⟨L, hL⟩ : ∃ L, (vU K).length = L := ⟨_, rfl⟩
  have hL10 : L ≤ 10 := by rw [← hL]; exact vU_len10 hKl
  have h00 : Hid ((0 < K / 128 → 1 + (vU (K / 128)).length = L) ∧ (K / 128 = 0 → 1 = L)) := by
    constructor
    · intro h; have := len_hi (n := K) (by omega); omega
    · intro h; rw [← hL, len_lo (by omega)]
  have HL := Lib.hid hL
  have hrb : K / 128 < 18446744073709551616 := by omega
  obtain ⟨r0, hr0⟩ : ∃ r0, K / 128 = r0 := ⟨_, rfl⟩
  rw [hr0] at h00 hrb ⊢
  clear hK hKi hq hL hr0
  go_loop [8, 9] (fun c r => ∃ c' r' : Nat, c' ≤ 10 ∧ r' < 18446744073709551616 ∧ c = .int .i64 (c' : Int) ∧ r = .int .u64 (r' : Int) ∧ Hid ((0 < r' → c' + (vU r').length = L) ∧ (r' = 0 → c' = L))) (fun _ r => (intOf r).toNat)
  case atStart => exact ⟨1, r0, by omega, hrb, rfl, rfl, h00⟩
  case round =>
    obtain ⟨c, r, hc, hr, rfl, rfl, HI⟩ := hrel
    by_cases hlt : 0 < r
    · have hcl := HI.out.1 hlt
      have hp := vU_pos r
      have hc9 : c ≤ 9 := by omega
      have HI2 : Hid ((0 < r / 128 → (c + 1) + (vU (r / 128)).length = L) ∧ (r / 128 = 0 → c + 1 = L)) := by
        constructor
        · intro h; have := len_hi (n := r) (by omega); omega
        · intro h; have := len_lo (n := r) (by omega); omega
      clear hcl hp
      go_wp2
      go_round
      case rel => exact ⟨c + 1, r / 128, by omega, by omega, by go_num, by go_num, HI2⟩
      case measure => simp [intOf]; omega
    · obtain rfl : r = 0 := by omega
      have hcL := HI.out.2 rfl
      subst hcL
      obtain ⟨P, hP⟩ : ∃ P, w.heap.size = P := ⟨_, rfl⟩
      have HP := Lib.hid hP
      have c3 := fun W h => wuint_at P P K (K : Int) [] _ W h rfl hKl (by decide) (List.nil_append _)
      have c9 := fun W h => wdone_any P P (vU K) W h (by rw [HL.out]; omega)
      have C3 := Lib.hid c3; have C9 := Lib.hid c9
      clear hP c3 c9
      go_wp2_with fail
      rw [HP.out]
      have W1 : Hid (Wr (w.alloc (.cells #[.slice none 0 0] 32)) P P [] ∧ Below P w (w.alloc (.cells #[.slice none 0 0] 32))) := by rw [← HP.out]; exact ⟨wr_new w, below_new w _⟩
      refine (C3.out _ W1.out.1).mono ?_
      rintro e w1 ⟨⟨_, rfl⟩, hw, hb⟩
      have H1 := Lib.hid (And.intro hw (W1.out.2.trans hb))
      clear hw hb W1 C3
      go_wp2_with fail
      refine (C2.out _).mono ?_
      rintro e w' ⟨m, hm1, hm2, rfl, rfl⟩
      obtain ⟨Q, hQ⟩ : ∃ Q, w1.heap.size = Q := ⟨_, rfl⟩
      have hPQ : P < Q := by have := H1.out.1.lt; omega
      have H2 : Hid (Wr (w1.alloc (.cells #[.slice none 0 0] 32)) Q Q [] ∧ Wr (w1.alloc (.cells #[.slice none 0 0] 32)) P P (vU K) ∧ Below P w (w1.alloc (.cells #[.slice none 0 0] 32))) := by
        rw [← hQ]; exact ⟨wr_new w1, H1.out.1.below (below_new w1 _), H1.out.2.trans ((below_new w1 _).mono (by omega))⟩
      have z1 : (vU (zz m)).length = 1 := len_lo (by unfold zz; split <;> omega)
      have z2 : (vU (zz (-m))).length = 1 := len_lo (by unfold zz; split <;> omega)
      have c4 : ∀ W, Wr W Q Q [] → _ := fun W h => wint_any Q Q m [] W h (by omega) (by omega) (by decide)
      have c5 : ∀ W, Wr W Q Q ([] ++ vU (zz m)) → _ := fun W h => wint_any Q Q (-m) ([] ++ vU (zz m)) W h (by omega) (by omega) (by simp [z1])
      obtain ⟨x1, hx1⟩ : ∃ x1, [] ++ vU (zz m) = x1 := ⟨_, rfl⟩
      have hx1l : x1.length = 1 := by rw [← hx1]; simpa using z1
      rw [hx1] at c4 c5
      obtain ⟨x2, hx2⟩ : ∃ x2, x1 ++ vU (zz (-m)) = x2 := ⟨_, rfl⟩
      have hx2l : x2.length = 2 := by rw [← hx2]; simp [hx1l, z2]
      rw [hx2] at c5
      have c6 : ∀ W, Wr W Q Q x2 → _ := fun W h => wbool_any Q Q (decide (0 < m)) x2 W h (by omega)
      obtain ⟨x3, hx3⟩ : ∃ x3, x2 ++ [if decide (0 < m) then (1 : Int) else 0] = x3 := ⟨_, rfl⟩
      have hx3l : x3.length = 3 := by rw [← hx3]; simp [hx2l]
      rw [hx3] at c6
      have c7 := fun W h => wdone_any Q Q x3 W h (by omega)
      have HX3 := Lib.hid hx3l
      have C4 := Lib.hid c4; have C5 := Lib.hid c5; have C6 := Lib.hid c6; have C7 := Lib.hid c7
      have HQ := Lib.hid hQ
      clear c4 c5 c6 c7 hQ z1 z2 hx1 hx1l hx2 hx2l hx3 hx3l
      go_wp2_with fail
      rw [HQ.out]
      refine (C4.out _ H2.out.1).mono ?_
      rintro e w2 ⟨⟨_, rfl⟩, hw, hb⟩
      have hPs : P < w1.heap.size + 1 := by have := HQ.out; omega
      have H3 : Hid (Wr w2 Q Q x1 ∧ Below Q (w1.alloc (.cells #[.slice none 0 0] 32)) w2) := ⟨hw, hb⟩
      clear hw hb
      go_wp2_with fail
      refine (C5.out _ H3.out.1).mono ?_
      rintro e w3 ⟨⟨_, rfl⟩, hw, hb⟩
      have H4 : Hid (Wr w3 Q Q x2 ∧ Below Q (w1.alloc (.cells #[.slice none 0 0] 32)) w3) := ⟨hw, H3.out.2.trans hb⟩
      clear hw hb H3
      go_wp2_with fail
      refine (C6.out _ H4.out.1).mono ?_
      rintro e w4 ⟨⟨_, rfl⟩, hw, hb⟩
      have H5 : Hid (Wr w4 Q Q x3 ∧ Wr w4 P P (vU K) ∧ Below P w w4) := by
        have hb4 := H4.out.2.trans hb
        rw [← HQ.out] at hb4
        have hb1 := (below_new w1 (.cells #[.slice none 0 0] 32)).trans hb4
        exact ⟨hw, H1.out.1.below hb1, H1.out.2.trans (hb1.mono (by have := HQ.out; omega))⟩
      clear hw hb H4 H2 H1
      go_wp2_with fail
      refine (C9.out _ H5.out.2.1).mono ?_
      rintro e w5 ⟨v, rfl, hown, hb⟩
      obtain ⟨_, a5, k5, rfl, _⟩ := sli_of_own hown
      have hP4 : P ≤ w4.heap.size := by have := H5.out.2.1.lt; omega
      have H6 : Hid (Wr w5 Q Q x3 ∧ Below P w w5) := ⟨H5.out.1.below hb, H5.out.2.2.trans (hb.mono hP4)⟩
      rw [HL.out]
      clear hown hb H5 hP4
      go_wp2_with fail
      refine (C7.out _ H6.out.1).mono ?_
      rintro e w6 ⟨v, rfl, hown, hb⟩
      obtain ⟨_, a6, k6, rfl, _⟩ := sli_of_own hown
      have hP5 : P ≤ w5.heap.size := by have := H6.out.1.lt; omega
      have H7 : Hid (Below P w w6) := H6.out.2.trans (hb.mono hP5)
      rw [HX3.out]
      clear hown hb H6 hP5
      go_wp2_with fail
      refine (wlives_any _).mono ?_
      rintro e w7 ⟨rfl, hb⟩
      have H8 : Hid (Below P w w7) := H7.out.trans (hb.mono (by have := H7.out.size; have := HP.out; omega))
      clear hb H7
      go_wp2
      go_ret
      exact ⟨rfl, by rw [HP.out]; exact H8.out⟩

theorem walk (a0 : Int) (a1 : Int) (a2 : Int) (w0 : (Lit.int .u64 a0).wf = true) (w1 : (Lit.int .i64 a1).wf = true) (w2 : (Lit.int .i64 a2).wf = true) (w : World) :
    Calls Try.prog 8 #[.int .u64 a0, .int .i64 a1, .int .i64 a2] w fun e w' => e = .returned (.bool true) ∧ Below w.heap.size w w' := by
  have h0 := wf_u64 w0
  obtain ⟨u, rfl⟩ : ∃ u : Nat, a0 = (u : Int) := ⟨a0.toNat, by omega⟩
  exact walkB u a1 a2 w (by omega) (wf_i64 w1).1 (wf_i64 w1).2 (wf_i64 w2).1 (wf_i64 w2).2

/-! ### THE ROW's STEP: WRITTEN OUT: LEAVE IT -/
set_option maxRecDepth 100000 in
theorem lifted (os : Os) (started : os.Started) (H : Type) (enc : TypeId × Value → H) :
    ReturnsInHanded {} Try.checked os 8 .any (Rows.wireSizesSpec.pre6 enc Try.prog Try.f8 Rows.wireSizesRow.domain false) (Rows.wireSizesSpec.post enc Try.prog Try.f8 false true false false) := by
  refine returnsInHanded_of_change (C := Try.checked) own started (by kernel_rfl) Try.func8
    (ChangeSpec.witness6 (enc := enc) (C := Try.checked) false ⟨#[], #[.int .u64 0, .int .i64 0, .int .i64 0], []⟩ 8 (by kernel_rfl) (by kernel_rfl) (by kernel_rfl) (by kernel_rfl)) ?_
  intro W base args ds gs before hval0 hW hcnd _
  have hval : ∀ (j : Nat) t v, Try.f8.params[j]? = some t → args[j]? = some v → Value.okWide Try.prog W .any base t v := hval0
  have hW' := hW
  obtain ⟨p, q, hA0, hV, rfl, hfz, hnd⟩ := hW
  have hA : DataW.TrodAll enc Try.prog W 0 (fun _ => true) true Try.f8.params.toList args.toList ds p := hA0
  rw [Try.params8] at hA hval
  obtain ⟨v0, vs0, d0, ds0, p0, q0, hargs, rfl, rfl, h0, r0⟩ := trodAll_cons hA
  obtain ⟨v1, vs1, d1, ds1, p1, q1, rfl, rfl, rfl, h1, r1⟩ := trodAll_cons r0
  obtain ⟨v2, vs2, d2, ds2, p2, q2, rfl, rfl, rfl, h2, r2⟩ := trodAll_cons r1
  obtain ⟨rfl, rfl, rfl⟩ := trodAll_nil r2
  obtain rfl : args = #[v0, v1, v2] := by cases args; simp_all
  obtain ⟨rfl, rfl⟩ := trodVars_none hV
  obtain ⟨a0, rfl, rfl, rfl, w0⟩ := open_int Try.underlying23 (hval 0 23 v0 rfl rfl) h0
  obtain ⟨a1, rfl, rfl, rfl, w1⟩ := open_int Try.underlying3 (hval 1 3 v1 rfl rfl) h1
  obtain ⟨a2, rfl, rfl, rfl, w2⟩ := open_int Try.underlying3 (hval 2 3 v2 rfl rfl) h2
  clear hA0 hval0
  simp only [List.append_nil] at hW'
  refine (walk a0 a1 a2 w0 w1 w2 W).mono fun e W' ⟨he, bel⟩ => ?_
  subst he
  exact ⟨_, rfl, _, _, _, [], _, [], hW', trodAll_mk1 (shut_bool Try.underlying4 _), (trodAll_cons_mk (shut_int Try.underlying23 w0) (trodAll_cons_mk (shut_int Try.underlying3 w1) (trodAll_cons_mk (shut_int Try.underlying3 w2) trodAll_mk0))), rfl, bel.frame _, fun h => by cases h⟩

theorem over : Rows.wireSizesRow.holds Try.pinned (OpenSpec.ofChange Rows.wireSizesSpec) :=
  OpenClaim.holds_of_wide 8 Try.f8 rfl rfl rfl rfl rfl rfl rfl ⟨rfl, rfl, rfl, rfl, rfl⟩ rfl rfl rfl rfl rfl (by kernel_rfl) Try.func8 (by kernel_rfl)
    (of_decide_eq_true (by kernel_rfl)) (by unfold Func.isWrapper; first | (rw [if_pos (by decide +kernel)]; kernel_rfl) | (rw [if_neg (by decide +kernel)]; exact ⟨rfl, rfl⟩))
    (fun os started H enc _ => lifted os started H enc)

/-- ████ THE STATEMENT ████ -/
theorem proved : Rows.WireSizesSaid :=
  over
#print axioms proved
end Go.Proofs.Ytfnpnomfdfdonaa.wireSizes
