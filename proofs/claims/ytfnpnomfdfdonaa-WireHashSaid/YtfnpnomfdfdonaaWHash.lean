/- For all pairs of numbers below 2^56 whose encodings have equal lengths, the hashes of the encodings are equal just where the numbers are (P2.7, P1.3). It has no conditions. The frame below is the guide's shell. -/
import Derived.Test.YtfnpnomfdfdonaaRows
import Derived.Test.YtfnpnomfdfdonaaWLives
import Derived.Test.YtfnpnomfdfdonaaAround
import Derived.Test.YtfnpnomfdfdonaaShort
import Derived.Test.YtfnpnomfdfdonaaWf
import Derived.Test.YtfnpnomfdfdonaaInj
import Derived.ChangeOld
import Derived.Below
import Derived.WalkKit
import Derived.ProofKit
import Derived.OpenShut
import Derived.ShutString
namespace Go.Proofs.Ytfnpnomfdfdonaa.wireHash
open Go.ChangeShapes Go.WideShapes Go.ChangeAt Go.RowKit
open Go.ChangeMaps (open_string shut_string)
set_option linter.unusedVariables false      -- a walk need not use every 'w<i>' (that an integer argument fits its kind)

theorem own : ownKnob Try.prog.godebug = none := by kernel_rfl

theorem vU_inj {m n : Nat} (hm : m < 18446744073709551616) (hn : n < 18446744073709551616) (h : vU m = vU n) : m = n := by
  have h1 := rdU_write hm []
  have h2 := rdU_write hn []
  rw [h, h2] at h1
  exact (congrArg Prod.fst h1).symm
theorem hash_eq (lab : List Int) (m n : Nat) (hm : m < 72057594037927936) (hn : n < 72057594037927936) (hl : (vU m).length = (vU n).length) :
    (U (bytesS lab (vU m)) == U (bytesS lab (vU n))) = decide (m = n) := by
  have h8 : (128 : Nat) ^ 8 = 72057594037927936 := by decide
  have l8 : (vU m).length ≤ 8 := vU_len m 7 (by omega)
  rw [U_beq, Bool.eq_iff_iff, decide_eq_true_eq, decide_eq_true_eq]
  constructor
  · intro h
    refine vU_inj (by omega) (by omega) (bytesS_one (k := 0) (vU_byt m) (vU_byt n) hl (fun j hj => ?_) h)
    rw [List.getElem?_eq_none (by omega), List.getElem?_eq_none (by omega)]
  · rintro rfl; rfl

theorem len8 {m : Nat} (hm : m < 72057594037927936) : (vU m).length ≤ 8 := by
  have h8 : (128 : Nat) ^ 8 = 72057594037927936 := by decide
  exact vU_len m 7 (by omega)
theorem shr56 (u k : Nat) (h : u < 18446744073709551616) : u / 2 ^ (8 + k) < 72057594037927936 := by
  have h1 : u / 2 ^ (8 + k) = u / 256 / 2 ^ k := by rw [Nat.pow_add, ← Nat.div_div_eq_div_mul]
  have h2 : u / 256 / 2 ^ k ≤ u / 256 := Nat.div_le_self _ _
  omega

set_option maxRecDepth 100000 in
set_option maxHeartbeats 4000000 in
theorem walkB (a b : Nat) (s : Int) (lab : ByteArray) (w : World) (ha : a < 18446744073709551616) (hb : b < 18446744073709551616) (hs1 : -9223372036854775808 ≤ s) (hs2 : s ≤ 9223372036854775807) (hlab : lab.size ≤ 9223372036854775807) :
    Calls Try.prog 10 #[.int .u64 (a : Int), .int .u64 (b : Int), .int .i64 s, .string lab] w fun e w' => e = .returned (.bool true) ∧ Below w.heap.size w w' := by
  have c1 := fun W => around_any s 56 W hs1 hs2 (by omega) (by omega)
  have C1 := Lib.hid c1
  clear c1
  go_enter Try.func10, Try.ntmps10
  go_wp2_with fail
  refine (C1.out _).mono ?_
  rintro e w' ⟨k, hk, rfl, rfl⟩
  go_wp2_with fail
  obtain ⟨M, hM⟩ : ∃ M : Nat, a / 2 ^ (8 + k) = M := ⟨_, rfl⟩
  obtain ⟨N, hN⟩ : ∃ N : Nat, b / 2 ^ (8 + k) = N := ⟨_, rfl⟩
  have hMl : M < 72057594037927936 := by rw [← hM]; exact shr56 a k ha
  have hNl : N < 72057594037927936 := by rw [← hN]; exact shr56 b k hb
  have hMi : (a : Int) / 2 ^ (8 + k) = (M : Int) := by rw [← hM]; push_cast; rfl
  have hNi : (b : Int) / 2 ^ (8 + k) = (N : Int) := by rw [← hN]; push_cast; rfl
  rw [hMi, hNi]
  obtain ⟨S, hS⟩ : ∃ S, shS lab 20 = S := ⟨_, rfl⟩
  have hSl : S.size ≤ 20 := by rw [← hS]; exact shS_size lab 20
  obtain ⟨LM, hLM⟩ : ∃ L, (vU M).length = L := ⟨_, rfl⟩
  obtain ⟨LN, hLN⟩ : ∃ L, (vU N).length = L := ⟨_, rfl⟩
  have hLM8 : LM ≤ 8 := by rw [← hLM]; exact len8 hMl
  have hLN8 : LN ≤ 8 := by rw [← hLN]; exact len8 hNl
  obtain ⟨P, hP⟩ : ∃ P, w.heap.size = P := ⟨_, rfl⟩
  have c2 := fun W h => wuint_at P P M (M : Int) [] _ W h rfl (by omega) (by decide) (List.nil_append _)
  have c3 := fun Q W h => wuint_at Q Q N (N : Int) [] _ W h rfl (by omega) (by decide) (List.nil_append _)
  have c4 := fun W h => wdone_any P P (vU M) W h (by omega)
  have c5 := fun Q W h => wdone_any Q Q (vU N) W h (by omega)
  have c6 := fun W => short_any lab 20 W hlab (by omega)
  rw [hS] at c6
  obtain ⟨X, hX⟩ : ∃ X, U (bytesS (sb S) (vU M)) = X := ⟨_, rfl⟩
  obtain ⟨Y, hY⟩ : ∃ Y, U (bytesS (sb S) (vU N)) = Y := ⟨_, rfl⟩
  have c7 := fun a1 k1 W h => bytes_sli S a1 k1 (vU M) W h (by omega) (by omega) (vU_byt M) X hX
  have c8 := fun a1 k1 W h => bytes_sli S a1 k1 (vU N) W h (by omega) (by omega) (vU_byt N) Y hY
  rw [hLM] at c7
  rw [hLN] at c8
  have hne : LM ≠ LN → ((M : Int) != (N : Int)) = true := by
    intro h
    have : M ≠ N := fun e => h (by rw [← hLM, ← hLN, e])
    simp; omega
  have heq : LM = LN → (X == Y) = ((M : Int) == (N : Int)) := by
    intro h
    have h1 := hash_eq (sb S) M N hMl hNl (by rw [hLM, hLN, h])
    rw [hX, hY] at h1
    rw [h1, Bool.eq_iff_iff, decide_eq_true_eq, beq_iff_eq]
    omega
  have C2 := Lib.hid c2; have C3 := Lib.hid c3; have C4 := Lib.hid c4; have C5 := Lib.hid c5; have C6 := Lib.hid c6; have C7 := Lib.hid c7; have C8 := Lib.hid c8
  have HLM := Lib.hid hLM; have HLN := Lib.hid hLN; have HP := Lib.hid hP; have HNE := Lib.hid hne; have HEQ := Lib.hid heq
  clear c2 c3 c4 c5 c6 c7 c8 hLM hLN hP hne heq hM hN hMi hNi hS hX hY C1
  rw [HP.out]
  have W1 : Hid (Wr (w.alloc (.cells #[.slice none 0 0] 32)) P P [] ∧ Below P w (w.alloc (.cells #[.slice none 0 0] 32))) := by rw [← HP.out]; exact ⟨wr_new w, below_new w _⟩
  refine (C2.out _ W1.out.1).mono ?_
  rintro e w1 ⟨⟨_, rfl⟩, hw, hb⟩
  have H1 := Lib.hid (And.intro hw (W1.out.2.trans hb))
  clear hw hb W1 C2
  obtain ⟨Q, hQ⟩ : ∃ Q, w1.heap.size = Q := ⟨_, rfl⟩
  have hPQ : P < Q := by have := H1.out.1.lt; omega
  have H2 : Hid (Wr (w1.alloc (.cells #[.slice none 0 0] 32)) Q Q [] ∧ Below P w (w1.alloc (.cells #[.slice none 0 0] 32))) := by
    rw [← hQ]; exact ⟨wr_new w1, H1.out.2.trans ((below_new w1 _).mono (by omega))⟩
  have HQ := Lib.hid hQ
  clear hQ
  go_wp2_with fail
  rw [HQ.out]
  refine (C3.out Q _ H2.out.1).mono ?_
  rintro e w2 ⟨⟨_, rfl⟩, hw, hb⟩
  have H3 : Hid (Wr w2 Q Q (vU N) ∧ Wr w2 P P (vU M) ∧ Below P w w2) := by
    rw [← HQ.out] at hb
    have hb1 := (below_new w1 (.cells #[.slice none 0 0] 32)).trans hb
    exact ⟨hw, H1.out.1.below hb1, H1.out.2.trans (hb1.mono (by have := HQ.out; omega))⟩
  clear hw hb H1 H2 C3
  go_wp2_with fail
  refine (C4.out _ H3.out.2.1).mono ?_
  rintro e w3 ⟨v, rfl, hown, hb⟩
  obtain ⟨_, a3, k3, rfl, hs⟩ := sli_of_own hown
  have hP2 : P ≤ w2.heap.size := by have := H3.out.2.1.lt; omega
  have H4 : Hid (Wr w3 Q Q (vU N) ∧ Sli .u8 w3 a3 k3 (vU M) ∧ Below P w w3) := ⟨H3.out.1.below hb, hs, H3.out.2.2.trans (hb.mono hP2)⟩
  rw [HLM.out]
  clear hown hb hs H3 hP2 C4
  go_wp2_with fail
  refine (C5.out Q _ H4.out.1).mono ?_
  rintro e w4 ⟨v, rfl, hown, hb⟩
  obtain ⟨_, a4, k4, rfl, hs⟩ := sli_of_own hown
  have hP3 : P ≤ w3.heap.size := by have := H4.out.1.lt; omega
  have H5 : Hid (Sli .u8 w4 a4 k4 (vU N) ∧ Sli .u8 w4 a3 k3 (vU M) ∧ Below P w w4) := ⟨hs, Sli.below H4.out.2.1 hb, H4.out.2.2.trans (hb.mono hP3)⟩
  rw [HLN.out]
  clear hown hb hs H4 hP3 C5
  go_wp2_with fail
  refine (C6.out _).mono ?_
  rintro e w5 ⟨rfl, rfl⟩
  have hgt : ¬ (LM : Int) > 8 := by omega
  have hle : (LM : Int) ≤ 8 := by omega
  by_cases hl : LM = LN
  · subst hl
    have hXY := HEQ.out rfl
    have HXY := Lib.hid hXY
    clear hXY HNE HEQ
    go_wp2_with fail
    refine (C7.out _ _ _ H5.out.2.1).mono ?_
    rintro e w6 ⟨rfl, hb⟩
    have H6 : Hid (Sli .u8 w6 a4 k4 (vU N) ∧ Below P w w6) := ⟨Sli.below H5.out.1 hb, H5.out.2.2.trans (hb.mono (by have := H5.out.2.2.size; have := HP.out; omega))⟩
    clear hb H5
    go_wp2_with fail
    refine (C8.out _ _ _ H6.out.1).mono ?_
    rintro e w7 ⟨rfl, hb⟩
    have H7 : Hid (Below P w w7) := H6.out.2.trans (hb.mono (by have := H6.out.2.size; have := HP.out; omega))
    clear hb H6
    have hq : ((X == Y) == ((M : Int) == (N : Int))) = true := by rw [HXY.out]; simp
    go_wp2_with fail
    refine (wlives_any _).mono ?_
    rintro e w8 ⟨rfl, hb⟩
    have H8 : Hid (Below P w w8) := H7.out.trans (hb.mono (by have := H7.out.size; have := HP.out; omega))
    clear hb H7
    go_wp2
    go_ret
    exact ⟨rfl, by rw [HP.out]; exact H8.out⟩
  · have hq := HNE.out hl
    have hq2 : ((LM : Int) != (LN : Int)) = true := by simp; omega
    clear HEQ HNE
    go_wp2_with fail
    refine (wlives_any _).mono ?_
    rintro e w8 ⟨rfl, hb⟩
    have H8 : Hid (Below P w w8) := H5.out.2.2.trans (hb.mono (by have := H5.out.2.2.size; have := HP.out; omega))
    clear hb H5
    go_wp2
    go_ret
    exact ⟨rfl, by rw [HP.out]; exact H8.out⟩

theorem walk (a0 : Int) (a1 : Int) (a2 : Int) (a3 : ByteArray) (w0 : (Lit.int .u64 a0).wf = true) (w1 : (Lit.int .u64 a1).wf = true) (w2 : (Lit.int .i64 a2).wf = true) (w3 : a3.size ≤ maxLen) (w : World) :
    Calls Try.prog 10 #[.int .u64 a0, .int .u64 a1, .int .i64 a2, .string a3] w fun e w' => e = .returned (.bool true) ∧ Below w.heap.size w w' := by
  have h0 := wf_u64 w0
  have h1 := wf_u64 w1
  obtain ⟨a, rfl⟩ : ∃ a : Nat, a0 = (a : Int) := ⟨a0.toNat, by omega⟩
  obtain ⟨b, rfl⟩ : ∃ b : Nat, a1 = (b : Int) := ⟨a1.toNat, by omega⟩
  exact walkB a b a2 a3 w (by omega) (by omega) (wf_i64 w2).1 (wf_i64 w2).2 w3

/-! ### THE ROW's STEP: WRITTEN OUT: LEAVE IT -/
set_option maxRecDepth 100000 in
theorem lifted (os : Os) (started : os.Started) (H : Type) (enc : TypeId × Value → H) :
    ReturnsInHanded {} Try.checked os 10 .any (Rows.wireHashSpec.pre6 enc Try.prog Try.f10 Rows.wireHashRow.domain false) (Rows.wireHashSpec.post enc Try.prog Try.f10 false true false false) := by
  refine returnsInHanded_of_change (C := Try.checked) own started (by kernel_rfl) Try.func10
    (ChangeSpec.witness6 (enc := enc) (C := Try.checked) false ⟨#[], #[.int .u64 0, .int .u64 0, .int .i64 0, .string ByteArray.empty], []⟩ 8 (by kernel_rfl) (by kernel_rfl) (by kernel_rfl) (by kernel_rfl)) ?_
  intro W base args ds gs before hval0 hW hcnd _
  have hval : ∀ (j : Nat) t v, Try.f10.params[j]? = some t → args[j]? = some v → Value.okWide Try.prog W .any base t v := hval0
  have hW' := hW
  obtain ⟨p, q, hA0, hV, rfl, hfz, hnd⟩ := hW
  have hA : DataW.TrodAll enc Try.prog W 0 (fun _ => true) true Try.f10.params.toList args.toList ds p := hA0
  rw [Try.params10] at hA hval
  obtain ⟨v0, vs0, d0, ds0, p0, q0, hargs, rfl, rfl, h0, r0⟩ := trodAll_cons hA
  obtain ⟨v1, vs1, d1, ds1, p1, q1, rfl, rfl, rfl, h1, r1⟩ := trodAll_cons r0
  obtain ⟨v2, vs2, d2, ds2, p2, q2, rfl, rfl, rfl, h2, r2⟩ := trodAll_cons r1
  obtain ⟨v3, vs3, d3, ds3, p3, q3, rfl, rfl, rfl, h3, r3⟩ := trodAll_cons r2
  obtain ⟨rfl, rfl, rfl⟩ := trodAll_nil r3
  obtain rfl : args = #[v0, v1, v2, v3] := by cases args; simp_all
  obtain ⟨rfl, rfl⟩ := trodVars_none hV
  obtain ⟨a0, rfl, rfl, rfl, w0⟩ := open_int Try.underlying23 (hval 0 23 v0 rfl rfl) h0
  obtain ⟨a1, rfl, rfl, rfl, w1⟩ := open_int Try.underlying23 (hval 1 23 v1 rfl rfl) h1
  obtain ⟨a2, rfl, rfl, rfl, w2⟩ := open_int Try.underlying3 (hval 2 3 v2 rfl rfl) h2
  obtain ⟨a3, rfl, rfl, rfl, w3⟩ := open_string Try.underlying9 (hval 3 9 v3 rfl rfl) h3
  clear hA0 hval0
  simp only [List.append_nil] at hW'
  refine (walk a0 a1 a2 a3 w0 w1 w2 w3 W).mono fun e W' ⟨he, bel⟩ => ?_
  subst he
  exact ⟨_, rfl, _, _, _, [], _, [], hW', trodAll_mk1 (shut_bool Try.underlying4 _), (trodAll_cons_mk (shut_int Try.underlying23 w0) (trodAll_cons_mk (shut_int Try.underlying23 w1) (trodAll_cons_mk (shut_int Try.underlying3 w2) (trodAll_cons_mk (shut_string Try.underlying9 w3) trodAll_mk0)))), rfl, bel.frame _, fun h => by cases h⟩

theorem over : Rows.wireHashRow.holds Try.pinned (OpenSpec.ofChange Rows.wireHashSpec) :=
  OpenClaim.holds_of_wide 10 Try.f10 rfl rfl rfl rfl rfl rfl rfl ⟨rfl, rfl, rfl, rfl, rfl⟩ rfl rfl rfl rfl rfl (by kernel_rfl) Try.func10 (by kernel_rfl)
    (of_decide_eq_true (by kernel_rfl)) (by unfold Func.isWrapper; first | (rw [if_pos (by decide +kernel)]; kernel_rfl) | (rw [if_neg (by decide +kernel)]; exact ⟨rfl, rfl⟩))
    (fun os started H enc _ => lifted os started H enc)

/-- ████ THE STATEMENT ████ -/
theorem proved : Rows.WireHashSaid :=
  over
#print axioms proved
end Go.Proofs.Ytfnpnomfdfdonaa.wireHash
