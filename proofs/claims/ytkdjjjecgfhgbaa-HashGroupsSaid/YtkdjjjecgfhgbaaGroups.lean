/- For every label and every byte slice (its first 60), Bytes equals Sum of the slice's little-endian words followed by its length; appending a zero byte to a slice whose length is not a multiple of 8 changes the hash (P1.2). It has no conditions. The frame below is the guide's shell. -/
/-
  THE SHELL OF A PROOF OF 'Rows.HashGroupsSaid' ('schemalens/schemalenslaw01.HashGroups'), WRITTEN BY PROGRAM (proof-skeleton.mjs, third state) off the guide's own print for that function. Not trusted: Lean checks it.
  YOURS IS THE HOLE MARKED 'HOLE' (it bears 'sorry'). ALL ELSE IS THE GUIDE's OWN WAY (howto/template/XProofs.lean; Derived/Test/ChunkProofs.lean for 'Below') at this function's number and types: leave it.
-/
import Derived.Test.YtkdjjjecgfhgbaaRows
import Derived.Test.YtkdjjjecgfhgbaaInj
import Derived.WalkKit
import Derived.ProofKit
import Derived.OpenShut
import Derived.ShutString
import Derived.ChangeOld
import Derived.Below
namespace Go.Proofs.Ytkdjjjecgfhgbaa.hashGroups
open Go.ChangeShapes Go.WideShapes Go.ChangeAt Go.RowKit
open Go.ChangeMaps (open_string shut_string)
set_option linter.unusedVariables false

theorem own : ownKnob Try.prog.godebug = none := by kernel_rfl
theorem laidOut : laidOutB Try.prog = true := by kernel_rfl

set_option maxRecDepth 100000 in
set_option maxHeartbeats 4000000 in
theorem walkB (s : ByteArray) (b : Option Addr) (cb : Nat) (ys : List Int) (w : World) (hs : s.size ≤ 9223372036854775807) (hy : Sli .u8 w b cb ys) (hz : Byt ys) :
    Calls Try.prog 8 #[.string s, .slice b ys.length cb] w fun e w' => e = .returned (.bool true) ∧ Below w.heap.size w w' := by
  obtain ⟨i0, hi, hz0, hz1, hz2⟩ := info_parts info3
  obtain ⟨i5, hi5, hz50, hz51, hz52⟩ := info_parts info5
  obtain ⟨Y, hY⟩ : ∃ Y, ys.take 60 = Y := ⟨_, rfl⟩
  have hYl : Y.length ≤ 60 := by rw [← hY, List.length_take]; omega
  have hYb : Byt Y := by rw [← hY]; exact hz.take _
  have hYt : Y.take 60 = Y := List.take_of_length_le hYl
  obtain ⟨n, hn⟩ : ∃ n, Y.length = n := ⟨_, rfl⟩
  obtain ⟨K, hK⟩ : ∃ K, nGroups n = K := ⟨_, rfl⟩
  obtain ⟨X, hX⟩ : ∃ X, colU Y K = X := ⟨_, rfl⟩
  have hXl : X.length = K := by rw [← hX, colU_len]
  have hn60 : n ≤ 60 := by omega
  have hKb : K ≤ 200 := by rw [← hK]; unfold nGroups; omega
  obtain ⟨S, hS⟩ : ∃ S, shS s 20 = S := ⟨_, rfl⟩
  have hSl : S.size ≤ 20 := by rw [← hS]; exact shS_size s 20
  have c0 := fun W => short_any s 20 W hs (by omega)
  rw [hS] at c0
  obtain ⟨p, hp⟩ : ∃ p, U (bytesS (sb S) Y) = p := ⟨_, rfl⟩
  obtain ⟨q, hq⟩ : ∃ q, U (bytesS (sb S) (Y ++ [0])) = q := ⟨_, rfl⟩
  have hne : ¬ n % 8 = 0 → (q != p) = true := fun h => by
    rw [bne_iff_ne]; intro e
    rw [← hq, ← hp] at e
    exact bytesS_zero (by omega) (by rw [hn]; exact h) (U_inj e)
  have c1 := fun W h => few_sli Y b cb 60 ys W h (by omega) hY
  have c2 := fun a1 k1 W h => words_sli X a1 k1 Y W h (by omega) hYb (by rw [hn, hK, hX])
  have c3 := fun a1 k1 W h => bytes_sli S a1 k1 Y W h (by omega) (by omega) hYb p hp
  have c4 : ∀ (v : Value) (m base : Nat) (W : World), W.ownsRow base 3 1 v m ((colS Y K ++ [(n : Int)]).map (Value.int .i64)) →
      Calls Try.prog 13 #[.string S, v] W fun e w' => e = .returned (.int .u64 p) ∧ Below W.heap.size W w' := fun v m base W h => by
    obtain ⟨_, a', cap', hv, hsli⟩ := sli_of_own h
    rw [hv]
    exact sum_sli S a' cap' _ W hsli (by omega) (by simp [colS_len]; omega) p (by rw [← hp, bytesS_col, hn, hK])
  have c5 := fun a1 k1 W h => few_any a1 k1 60 Y W h (by omega)
  have c6 : ∀ (v : Value) (m base : Nat) (W : World), W.ownsRow base 5 1 v m ((Y ++ [0]).map (Value.int .u8)) →
      Calls Try.prog 17 #[.string S, v] W fun e w' => e = .returned (.int .u64 q) ∧ Below W.heap.size W w' := fun v m base W h => by
    obtain ⟨_, a', cap', hv, hsli⟩ := sli_of_own h
    rw [hv]
    exact bytes_sli S a' cap' _ W hsli (by omega) (by simp; omega) (by
      intro c hc
      rcases List.mem_append.1 hc with h1 | h1
      · exact hYb c h1
      · simp at h1; omega) q hq
  rw [hYt] at c5
  rw [hn] at c2 c3 c5
  have C0 := Lib.hid c0; have C1 := Lib.hid c1; have C2 := Lib.hid c2; have C3 := Lib.hid c3; have C4 := Lib.hid c4; have C5 := Lib.hid c5; have C6 := Lib.hid c6
  have HY := Lib.hid hy; have HX := Lib.hid hX; have HXL := Lib.hid hXl; have HNE := Lib.hid hne; have HN := Lib.hid hn
  clear c0 c1 c2 c3 c4 c5 c6 hX hXl hp hq hy hS hYb hz hYt hn hK hY hYl hne
  have hcase : ((n : Int) % 8 == 0) = true ∨ (((n : Int) % 8 == 0) = false ∧ (q != p) = true) := by
    by_cases h : n % 8 = 0
    · exact .inl (by simp; omega)
    · exact .inr ⟨by simp; omega, HNE.out h⟩
  have HCASE := Lib.hid hcase
  clear hcase HNE
  go_enter Try.func8, Try.ntmps8
  go_wp2_with fail
  refine (C0.out _).mono ?_
  rintro e w' ⟨rfl, rfl⟩
  go_wp2_with fail
  refine (C1.out _ HY.out).mono ?_
  rintro e w1 ⟨a1, k1, rfl, s1, b1⟩
  rw [HN.out]
  have H1 := Lib.hid (And.intro s1 b1)
  clear s1 b1
  go_wp2_with fail
  refine (C2.out _ _ _ H1.out.1).mono ?_
  rintro e w2 ⟨a2, k2, rfl, s2, b2⟩
  rw [HXL.out]
  have H2 : Hid (Sli .u8 w2 a1 k1 Y ∧ Sli .u64 w2 a2 k2 X ∧ Below w.heap.size w w2) := ⟨H1.out.1.below b2, s2, H1.out.2.trans (b2.mono H1.out.2.size)⟩
  clear s2 b2 H1
  go_wp2_with fail
  go_loopw [8, 9] (fun v i wr => ∃ k : Nat, k ≤ K ∧ i = .int .i64 k ∧ wr.ownsRow w2.heap.size 3 1 v k ((colS Y k).map (Value.int .i64)) ∧ Below w2.heap.size w2 wr) (fun _ i _ => K - (intOf i).toNat)
  case atStart => exact ⟨0, Nat.zero_le _, rfl, World.ownsRow_nil _ _ _ _, Below.refl _ _⟩
  case round =>
    obtain ⟨k, hk, rfl, hown, hB⟩ := hrel
    by_cases hlt : k < K
    · rcases (H2.out.2.1.below hB).cells with h | ⟨bb, off, ha, _, hcb⟩
      · exact absurd (congrArg List.length h) (by rw [HXL.out]; simp; omega)
      have hck := hcb k (by rw [HXL.out]; exact hlt)
      rw [← HX.out, colU_get _ _ _ hlt] at hck
      have hsz := hB.size
      clear hcb
      subst ha
      go_wp2_with (at_builtin; refine wpList_append_own _ rfl _ _ 22 rfl w2.heap.size 3 i0 (.int .i64 0) 1 8 Try.underlying22 hi hz0 hz1 hz2 rfl (by decide) _ _ _ rfl (hown.alloc _) ⟨wr.heap.size, 0, none⟩ 1 1 [.int .i64 (wrap64 (U (word Y k)))] rfl rfl (cell_one_new _ _ _) (fun x hx => by simp at hx; subst hx; rfl) (by unfold maxLen; omega) (by omega) (by rw [World.size_alloc]; omega) ?_; intro v' w3 hown' hgrow _)
      go_roundw
      case rel => exact ⟨k + 1, by omega, by go_num, by rw [colS_succ, List.map_append]; exact hown', (hB.alloc hB.size _).grown hgrow (by rw [World.size_alloc]; omega) (fun j e => (hown.lt j e).1)⟩
      case measure => simp [intOf]; omega
    · have hkK : k = K := by omega
      subst hkK
      have HB := Lib.hid hB
      have hsz := hB.size
      have HO := Lib.hid hown
      clear hown hB
      go_wp2_with fail
      refine (C3.out _ _ _ (H2.out.1.below HB.out)).mono ?_
      rintro e w3 ⟨rfl, b3⟩
      have HB3 := Lib.hid (HB.out.trans (b3.mono hsz))
      have HO2 := Lib.hid (own_same HO.out (fun g e => b3.block g (HO.out.lt g e).2))
      have hsz3 := HB3.out.size
      clear b3 HO HB hsz
      go_wp2_with (at_builtin; refine wpList_append_own _ rfl _ _ 22 rfl w2.heap.size 3 i0 (.int .i64 0) 1 8 Try.underlying22 hi hz0 hz1 hz2 rfl (by decide) _ _ _ rfl (HO2.out.alloc _) ⟨w3.heap.size, 0, none⟩ 1 1 [.int .i64 (n : Int)] rfl rfl (cell_one_new _ _ _) (fun x hx => by simp at hx; subst hx; rfl) (by unfold maxLen; omega) (by omega) (by rw [World.size_alloc]; omega) ?_; intro v' w4 hown' hgrow _)
      have HB4 := Lib.hid ((HB3.out.alloc HB3.out.size (.cells #[.int .i64 (n : Int)] 3)).grown hgrow (by rw [World.size_alloc]; omega) (fun j e => (HO2.out.lt j e).1))
      have HO3 := Lib.hid hown'
      have hsz4 := HB4.out.size
      clear hown' hgrow HB3 HO2 hsz3
      refine (C4.out _ _ _ _ (by rw [List.map_append]; exact HO3.out)).mono ?_
      rintro e w5 ⟨rfl, b5⟩
      have HB5 := Lib.hid (HB4.out.trans (b5.mono hsz4))
      have hsz5 := HB5.out.size
      clear b5 HB4 HO3 hsz4
      go_wp2_with fail
      refine (C5.out _ _ _ (H2.out.1.below HB5.out)).mono ?_
      rintro e w6 ⟨v6, rfl, o6, b6⟩
      rw [HN.out] at o6
      have HB6 := Lib.hid (HB5.out.trans (b6.mono hsz5))
      have HO6 := Lib.hid o6
      have hsz6 := b6.size
      clear b6 o6
      rcases HCASE.out with hq | ⟨hq, hpq⟩
      · go_wp2_with (at_builtin; refine wpList_append_own _ rfl _ _ 30 rfl w5.heap.size 5 i5 (.int .u8 0) 1 1 Try.underlying30 hi5 hz50 hz51 hz52 rfl (by decide) _ _ _ rfl (HO6.out.alloc _) ⟨w6.heap.size, 0, none⟩ 1 1 [.int .u8 0] rfl rfl (cell_one_new _ _ _) (fun x hx => by simp at hx; subst hx; rfl) (by unfold maxLen; omega) (by omega) (by rw [World.size_alloc]; omega) ?_; intro v7 w7 o7 hgrow _)
        have HB7 := Lib.hid ((HB6.out.alloc HB6.out.size (.cells #[.int .u8 0] 5)).grown hgrow (by rw [World.size_alloc]; omega) (fun j e => by have := (HO6.out.lt j e).1; omega))
        have HO7 := Lib.hid o7
        have hsz7 := HB7.out.size
        clear o7 hgrow HO6 HB6 HB5 hsz6 hsz5
        go_wp2_with fail
        refine (lives_any _).mono ?_
        rintro e w8 ⟨rfl, b8⟩
        have HB8 := Lib.hid (H2.out.2.2.trans ((HB7.out.trans (b8.mono hsz7)).mono H2.out.2.2.size))
        clear b8
        go_wp2
        go_ret
        exact ⟨rfl, HB8.out⟩
      · go_wp2_with (at_builtin; refine wpList_append_own _ rfl _ _ 30 rfl w5.heap.size 5 i5 (.int .u8 0) 1 1 Try.underlying30 hi5 hz50 hz51 hz52 rfl (by decide) _ _ _ rfl (HO6.out.alloc _) ⟨w6.heap.size, 0, none⟩ 1 1 [.int .u8 0] rfl rfl (cell_one_new _ _ _) (fun x hx => by simp at hx; subst hx; rfl) (by unfold maxLen; omega) (by omega) (by rw [World.size_alloc]; omega) ?_; intro v7 w7 o7 hgrow _)
        have HB7 := Lib.hid ((HB6.out.alloc HB6.out.size (.cells #[.int .u8 0] 5)).grown hgrow (by rw [World.size_alloc]; omega) (fun j e => by have := (HO6.out.lt j e).1; omega))
        have HO7 := Lib.hid o7
        have hsz7 := HB7.out.size
        clear o7 hgrow HO6 HB6 HB5 hsz6 hsz5
        go_wp2_with fail
        refine (C6.out _ _ _ _ (by rw [List.map_append]; exact HO7.out)).mono ?_
        rintro e w8 ⟨rfl, b8⟩
        have HB8 := Lib.hid (HB7.out.trans (b8.mono hsz7))
        have hsz8 := HB8.out.size
        clear b8 HB7 HO7
        go_wp2_with fail
        refine (C3.out _ _ _ (H2.out.1.below HB8.out)).mono ?_
        rintro e w9 ⟨rfl, b9⟩
        have HB9 := Lib.hid (HB8.out.trans (b9.mono hsz8))
        have hsz9 := HB9.out.size
        clear b9 HB8
        go_wp2_with fail
        refine (lives_any _).mono ?_
        rintro e w10 ⟨rfl, b10⟩
        have HB10 := Lib.hid (H2.out.2.2.trans ((HB9.out.trans (b10.mono hsz9)).mono H2.out.2.2.size))
        clear b10
        go_wp2
        go_ret
        exact ⟨rfl, HB10.out⟩

theorem walk (a0 : ByteArray) (a1 : Option Addr) (len1 cap1 : Nat) (z1 : List Int) (w : World) (w0 : a0.size ≤ maxLen) (w1 : IsRow .u8 w a1 len1 cap1 z1) :
    Calls Try.prog 8 #[.string a0, .slice a1 len1 cap1] w fun e w' => e = .returned (.bool true) ∧ Below w.heap.size w w' := by
  obtain ⟨ys, rfl, hy, hwf⟩ := sli_of_isRow w1
  exact walkB a0 a1 cap1 ys w (by unfold maxLen at w0; omega) hy (byt_of_wf hwf)

/-! ### THE ROW's STEP: WRITTEN OUT: LEAVE IT -/
set_option maxRecDepth 100000 in
theorem lifted (os : Os) (started : os.Started) (H : Type) (enc : TypeId × Value → H) :
    ReturnsInHanded {} Try.checked os 8 .any (Rows.hashGroupsSpec.pre6 enc Try.prog Try.f8 Rows.hashGroupsRow.domain false) (Rows.hashGroupsSpec.post enc Try.prog Try.f8 false true false false) := by
  refine returnsInHanded_of_change (C := Try.checked) own started (by kernel_rfl) Try.func8
    (ChangeSpec.witness6 (enc := enc) (C := Try.checked) false ⟨#[], #[.string ByteArray.empty, .slice none 0 0], []⟩ 8 (by kernel_rfl) (by kernel_rfl) (by kernel_rfl) (by kernel_rfl)) ?_
  intro W base args ds gs before hval0 hW hcnd _
  have hval : ∀ (j : Nat) t v, Try.f8.params[j]? = some t → args[j]? = some v → Value.okWide Try.prog W .any base t v := hval0
  have hW' := hW
  obtain ⟨p, q, hA0, hV, rfl, hfz, hnd⟩ := hW
  have hA : DataW.TrodAll enc Try.prog W 0 (fun _ => true) true Try.f8.params.toList args.toList ds p := hA0
  rw [Try.params8] at hA hval
  obtain ⟨v0, vs0, d0, ds0, p0, q0, hargs, rfl, rfl, h0, r0⟩ := trodAll_cons hA
  obtain ⟨v1, vs1, d1, ds1, p1, q1, rfl, rfl, rfl, h1, r1⟩ := trodAll_cons r0
  obtain ⟨rfl, rfl, rfl⟩ := trodAll_nil r1
  obtain rfl : args = #[v0, v1] := by cases args; simp_all
  obtain ⟨rfl, rfl⟩ := trodVars_none hV
  obtain ⟨a0, rfl, rfl, rfl, w0⟩ := open_string Try.underlying9 (hval 0 9 v0 rfl rfl) h0
  obtain ⟨a1, len1, cap1, rfl⟩ := okWide_slice Try.underlying30 (hval 1 30 v1 rfl rfl)
  have k1 := h1
  have lt1 : ∀ x ∈ p1, x.block < W.heap.size := by obtain ⟨m, hm⟩ := k1; exact DataW.trod_lt m _ _ _ hm
  obtain ⟨z1, w1⟩ : ∃ zs, IsRow .u8 W a1 len1 cap1 zs := by
    obtain ⟨fuel, hf⟩ := h1
    rcases open_ints Try.underlying30 Try.underlying5 (by kernel_rfl) hf with ⟨hcs, _⟩ | ⟨x, l, c, zs, hcs, _, hl, hm, hz, _, hcell, hwz⟩
    · simp [Value.cells] at hcs
      obtain ⟨rfl, rfl, rfl⟩ := hcs
      exact ⟨[], .inl ⟨rfl, rfl, rfl, rfl⟩⟩
    · simp [Value.cells] at hcs
      obtain ⟨rfl, rfl, rfl⟩ := hcs
      exact ⟨zs, .inr ⟨_, rfl, hl, hm, by simpa using hz, hcell, hwz⟩⟩
  clear hA0 hval0
  refine (walk a0 a1 len1 cap1 z1 W w0 w1).mono fun e W' ⟨he, bel⟩ => ?_
  subst he
  exact ⟨_, rfl, _, _, _, [], _, [], hW', trodAll_mk1 (shut_bool Try.underlying4 _), (trodAll_cons_mk (shut_string Try.underlying9 w0) (trodAll_cons_mk (Below.trod laidOut (by kernel_rfl) (of_decide_eq_true (by kernel_rfl)) k1 bel lt1) trodAll_mk0)), rfl, bel.frame _, fun h => by cases h⟩

theorem over : Rows.hashGroupsRow.holds Try.pinned (OpenSpec.ofChange Rows.hashGroupsSpec) :=
  OpenClaim.holds_of_wide 8 Try.f8 rfl rfl rfl rfl rfl rfl rfl ⟨rfl, rfl, rfl, rfl, rfl⟩ rfl rfl rfl rfl rfl (by kernel_rfl) Try.func8 (by kernel_rfl)
    (of_decide_eq_true (by kernel_rfl)) (by unfold Func.isWrapper; first | (rw [if_pos (by decide +kernel)]; kernel_rfl) | (rw [if_neg (by decide +kernel)]; exact ⟨rfl, rfl⟩))
    (fun os started H enc _ => lifted os started H enc)

/-- ████ THE STATEMENT ████ -/
theorem proved : Rows.HashGroupsSaid := over
#print axioms proved
end Go.Proofs.Ytkdjjjecgfhgbaa.hashGroups
