/- For every label and every list of integers (its first 10), replacing exactly one element by a different value changes the sum, and replacing it by itself does not (P1.3). It has no conditions. The frame below is the guide's shell. -/
/-
  THE SHELL OF A PROOF OF 'Rows.HashOneWordSaid' ('schemalens/schemalenslaw01.HashOneWord'), WRITTEN BY PROGRAM (proof-skeleton.mjs, third state) off the guide's own print for that function. Not trusted: Lean checks it.
  YOURS IS THE HOLE MARKED 'HOLE' (it bears 'sorry'). ALL ELSE IS THE GUIDE's OWN WAY (howto/template/XProofs.lean; Derived/Test/ChunkProofs.lean for 'Below') at this function's number and types: leave it.
-/
import Derived.Test.YtkdjjjecgfhgbaaRows
import Derived.Test.YtkdjjjecgfhgbaaRows2
import Derived.Deep.RegionWith
import Derived.WalkKit
import Derived.ProofKit
import Derived.OpenShut
import Derived.ShutString
import Derived.ChangeOld
import Derived.Below
namespace Go.Proofs.Ytkdjjjecgfhgbaa.hashOneWord
open Go.ChangeShapes Go.WideShapes Go.ChangeAt Go.RowKit
open Go.ChangeMaps (open_string shut_string)
set_option linter.unusedVariables false

theorem own : ownKnob Try.prog.godebug = none := by kernel_rfl
theorem laidOut : laidOutB Try.prog = true := by kernel_rfl

/-- Replacing one integer: the sums agree just where the integers do. -/
theorem one_word {lab X : List Int} {k : Nat} {v : Int} (hk : k < X.length) (hX : ∀ n ∈ X, -9223372036854775808 ≤ n ∧ n ≤ 9223372036854775807) (h1 : -9223372036854775808 ≤ v) (h2 : v ≤ 9223372036854775807) :
    (U (sumS lab X) == U (sumS lab (X.set k v))) = (X[k]?.getD 0 == v) := by
  have hx : X[k]?.getD 0 = X[k] := by simp [hk]
  rw [hx, U_beq, Bool.eq_iff_iff, decide_eq_true_eq, beq_iff_eq]
  constructor
  · intro h
    have h3 := sumS_one (k := k) (by simp) (fun j hj => by rw [List.getElem?_set_ne (fun e => hj e.symm)]) h
    have h4 := congrArg (fun l => l[k]?) h3
    simp [hk] at h4
    have h5 := hX X[k] (List.getElem_mem hk)
    exact ofInt_inj64 h5.1 h5.2 h1 h2 h4
  · intro h
    rw [← h, List.set_getElem_self]

set_option maxRecDepth 100000 in
set_option maxHeartbeats 4000000 in
theorem walkB (s : ByteArray) (b : Option Addr) (cb : Nat) (ys : List Int) (at_ v : Int) (w : World) (hs : s.size ≤ 9223372036854775807) (hy : Sli .i64 w b cb ys) (hz : ∀ n ∈ ys, -9223372036854775808 ≤ n ∧ n ≤ 9223372036854775807)
    (ha1 : -9223372036854775808 ≤ at_) (ha2 : at_ ≤ 9223372036854775807) (hv1 : -9223372036854775808 ≤ v) (hv2 : v ≤ 9223372036854775807) :
    Calls Try.prog 5 #[.string s, .slice b ys.length cb, .int .i64 at_, .int .i64 v] w fun e w' => e = .returned (.bool true) ∧ Below w.heap.size w w' := by
  obtain ⟨i0, hi, hz0, hz1, hz2⟩ := info_parts info3
  obtain ⟨Y, hY⟩ : ∃ Y, ys.take 9 = Y := ⟨_, rfl⟩
  have hYl : Y.length ≤ 9 := by rw [← hY, List.length_take]; omega
  have hYb : ∀ n ∈ Y, -9223372036854775808 ≤ n ∧ n ≤ 9223372036854775807 := fun n hn => hz n (by rw [← hY] at hn; exact List.mem_of_mem_take hn)
  obtain ⟨m, hm⟩ : ∃ m, Y.length = m := ⟨_, rfl⟩
  obtain ⟨X, hX⟩ : ∃ X, Y ++ [7] = X := ⟨_, rfl⟩
  have hXl : X.length = m + 1 := by rw [← hX]; simp [hm]
  have hXb : ∀ n ∈ X, -9223372036854775808 ≤ n ∧ n ≤ 9223372036854775807 := fun n hn => by
    rw [← hX] at hn
    rcases List.mem_append.1 hn with h1 | h1
    · exact hYb n h1
    · simp at h1; omega
  have hXt : X.take 10 = X := List.take_of_length_le (by omega)
  have hXne : X ≠ [] := by intro h; rw [h] at hXl; simp at hXl
  obtain ⟨S, hS⟩ : ∃ S, shS s 20 = S := ⟨_, rfl⟩
  have hSl : S.size ≤ 20 := by rw [← hS]; exact shS_size s 20
  have c0 := fun W => short_any s 20 W hs (by omega)
  rw [hS] at c0
  have c1 := fun W h => ints_any b cb 9 ys W h (by omega)
  rw [hY] at c1
  have c2 : ∀ (g c : Nat) (W : World), Sli .i64 W (some ⟨g, 0, none⟩) c X → Calls Try.prog 12 #[.slice (some ⟨g, 0, none⟩) (m + 1) c, .int .i64 (10 : Nat)] W (NewOwn .i64 3 W X) := fun g c W h => by
    have h1 := ints_any (some ⟨g, 0, none⟩) c 10 X W h (by omega)
    rw [hXt, hXl] at h1
    exact h1.mono fun _ _ => newOwn_of_row hXne
  have c6 := fun W => around_any at_ (m + 1) W ha1 ha2 (by omega) (by omega)
  have C0 := Lib.hid c0; have C1 := Lib.hid c1; have C2 := Lib.hid c2; have C6 := Lib.hid c6
  have HY := Lib.hid hy; have HX := Lib.hid hX; have HXL := Lib.hid hXl; have HXB := Lib.hid hXb; have HM := Lib.hid hm
  have hm9 : m ≤ 9 := by omega
  clear c0 c1 c2 c6 hX hXl hXb hXt hXne hy hS hYb hz hY hYl hm
  go_enter Try.func5, Try.ntmps5
  go_wp2_with fail
  refine (C0.out _).mono ?_
  rintro e w' ⟨rfl, rfl⟩
  go_wp2_with fail
  refine (C1.out _ HY.out).mono ?_
  rintro e w1 ⟨v1, rfl, o1, b1⟩
  rw [HM.out] at o1
  have HO1 := Lib.hid o1
  have HB1 := Lib.hid b1
  have hs1 := b1.size
  clear o1 b1
  go_wp2_with (at_builtin; refine wpList_append_own _ rfl _ _ 22 rfl w.heap.size 3 i0 (.int .i64 0) 1 8 Try.underlying22 hi hz0 hz1 hz2 rfl (by decide) _ _ _ rfl (HO1.out.alloc _) ⟨w1.heap.size, 0, none⟩ 1 1 [.int .i64 7] rfl rfl (cell_one_new _ _ _) (fun x hx => by simp at hx; subst hx; rfl) (by unfold maxLen; omega) (by omega) (by rw [World.size_alloc]; omega) ?_; intro v2 w2 o2 hgrow _; obtain ⟨g1, k1, rfl⟩ := ownsRow_succ o2)
  have o2' : w2.ownsRow w.heap.size 3 1 (.slice (some ⟨g1, 0, none⟩) (m + 1) k1) (m + 1) (X.map (Value.int .i64)) := by rw [← HX.out, List.map_append]; exact o2
  have HO2 := Lib.hid o2'
  have HB2 := Lib.hid ((HB1.out.alloc hs1 (.cells #[.int .i64 7] 3)).grown hgrow (by rw [World.size_alloc]; omega) (fun j e => (HO1.out.lt j e).1))
  have hs2 := HB2.out.size
  have hg1 := (row_lt o2').2
  clear o2 o2' hgrow HO1 HB1 hs1
  go_wp2_with fail
  refine (C2.out _ _ _ (sli_row HO2.out)).mono ?_
  rintro e w3 ⟨g2, k2, rfl, o3, b3⟩
  rw [HXL.out] at o3 ⊢
  have hg2 := row_lt o3
  have HO3 := Lib.hid o3
  have HO2' := Lib.hid (own_below HO2.out b3)
  have HB3 := Lib.hid (HB2.out.trans (b3.mono hs2))
  clear o3 b3 HO2 HB2
  go_wp2_with fail
  refine (C6.out _).mono ?_
  rintro e w' ⟨k, hk, rfl, rfl⟩
  have hck := row_cell HO3.out k hk
  have hfk := HO3.out.frozenAt k
  go_wp2_with fail
  obtain ⟨W0, hW0⟩ : ∃ W0, w3.setCell ⟨g2, k, none⟩ (.int .i64 v) = W0 := ⟨_, rfl⟩
  have hX2 : Sli .i64 W0 (some ⟨g2, 0, none⟩) k2 (X.set k v) := by rw [← hW0]; exact sli_row (row_stored HO3.out k v)
  have o4 : W0.ownsRow w.heap.size 3 1 (.slice (some ⟨g1, 0, none⟩) (m + 1) k1) (m + 1) (X.map (Value.int .i64)) := by
    rw [← hW0]; exact own_same HO2'.out (fun j e => by cases e; exact Below.heap_setCell _ _ _ g1 (by show g1 ≠ g2; omega))
  have HB0 : Hid (Below w.heap.size w W0) := by rw [← hW0]; exact HB3.out.setCell (p := ⟨g2, k, none⟩) (by show w.heap.size ≤ g2; omega) _
  rw [hW0]
  clear hW0 hck hfk
  have hc0 := row_cell o4 k hk
  have hl0 := (row_lt o4).2
  have heq := one_word (lab := sb S) (by rw [HXL.out]; exact hk) HXB.out hv1 hv2
  obtain ⟨x, hx⟩ : ∃ x, X[k]?.getD 0 = x := ⟨_, rfl⟩
  rw [hx] at hc0 heq
  have c3 : ∀ W, Below W0.heap.size W0 W → Calls Try.prog 13 #[.string S, .slice (some ⟨g1, 0, none⟩) (m + 1) k1] W fun e w' => e = .returned (.int .u64 (U (sumS (sb S) X))) ∧ Below W0.heap.size W0 w' ∧ w'.cell? ⟨g1, k, none⟩ = some (.int .i64 x) := fun W hb => by
    have h1 := sum_sli S (some ⟨g1, 0, none⟩) k1 X W ((sli_row o4).below hb) (by omega) (by rw [HXL.out]; omega) _ rfl
    rw [HXL.out] at h1
    exact h1.mono fun e w' ⟨he, h2⟩ => by
      have h3 := hb.trans (h2.mono hb.size)
      exact ⟨he, h3, (h3.cell (p := ⟨g1, k, none⟩) hl0).trans hc0⟩
  have c4 : ∀ W, Below W0.heap.size W0 W → Calls Try.prog 13 #[.string S, .slice (some ⟨g2, 0, none⟩) (m + 1) k2] W fun e w' => e = .returned (.int .u64 (U (sumS (sb S) (X.set k v)))) ∧ Below W0.heap.size W0 w' ∧ w'.cell? ⟨g1, k, none⟩ = some (.int .i64 x) := fun W hb => by
    have h1 := sum_sli S (some ⟨g2, 0, none⟩) k2 (X.set k v) W (hX2.below hb) (by omega) (by rw [List.length_set, HXL.out]; omega) _ rfl
    rw [List.length_set, HXL.out] at h1
    exact h1.mono fun e w' ⟨he, h2⟩ => by
      have h3 := hb.trans (h2.mono hb.size)
      exact ⟨he, h3, (h3.cell (p := ⟨g1, k, none⟩) hl0).trans hc0⟩
  have c5 : ∀ W, Below W0.heap.size W0 W → Calls Try.prog 15 #[] W fun e w' => e = .returned (.bool true) ∧ Below W0.heap.size W0 w' ∧ w'.cell? ⟨g1, k, none⟩ = some (.int .i64 x) := fun W hb =>
    (lives_any W).mono fun e w' ⟨he, h2⟩ => by
      have h3 := hb.trans (h2.mono hb.size)
      exact ⟨he, h3, (h3.cell (p := ⟨g1, k, none⟩) hl0).trans hc0⟩
  generalize U (sumS (sb S) X) = p at heq c3
  generalize U (sumS (sb S) (X.set k v)) = q at heq c4
  obtain ⟨d, hd⟩ : ∃ d, (x == v) = d := ⟨_, rfl⟩
  rw [hd] at heq
  have hbs : Below W0.heap.size W0 W0.drew := (Below.refl _ _).drew
  have C3 := Lib.hid c3; have C4 := Lib.hid c4; have C5 := Lib.hid c5
  clear c3 c4 c5 o4 hX2 hx
  go_region_with (first
    | (go_at_call 13; (with_reducible refine (C3.out _ (by assumption)).mono ?_); rintro e wA ⟨rfl, bA, cA⟩)
    | (go_at_call 13; (with_reducible refine (C4.out _ (by assumption)).mono ?_); rintro e wA ⟨rfl, bA, cA⟩)
    | (go_at_call 15; (with_reducible refine (C5.out _ (by assumption)).mono ?_); rintro e wA ⟨rfl, bA, cA⟩))
  all_goals
    have HBE := Lib.hid (HB0.out.trans (bA.mono HB0.out.size))
    go_wp2
    go_ret
    exact ⟨rfl, HBE.out⟩

theorem walk (a0 : ByteArray) (a1 : Option Addr) (len1 cap1 : Nat) (z1 : List Int) (a2 : Int) (a3 : Int) (w : World) (w0 : a0.size ≤ maxLen) (w1 : IsRow .i64 w a1 len1 cap1 z1) (w2 : (Lit.int .i64 a2).wf = true) (w3 : (Lit.int .i64 a3).wf = true) :
    Calls Try.prog 5 #[.string a0, .slice a1 len1 cap1, .int .i64 a2, .int .i64 a3] w fun e w' => e = .returned (.bool true) ∧ Below w.heap.size w w' := by
  obtain ⟨ys, rfl, hy, hwf⟩ := sli_of_isRow w1
  have h2 := bounds_i64 w2
  have h3 := bounds_i64 w3
  exact walkB a0 a1 cap1 ys a2 a3 w (by unfold maxLen at w0; omega) hy (fun n hn => bounds_i64 (hwf n hn)) h2.1 h2.2 h3.1 h3.2

/-! ### THE ROW's STEP: WRITTEN OUT: LEAVE IT -/
set_option maxRecDepth 100000 in
theorem lifted (os : Os) (started : os.Started) (H : Type) (enc : TypeId × Value → H) :
    ReturnsInHanded {} Try.checked os 5 .any (Rows.hashOneWordSpec.pre6 enc Try.prog Try.f5 Rows.hashOneWordRow.domain false) (Rows.hashOneWordSpec.post enc Try.prog Try.f5 false true false false) := by
  refine returnsInHanded_of_change (C := Try.checked) own started (by kernel_rfl) Try.func5
    (ChangeSpec.witness6 (enc := enc) (C := Try.checked) false ⟨#[], #[.string ByteArray.empty, .slice none 0 0, .int .i64 0, .int .i64 0], []⟩ 8 (by kernel_rfl) (by kernel_rfl) (by kernel_rfl) (by kernel_rfl)) ?_
  intro W base args ds gs before hval0 hW hcnd _
  have hval : ∀ (j : Nat) t v, Try.f5.params[j]? = some t → args[j]? = some v → Value.okWide Try.prog W .any base t v := hval0
  have hW' := hW
  obtain ⟨p, q, hA0, hV, rfl, hfz, hnd⟩ := hW
  have hA : DataW.TrodAll enc Try.prog W 0 (fun _ => true) true Try.f5.params.toList args.toList ds p := hA0
  rw [Try.params5] at hA hval
  obtain ⟨v0, vs0, d0, ds0, p0, q0, hargs, rfl, rfl, h0, r0⟩ := trodAll_cons hA
  obtain ⟨v1, vs1, d1, ds1, p1, q1, rfl, rfl, rfl, h1, r1⟩ := trodAll_cons r0
  obtain ⟨v2, vs2, d2, ds2, p2, q2, rfl, rfl, rfl, h2, r2⟩ := trodAll_cons r1
  obtain ⟨v3, vs3, d3, ds3, p3, q3, rfl, rfl, rfl, h3, r3⟩ := trodAll_cons r2
  obtain ⟨rfl, rfl, rfl⟩ := trodAll_nil r3
  obtain rfl : args = #[v0, v1, v2, v3] := by cases args; simp_all
  obtain ⟨rfl, rfl⟩ := trodVars_none hV
  obtain ⟨a0, rfl, rfl, rfl, w0⟩ := open_string Try.underlying9 (hval 0 9 v0 rfl rfl) h0
  obtain ⟨a1, len1, cap1, rfl⟩ := okWide_slice Try.underlying22 (hval 1 22 v1 rfl rfl)
  have k1 := h1
  have lt1 : ∀ x ∈ p1, x.block < W.heap.size := by obtain ⟨m, hm⟩ := k1; exact DataW.trod_lt m _ _ _ hm
  obtain ⟨z1, w1⟩ : ∃ zs, IsRow .i64 W a1 len1 cap1 zs := by
    obtain ⟨fuel, hf⟩ := h1
    rcases open_ints Try.underlying22 Try.underlying3 (by kernel_rfl) hf with ⟨hcs, _⟩ | ⟨x, l, c, zs, hcs, _, hl, hm, hz, _, hcell, hwz⟩
    · simp [Value.cells] at hcs
      obtain ⟨rfl, rfl, rfl⟩ := hcs
      exact ⟨[], .inl ⟨rfl, rfl, rfl, rfl⟩⟩
    · simp [Value.cells] at hcs
      obtain ⟨rfl, rfl, rfl⟩ := hcs
      exact ⟨zs, .inr ⟨_, rfl, hl, hm, by simpa using hz, hcell, hwz⟩⟩
  obtain ⟨a2, rfl, rfl, rfl, w2⟩ := open_int Try.underlying3 (hval 2 3 v2 rfl rfl) h2
  obtain ⟨a3, rfl, rfl, rfl, w3⟩ := open_int Try.underlying3 (hval 3 3 v3 rfl rfl) h3
  clear hA0 hval0
  refine (walk a0 a1 len1 cap1 z1 a2 a3 W w0 w1 w2 w3).mono fun e W' ⟨he, bel⟩ => ?_
  subst he
  exact ⟨_, rfl, _, _, _, [], _, [], hW', trodAll_mk1 (shut_bool Try.underlying4 _), (trodAll_cons_mk (shut_string Try.underlying9 w0) (trodAll_cons_mk (Below.trod laidOut (by kernel_rfl) (of_decide_eq_true (by kernel_rfl)) k1 bel lt1) (trodAll_cons_mk (shut_int Try.underlying3 w2) (trodAll_cons_mk (shut_int Try.underlying3 w3) trodAll_mk0)))), rfl, bel.frame _, fun h => by cases h⟩

theorem over : Rows.hashOneWordRow.holds Try.pinned (OpenSpec.ofChange Rows.hashOneWordSpec) :=
  OpenClaim.holds_of_wide 5 Try.f5 rfl rfl rfl rfl rfl rfl rfl ⟨rfl, rfl, rfl, rfl, rfl⟩ rfl rfl rfl rfl rfl (by kernel_rfl) Try.func5 (by kernel_rfl)
    (of_decide_eq_true (by kernel_rfl)) (by unfold Func.isWrapper; first | (rw [if_pos (by decide +kernel)]; kernel_rfl) | (rw [if_neg (by decide +kernel)]; exact ⟨rfl, rfl⟩))
    (fun os started H enc _ => lifted os started H enc)

/-- ████ THE STATEMENT ████ -/
theorem proved : Rows.HashOneWordSaid := over
#print axioms proved
end Go.Proofs.Ytkdjjjecgfhgbaa.hashOneWord
