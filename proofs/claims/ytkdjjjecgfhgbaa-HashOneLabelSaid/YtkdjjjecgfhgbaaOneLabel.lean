/- For every list of integers (its first 6) and every label (its first 30 bytes), changing one byte of the label changes the sum (P1.3). It has no conditions. The frame below is the guide's shell. -/
/-
  THE SHELL OF A PROOF OF 'Rows.HashOneLabelSaid' ('schemalens/schemalenslaw01.HashOneLabel'), WRITTEN BY PROGRAM (proof-skeleton.mjs, third state) off the guide's own print for that function. Not trusted: Lean checks it.
  YOURS IS THE HOLE MARKED 'HOLE' (it bears 'sorry'). ALL ELSE IS THE GUIDE's OWN WAY (howto/template/XProofs.lean; Derived/Test/ChunkProofs.lean for 'Below') at this function's number and types: leave it.
-/
import Derived.Test.YtkdjjjecgfhgbaaRows
import Derived.Test.YtkdjjjecgfhgbaaRows2
import Derived.Deep.RegionWith
import Derived.WalkKit
import Derived.ProofKit
import Derived.OpenShut
import Derived.ShutString
import Derived.ChangeOld
import Derived.Below
namespace Go.Proofs.Ytkdjjjecgfhgbaa.hashOneLabel
open Go.ChangeShapes Go.WideShapes Go.ChangeAt Go.RowKit
open Go.ChangeMaps (open_string shut_string)
set_option linter.unusedVariables false

theorem own : ownKnob Try.prog.godebug = none := by kernel_rfl
theorem laidOut : laidOutB Try.prog = true := by kernel_rfl

/-- The string of these bytes. -/
def bs (Z : List Int) : ByteArray := ⟨(Z.map (fun c => UInt8.ofNat c.toNat)).toArray⟩
theorem sb_bs {Z : List Int} (h : Byt Z) : sb (bs Z) = Z := by
  unfold sb bs
  simp only [List.map_map]
  conv => rhs; rw [← List.map_id Z]
  apply List.map_congr_left
  intro c hc
  have := h c hc
  simp only [Function.comp, id]
  have h1 : (UInt8.ofNat c.toNat).toNat = c.toNat := by
    rw [UInt8.toNat_ofNat']; omega
  rw [h1]; omega
theorem conv_back (W : World) (g cap : Nat) (Z : List Int) (hz : Byt Z) (h : Sli .u8 W (some ⟨g, 0, none⟩) cap Z) :
    (convert 30 9 (.slice (some ⟨g, 0, none⟩) Z.length cap)).run Try.prog W = .ok (.string (bs Z)) W := by
  have h1 := run_convert_bytes_back (P := Try.prog) W 30 9 5 ⟨g, 0, none⟩ cap (Z.map (fun c => UInt8.ofNat c.toNat)) Try.underlying30 Try.underlying5 Try.underlying9 (fun j hj => by
    have hj' : j < Z.length := by simpa using hj
    rcases h.cells with h0 | ⟨b, off, ha, _, hc⟩
    · subst h0; simp at hj'
    · simp only [Option.some.injEq, Addr.mk.injEq, and_true] at ha
      obtain ⟨rfl, rfl⟩ := ha
      rw [show (⟨g, 0, none⟩ : Addr).add j = ⟨g, 0 + j, none⟩ by by_cases h0 : j = 0 <;> simp [Addr.add, h0], hc j hj']
      have hb := hz Z[j] (List.getElem_mem hj')
      have h2 : (UInt8.ofNat Z[j].toNat).toNat = Z[j].toNat := by rw [UInt8.toNat_ofNat']; omega
      simp only [List.getElem_map, h2]
      simp [hj']
      omega)
  rw [List.length_map] at h1
  exact h1

/-- Changing one byte of a label: the sums agree just where nothing is changed. -/
theorem one_label {X ws : List Int} {k : Nat} {y : Int} (hk : k < X.length) (hX : Byt X) (h1 : 0 ≤ y) (h2 : y ≤ 255) :
    (U (sumS X ws) == U (sumS (X.set k (bits BinOp.xor IntKind.u8 (X[k]?.getD 0) y)) ws)) = (y == 0) := by
  have hx : X[k]?.getD 0 = X[k] := by simp [hk]
  have hb := hX X[k] (List.getElem_mem hk)
  rw [hx, U_beq, Bool.eq_iff_iff, decide_eq_true_eq, beq_iff_eq, ← xor_u8_self X[k] y hb.1 hb.2 h1 h2]
  constructor
  · intro h
    have h3 := sumS_label (k := k / 8) hX (byt_set hX k (xor_u8 X[k] y)) (by simp) (fun j hj => by rw [List.getElem?_set_ne (fun e => hj (by rw [e]))]) h
    have h4 := congrArg (fun l => l[k]?) h3
    simp [hk] at h4
    exact h4.symm
  · intro h
    rw [h, List.set_getElem_self]

set_option maxRecDepth 100000 in
set_option maxHeartbeats 4000000 in
theorem walkB (s : ByteArray) (b : Option Addr) (cb : Nat) (ys : List Int) (at_ y : Int) (w : World) (hs : s.size ≤ 9223372036854775807) (hy : Sli .i64 w b cb ys)
    (ha1 : -9223372036854775808 ≤ at_) (ha2 : at_ ≤ 9223372036854775807) (hv1 : 0 ≤ y) (hv2 : y ≤ 255) :
    Calls Try.prog 7 #[.string s, .slice b ys.length cb, .int .i64 at_, .int .u8 y] w fun e w' => e = .returned (.bool true) ∧ Below w.heap.size w w' := by
  obtain ⟨I, hI⟩ : ∃ I, ys.take 6 = I := ⟨_, rfl⟩
  have hIl : I.length ≤ 6 := by rw [← hI, List.length_take]; omega
  obtain ⟨ni, hni⟩ : ∃ ni, I.length = ni := ⟨_, rfl⟩
  obtain ⟨S0, hS0⟩ : ∃ S0, shS s 29 = S0 := ⟨_, rfl⟩
  have hS0l : S0.size ≤ 29 := by rw [← hS0]; exact shS_size s 29
  obtain ⟨S, hS⟩ : ∃ S, S0 ++ (⟨#[120]⟩ : ByteArray) = S := ⟨_, rfl⟩
  have hSl : S.size = S0.size + 1 := by rw [← hS]; simp [ByteArray.size_append]; rfl
  obtain ⟨n, hn⟩ : ∃ n, S.size = n := ⟨_, rfl⟩
  obtain ⟨X, hX⟩ : ∃ X, sb S = X := ⟨_, rfl⟩
  have hXl : X.length = n := by rw [← hX, sb_len, hn]
  have hXb : Byt X := by rw [← hX]; exact sb_byt S
  have hn1 : 1 ≤ n := by omega
  have hn30 : n ≤ 30 := by omega
  have hXt : X.take 30 = X := List.take_of_length_le (by omega)
  have hXne : X ≠ [] := by intro h; rw [h] at hXl; simp at hXl; omega
  have c0 := fun W => short_any s 29 W hs (by omega)
  rw [hS0] at c0
  have c1 := fun W h => ints_sli I b cb 6 ys W h (by omega) hI
  have c2 : ∀ (g c : Nat) (W : World), Sli .u8 W (some ⟨g, 0, none⟩) c X → Calls Try.prog 16 #[.slice (some ⟨g, 0, none⟩) n c, .int .i64 (30 : Nat)] W (NewOwn .u8 5 W X) := fun g c W h => by
    have h1 := few_any (some ⟨g, 0, none⟩) c 30 X W h (by omega)
    rw [hXt, hXl] at h1
    exact h1.mono fun _ _ => newOwn_of_row hXne
  have c6 := fun W => around_any at_ n W ha1 ha2 (by omega) (by omega)
  have kc : ∀ W : World, (convert 9 30 (.string S)).run Try.prog W = .ok (.slice (some ⟨W.heap.size, 0, none⟩) n (grownCap W n 0 5))
      (W.drew.alloc (.cells (bytesRow S (grownCap W n 0 5)) 5 ((bytesRow S (grownCap W n 0 5)).size, (bytesRow S (grownCap W n 0 5)).size + 1))) := fun W => by
    have h1 := run_bytes_of_string (P := Try.prog) W 9 30 5 S Try.underlying9 Try.underlying30 Try.underlying5
    rwa [hn] at h1
  have C0 := Lib.hid c0; have C1 := Lib.hid c1; have C2 := Lib.hid c2; have C6 := Lib.hid c6
  have HY := Lib.hid hy; have HX := Lib.hid hX; have HXL := Lib.hid hXl; have HXB := Lib.hid hXb; have HNI := Lib.hid hni; have HN := Lib.hid hn
  clear c0 c1 c2 c6 hX hXl hXb hXt hXne hy hS0 hI hni hSl hn
  go_enter Try.func7, Try.ntmps7
  go_wp2_with fail
  refine (C1.out _ HY.out).mono ?_
  rintro e w1 ⟨a1, k1, rfl, s1, b1⟩
  rw [HNI.out]
  have HS1 := Lib.hid s1
  have HB1 := Lib.hid b1
  clear s1 b1
  go_wp2_with fail
  refine (C0.out _).mono ?_
  rintro e w' ⟨rfl, rfl⟩
  go_wp2_with fail
  have hG1 := grownCap_ge w1 n 0 5
  have hG2 := grownCap_le_maxLen w1 n 0 5 (by unfold maxLen; omega)
  clear kc
  generalize grownCap w1 n 0 5 = G at hG1 hG2 ⊢
  unfold maxLen at hG2
  obtain ⟨g1, hg1⟩ : ∃ g1, w1.heap.size = g1 := ⟨_, rfl⟩
  obtain ⟨W2, hW2⟩ : ∃ W2, (w1.alloc (.cells (bytesRow S G) 5 ((bytesRow S G).size, (bytesRow S G).size + 1))).drew = W2 := ⟨_, rfl⟩
  have hB12 : Below w1.heap.size w1 W2 := by rw [← hW2]; exact ((Below.refl _ _).alloc (Nat.le_refl _) _).drew
  have hD : W2.heap[g1]? = some (.cells (bytesRow S G) 5 ((bytesRow S G).size, (bytesRow S G).size + 1)) := by rw [← hW2, ← hg1]; exact World.alloc_heap_new w1 _
  have hsa := sli_string S G W2 g1 _ _ (by rw [HN.out]; exact hG1) hG2 hD
  rw [HX.out] at hsa
  have HSA := Lib.hid hsa
  have HSI := Lib.hid (HS1.out.below hB12)
  have HB2 := Lib.hid (HB1.out.trans (hB12.mono HB1.out.size))
  have hg1lt : g1 < W2.heap.size := (Array.getElem?_eq_some_iff.1 hD).1
  rw [hW2, hg1]
  clear hB12 hD hsa HS1 HB1 hW2 hg1
  refine (C2.out _ _ _ HSA.out).mono ?_
  rintro e w3 ⟨g2, k2, rfl, o3, b3⟩
  rw [HXL.out] at o3 ⊢
  have hg2 := row_lt o3
  have HO3 := Lib.hid o3
  have HB3 := Lib.hid (HB2.out.trans (b3.mono HB2.out.size))
  have HSA3 := Lib.hid (HSA.out.below b3)
  have HO3B := Lib.hid b3
  have HSI3 := Lib.hid (HSI.out.below b3)
  have hb23 := HB2.out.size
  clear o3 b3 HSA
  go_wp2_with fail
  refine (C6.out _).mono ?_
  rintro e w' ⟨k, hk, rfl, rfl⟩
  have heq := one_label (ws := I) (by rw [HXL.out]; exact hk) HXB.out hv1 hv2
  obtain ⟨x, hx⟩ : ∃ x, X[k]?.getD 0 = x := ⟨_, rfl⟩
  have hck := row_cell HO3.out k hk
  have hfk := HO3.out.frozenAt k
  have hzr := xor_u8 x y
  rw [hx] at hck heq
  obtain ⟨z, hzx⟩ : ∃ z, bits BinOp.xor IntKind.u8 x y = z := ⟨_, rfl⟩
  rw [hzx] at heq hzr
  have HZR := Lib.hid hzr
  have HEQ := Lib.hid heq
  clear hx hzr heq
  go_wp2_with fail
  obtain ⟨W0, hW0⟩ : ∃ W0, w3.setCell ⟨g2, k, none⟩ (.int .u8 z) = W0 := ⟨_, rfl⟩
  have hb30 : Below W2.heap.size w3 W0 := by rw [← hW0]; exact (Below.refl _ _).setCell (p := ⟨g2, k, none⟩) (by show W2.heap.size ≤ g2; omega) _
  have hX2 : Sli .u8 W0 (some ⟨g2, 0, none⟩) k2 (X.set k z) := by rw [← hW0]; exact sli_row (row_stored HO3.out k z)
  have hs30 := hb30.size
  rw [hW0]
  have HB0 : Hid (Below w.heap.size w W0) := HB3.out.trans (hb30.mono hb23)
  clear hW0 hck hfk hzx
  have hlen : (X.set k z).length = n := by rw [List.length_set, HXL.out]
  have hzb := byt_set HXB.out k HZR.out
  have hSA0 : Sli .u8 W0 (some ⟨g1, 0, none⟩) G X := ⟨HSA3.out.le, HSA3.out.mx, HSA3.out.nil, by
    rcases HSA3.out.cells with h | ⟨b', off, ha, hlt, hc⟩
    · exact .inl h
    · have hbg : b' = g1 := by simp only [Option.some.injEq, Addr.mk.injEq] at ha; exact ha.1.symm
      exact .inr ⟨b', off, ha, by omega, fun j hj => (hb30.cell (p := ⟨b', off + j, none⟩) (by show b' < W2.heap.size; omega)).trans (hc j hj)⟩⟩
  have hSI0 : Sli .i64 W0 a1 k1 I := ⟨HSI.out.le, HSI.out.mx, HSI.out.nil, by
    rcases HSI.out.cells with h | ⟨b', off, ha, hlt, hc⟩
    · exact .inl h
    · have h3 : Below W2.heap.size W2 W0 := HO3B.out.trans hb30
      exact .inr ⟨b', off, ha, by omega, fun j hj => (h3.cell (p := ⟨b', off + j, none⟩) hlt).trans (hc j hj)⟩⟩
  have c7 : ∀ W, Below W0.heap.size W0 W → (convert 30 9 (.slice (some ⟨g1, 0, none⟩) n G)).run Try.prog W = .ok (.string (bs X)) W := fun W hb => by
    have h1 := conv_back W g1 G X HXB.out (hSA0.below hb)
    rwa [HXL.out] at h1
  have c8 : ∀ W, Below W0.heap.size W0 W → (convert 30 9 (.slice (some ⟨g2, 0, none⟩) n k2)).run Try.prog W = .ok (.string (bs (X.set k z))) W := fun W hb => by
    have h1 := conv_back W g2 k2 (X.set k z) hzb (hX2.below hb)
    rwa [hlen] at h1
  have hba : (bs X).size ≤ 1000 := by rw [← sb_len, sb_bs HXB.out, HXL.out]; omega
  have hbb : (bs (X.set k z)).size ≤ 1000 := by rw [← sb_len, sb_bs hzb, hlen]; omega
  have c3 : ∀ W, Below W0.heap.size W0 W → Calls Try.prog 13 #[.string (bs X), .slice a1 ni k1] W fun e w' => e = .returned (.int .u64 (U (sumS X I))) ∧ Below W0.heap.size W0 w' := fun W hb => by
    have h1 := sum_sli (bs X) a1 k1 I W (hSI0.below hb) hba (by omega) _ (by rw [sb_bs HXB.out])
    rw [HNI.out] at h1
    exact h1.mono fun e w' ⟨he, h2⟩ => ⟨he, hb.trans (h2.mono hb.size)⟩
  have c4 : ∀ W, Below W0.heap.size W0 W → Calls Try.prog 13 #[.string (bs (X.set k z)), .slice a1 ni k1] W fun e w' => e = .returned (.int .u64 (U (sumS (X.set k z) I))) ∧ Below W0.heap.size W0 w' := fun W hb => by
    have h1 := sum_sli (bs (X.set k z)) a1 k1 I W (hSI0.below hb) hbb (by omega) _ (by rw [sb_bs hzb])
    rw [HNI.out] at h1
    exact h1.mono fun e w' ⟨he, h2⟩ => ⟨he, hb.trans (h2.mono hb.size)⟩
  have c5 : ∀ W, Below W0.heap.size W0 W → Calls Try.prog 15 #[] W fun e w' => e = .returned (.bool true) ∧ Below W0.heap.size W0 w' := fun W hb =>
    (lives_any W).mono fun e w' ⟨he, h2⟩ => ⟨he, hb.trans (h2.mono hb.size)⟩
  have heq := HEQ.out
  generalize bs X = sA at c3 c7
  generalize bs (X.set k z) = sB at c4 c8
  generalize U (sumS X I) = p at heq c3
  generalize U (sumS (X.set k z) I) = q at heq c4
  obtain ⟨d, hd⟩ : ∃ d, (y == 0) = d := ⟨_, rfl⟩
  rw [hd] at heq
  have hbs : Below W0.heap.size W0 W0.drew := (Below.refl _ _).drew
  have C3 := Lib.hid c3; have C4 := Lib.hid c4; have C5 := Lib.hid c5
  clear c3 c4 c5 hX2 hSA0 hSI0 hzb hlen hba hbb hb30 HSA3 HSI3 HSI HO3 HB3 HB2 HEQ HZR HO3B
  have k7 := c7 _ hbs
  have k8 := c8 _ hbs
  have C7 := Lib.hid c7; have C8 := Lib.hid c8
  clear c7 c8
  go_region_with (first
    | (go_at_call 13; (with_reducible refine (C3.out _ (by assumption)).mono ?_); rintro e wA ⟨rfl, bA⟩; have kA7 := C7.out _ bA; have kA8 := C8.out _ bA)
    | (go_at_call 13; (with_reducible refine (C4.out _ (by assumption)).mono ?_); rintro e wA ⟨rfl, bA⟩; have kA7 := C7.out _ bA; have kA8 := C8.out _ bA)
    | (go_at_call 15; (with_reducible refine (C5.out _ (by assumption)).mono ?_); rintro e wA ⟨rfl, bA⟩))
  all_goals
    have HBE := Lib.hid (HB0.out.trans (bA.mono HB0.out.size))
    go_wp2
    go_ret
    exact ⟨rfl, HBE.out⟩

theorem walk (a0 : ByteArray) (a1 : Option Addr) (len1 cap1 : Nat) (z1 : List Int) (a2 : Int) (a3 : Int) (w : World) (w0 : a0.size ≤ maxLen) (w1 : IsRow .i64 w a1 len1 cap1 z1) (w2 : (Lit.int .i64 a2).wf = true) (w3 : (Lit.int .u8 a3).wf = true) :
    Calls Try.prog 7 #[.string a0, .slice a1 len1 cap1, .int .i64 a2, .int .u8 a3] w fun e w' => e = .returned (.bool true) ∧ Below w.heap.size w w' := by
  obtain ⟨ys, rfl, hy, _⟩ := sli_of_isRow w1
  have h2 := bounds_i64 w2
  have h3 := bounds_u8 w3
  exact walkB a0 a1 cap1 ys a2 a3 w (by unfold maxLen at w0; omega) hy h2.1 h2.2 h3.1 h3.2

/-! ### THE ROW's STEP: WRITTEN OUT: LEAVE IT -/
set_option maxRecDepth 100000 in
theorem lifted (os : Os) (started : os.Started) (H : Type) (enc : TypeId × Value → H) :
    ReturnsInHanded {} Try.checked os 7 .any (Rows.hashOneLabelSpec.pre6 enc Try.prog Try.f7 Rows.hashOneLabelRow.domain false) (Rows.hashOneLabelSpec.post enc Try.prog Try.f7 false true false false) := by
  refine returnsInHanded_of_change (C := Try.checked) own started (by kernel_rfl) Try.func7
    (ChangeSpec.witness6 (enc := enc) (C := Try.checked) false ⟨#[], #[.string ByteArray.empty, .slice none 0 0, .int .i64 0, .int .u8 0], []⟩ 8 (by kernel_rfl) (by kernel_rfl) (by kernel_rfl) (by kernel_rfl)) ?_
  intro W base args ds gs before hval0 hW hcnd _
  have hval : ∀ (j : Nat) t v, Try.f7.params[j]? = some t → args[j]? = some v → Value.okWide Try.prog W .any base t v := hval0
  have hW' := hW
  obtain ⟨p, q, hA0, hV, rfl, hfz, hnd⟩ := hW
  have hA : DataW.TrodAll enc Try.prog W 0 (fun _ => true) true Try.f7.params.toList args.toList ds p := hA0
  rw [Try.params7] at hA hval
  obtain ⟨v0, vs0, d0, ds0, p0, q0, hargs, rfl, rfl, h0, r0⟩ := trodAll_cons hA
  obtain ⟨v1, vs1, d1, ds1, p1, q1, rfl, rfl, rfl, h1, r1⟩ := trodAll_cons r0
  obtain ⟨v2, vs2, d2, ds2, p2, q2, rfl, rfl, rfl, h2, r2⟩ := trodAll_cons r1
  obtain ⟨v3, vs3, d3, ds3, p3, q3, rfl, rfl, rfl, h3, r3⟩ := trodAll_cons r2
  obtain ⟨rfl, rfl, rfl⟩ := trodAll_nil r3
  obtain rfl : args = #[v0, v1, v2, v3] := by cases args; simp_all
  obtain ⟨rfl, rfl⟩ := trodVars_none hV
  obtain ⟨a0, rfl, rfl, rfl, w0⟩ := open_string Try.underlying9 (hval 0 9 v0 rfl rfl) h0
  obtain ⟨a1, len1, cap1, rfl⟩ := okWide_slice Try.underlying22 (hval 1 22 v1 rfl rfl)
  have k1 := h1
  have lt1 : ∀ x ∈ p1, x.block < W.heap.size := by obtain ⟨m, hm⟩ := k1; exact DataW.trod_lt m _ _ _ hm
  obtain ⟨z1, w1⟩ : ∃ zs, IsRow .i64 W a1 len1 cap1 zs := by
    obtain ⟨fuel, hf⟩ := h1
    rcases open_ints Try.underlying22 Try.underlying3 (by kernel_rfl) hf with ⟨hcs, _⟩ | ⟨x, l, c, zs, hcs, _, hl, hm, hz, _, hcell, hwz⟩
    · simp [Value.cells] at hcs
      obtain ⟨rfl, rfl, rfl⟩ := hcs
      exact ⟨[], .inl ⟨rfl, rfl, rfl, rfl⟩⟩
    · simp [Value.cells] at hcs
      obtain ⟨rfl, rfl, rfl⟩ := hcs
      exact ⟨zs, .inr ⟨_, rfl, hl, hm, by simpa using hz, hcell, hwz⟩⟩
  obtain ⟨a2, rfl, rfl, rfl, w2⟩ := open_int Try.underlying3 (hval 2 3 v2 rfl rfl) h2
  obtain ⟨a3, rfl, rfl, rfl, w3⟩ := open_int Try.underlying5 (hval 3 5 v3 rfl rfl) h3
  clear hA0 hval0
  refine (walk a0 a1 len1 cap1 z1 a2 a3 W w0 w1 w2 w3).mono fun e W' ⟨he, bel⟩ => ?_
  subst he
  exact ⟨_, rfl, _, _, _, [], _, [], hW', trodAll_mk1 (shut_bool Try.underlying4 _), (trodAll_cons_mk (shut_string Try.underlying9 w0) (trodAll_cons_mk (Below.trod laidOut (by kernel_rfl) (of_decide_eq_true (by kernel_rfl)) k1 bel lt1) (trodAll_cons_mk (shut_int Try.underlying3 w2) (trodAll_cons_mk (shut_int Try.underlying5 w3) trodAll_mk0)))), rfl, bel.frame _, fun h => by cases h⟩

theorem over : Rows.hashOneLabelRow.holds Try.pinned (OpenSpec.ofChange Rows.hashOneLabelSpec) :=
  OpenClaim.holds_of_wide 7 Try.f7 rfl rfl rfl rfl rfl rfl rfl ⟨rfl, rfl, rfl, rfl, rfl⟩ rfl rfl rfl rfl rfl (by kernel_rfl) Try.func7 (by kernel_rfl)
    (of_decide_eq_true (by kernel_rfl)) (by unfold Func.isWrapper; first | (rw [if_pos (by decide +kernel)]; kernel_rfl) | (rw [if_neg (by decide +kernel)]; exact ⟨rfl, rfl⟩))
    (fun os started H enc _ => lifted os started H enc)

/-- ████ THE STATEMENT ████ -/
theorem proved : Rows.HashOneLabelSaid := over
#print axioms proved
end Go.Proofs.Ytkdjjjecgfhgbaa.hashOneLabel
