/- For all byte slices and lists, later changes of arguments and results affect neither a Writer nor a Reader (P2.1, P2.2, P2.5). It has no conditions. The frame below is the guide's shell. -/
import Derived.Test.YtfnpnomfdfdonaaRows
import Derived.Test.YtfnpnomfdfdonaaWLives
import Derived.Test.YtfnpnomfdfdonaaWRound
import Derived.Test.YtfnpnomfdfdonaaRowI
import Derived.Test.YtfnpnomfdfdonaaFew
import Derived.Test.YtfnpnomfdfdonaaInts
import Derived.Test.YtfnpnomfdfdonaaSameInts
import Derived.Test.YtfnpnomfdfdonaaWf
import Derived.WalkKit
import Derived.ProofKit
import Derived.OpenShut
import Derived.ShutString
import Derived.ChangeOld
import Derived.Below
namespace Go.Proofs.Ytfnpnomfdfdonaa.wireOwn
open Go.ChangeShapes Go.WideShapes Go.ChangeAt Go.RowKit
open Go.ChangeMaps (open_string shut_string)
set_option linter.unusedVariables false

theorem own : ownKnob Try.prog.godebug = none := by kernel_rfl
theorem laidOut : laidOutB Try.prog = true := by kernel_rfl

/-- A Writer whose blocks lie in a span. -/
structure WrS (lo hi : Nat) (w : World) (p : Nat) (zs : List Int) : Prop where
  ex : ∃ v, Boxed w p 32 v ∧ w.ownsRow lo 5 1 v zs.length (zs.map (Value.int .u8)) ∧ lo ≤ p ∧ p < hi ∧ ∀ g, v.ownBlock = some g → g < hi
  sz : hi ≤ w.heap.size
theorem wrS_of {lo : Nat} {w : World} {p : Nat} {zs : List Int} (h : Wr w lo p zs) : WrS lo w.heap.size w p zs := by
  obtain ⟨v, hx, ho, hp⟩ := h
  exact ⟨⟨v, hx, ho, hp, hx.lt, fun g hg => (ho.lt g hg).2⟩, Nat.le_refl _⟩
theorem WrS.wr {lo hi : Nat} {w : World} {p : Nat} {zs : List Int} (h : WrS lo hi w p zs) : Wr w lo p zs := by
  obtain ⟨⟨v, hx, ho, hp, _⟩, _⟩ := h
  exact ⟨v, hx, ho, hp⟩
theorem WrS.keep {lo hi : Nat} {w w' : World} {p : Nat} {zs : List Int} (h : WrS lo hi w p zs) (hs : w.heap.size ≤ w'.heap.size) (hb : ∀ b, lo ≤ b → b < hi → w'.heap[b]? = w.heap[b]?) : WrS lo hi w' p zs := by
  obtain ⟨⟨v, hx, ho, hp, hp2, hg⟩, hz⟩ := h
  exact ⟨⟨v, (hb p hp hp2).trans hx, own_same ho (fun g e => hb g (ho.lt g e).1 (hg g e)), hp, hp2, hg⟩, Nat.le_trans hz hs⟩
theorem WrS.only {lo hi : Nat} {w w' : World} {T : Nat → Prop} {p : Nat} {zs : List Int} (h : WrS lo hi w p zs) (ho : Only T w w') (hT : ∀ b, lo ≤ b → b < hi → ¬ T b) : WrS lo hi w' p zs :=
  h.keep ho.size (fun b h1 h2 => ho.block b (by have := h.sz; omega) (hT b h1 h2))
theorem WrS.below {lo hi : Nat} {w w' : World} {p : Nat} {zs : List Int} (h : WrS lo hi w p zs) {B : Nat} (hb : Below B w w') (hB : hi ≤ B) : WrS lo hi w' p zs :=
  h.keep hb.size (fun b _ h2 => hb.block b (by omega))
theorem Sli.only {k : IntKind} {w w' : World} {T : Nat → Prop} {B : Nat} {a : Option Addr} {cap : Nat} {zs : List Int} (h : SliAt k B w a cap zs) (ho : Only T w w') (hB : B ≤ w.heap.size) (hT : ∀ b, b < B → ¬ T b) : SliAt k B w' a cap zs :=
  h.keep fun b hb => ho.block b (by omega) (hT b hb)

/-- What WireOwn holds while it writes over its own slices. -/
structure Items (B0 B1 P B2 B3 B4 : Nat) (A1 : Option Addr) (nO k1 : Nat) (A2 : Option Addr) (nN k2 : Nat) (A3 : Option Addr) (nZ k3 : Nat) (A6 : Option Addr) (k6 : Nat) (Z : List Int) (b : Option Addr) (cb : Nat) (ls : List Int) (w W : World) : Prop where
  r1 : ∃ xs, Row .u8 5 B0 B1 W A1 nO k1 xs
  r2 : ∃ xs, Row .i64 3 B1 P W A2 nN k2 xs
  wr : WrS P B2 W P Z
  r3 : ∃ xs, Row .u8 5 B2 B3 W A3 nZ k3 xs
  r6 : Row .u8 5 B3 B4 W A6 nZ k6 Z
  sl : SliAt .i64 B0 W b cb ls
  bl : Below B0 w W
  o0 : B0 ≤ w.heap.size
  o1 : B0 ≤ B1
  o2 : B1 ≤ P
  o3 : P ≤ B2
  o4 : B2 ≤ B3
section
variable {B0 B1 P B2 B3 B4 : Nat} {A1 : Option Addr} {nO k1 : Nat} {A2 : Option Addr} {nN k2 : Nat} {A3 : Option Addr} {nZ k3 : Nat} {A6 : Option Addr} {k6 : Nat} {Z : List Int} {b : Option Addr} {cb : Nat} {ls : List Int} {w W W' : World}
theorem Items.step1 (h : Items B0 B1 P B2 B3 B4 A1 nO k1 A2 nN k2 A3 nZ k3 A6 k6 Z b cb ls w W) (ho : Only (fun j => B0 ≤ j ∧ j < B1) W W') (hr : ∃ xs, Row .u8 5 B0 B1 W' A1 nO k1 xs) :
    Items B0 B1 P B2 B3 B4 A1 nO k1 A2 nN k2 A3 nZ k3 A6 k6 Z b cb ls w W' := by
  have g0 := h.o0; have g1 := h.o1; have g2 := h.o2; have g3 := h.o3; have g4 := h.o4; have g5 := h.bl.size
  obtain ⟨x2, h2⟩ := h.r2
  obtain ⟨x3, h3⟩ := h.r3
  exact ⟨hr, ⟨x2, h2.only ho (fun j a b => by omega)⟩, h.wr.only ho (fun j a b => by omega), ⟨x3, h3.only ho (fun j a b => by omega)⟩, h.r6.only ho (fun j a b => by omega),
    Sli.only h.sl ho (by omega) (fun j hj => by omega), h.bl.trans (ho.below (by omega) (fun j hj => hj.1)), g0, g1, g2, g3, g4⟩
theorem Items.step2 (h : Items B0 B1 P B2 B3 B4 A1 nO k1 A2 nN k2 A3 nZ k3 A6 k6 Z b cb ls w W) (ho : Only (fun j => B1 ≤ j ∧ j < P) W W') (hr : ∃ xs, Row .i64 3 B1 P W' A2 nN k2 xs) :
    Items B0 B1 P B2 B3 B4 A1 nO k1 A2 nN k2 A3 nZ k3 A6 k6 Z b cb ls w W' := by
  have g0 := h.o0; have g1 := h.o1; have g2 := h.o2; have g3 := h.o3; have g4 := h.o4; have g5 := h.bl.size
  obtain ⟨x1, h1⟩ := h.r1
  obtain ⟨x3, h3⟩ := h.r3
  exact ⟨⟨x1, h1.only ho (fun j a b => by omega)⟩, hr, h.wr.only ho (fun j a b => by omega), ⟨x3, h3.only ho (fun j a b => by omega)⟩, h.r6.only ho (fun j a b => by omega),
    Sli.only h.sl ho (by omega) (fun j hj => by omega), h.bl.trans (ho.below (by omega) (fun j hj => by omega)), g0, g1, g2, g3, g4⟩
theorem Items.step3 (h : Items B0 B1 P B2 B3 B4 A1 nO k1 A2 nN k2 A3 nZ k3 A6 k6 Z b cb ls w W) (ho : Only (fun j => B2 ≤ j ∧ j < B3) W W') (hr : ∃ xs, Row .u8 5 B2 B3 W' A3 nZ k3 xs) :
    Items B0 B1 P B2 B3 B4 A1 nO k1 A2 nN k2 A3 nZ k3 A6 k6 Z b cb ls w W' := by
  have g0 := h.o0; have g1 := h.o1; have g2 := h.o2; have g3 := h.o3; have g4 := h.o4; have g5 := h.bl.size
  obtain ⟨x1, h1⟩ := h.r1
  obtain ⟨x2, h2⟩ := h.r2
  exact ⟨⟨x1, h1.only ho (fun j a b => by omega)⟩, ⟨x2, h2.only ho (fun j a b => by omega)⟩, h.wr.only ho (fun j a b => by omega), hr, h.r6.only ho (fun j a b => by omega),
    Sli.only h.sl ho (by omega) (fun j hj => by omega), h.bl.trans (ho.below (by omega) (fun j hj => by omega)), g0, g1, g2, g3, g4⟩
end

set_option maxRecDepth 100000 in
set_option maxHeartbeats 8000000 in
theorem walkB (a b : Option Addr) (ca cb : Nat) (ys ls : List Int) (w : World) (ha : Sli .u8 w a ca ys) (hb : Sli .i64 w b cb ls) (hy : Byt ys) (hl : I64 ls) :
    Calls Try.prog 9 #[.slice a ys.length ca, .slice b ls.length cb] w fun e w' => e = .returned (.bool true) ∧ Below w.heap.size w w' := by
  obtain ⟨i0, hi, hz0, hz1, hz2⟩ := info_parts info5
  obtain ⟨O, hO⟩ : ∃ O, ys.take 30 = O := ⟨_, rfl⟩
  obtain ⟨N, hN⟩ : ∃ N, ls.take 10 = N := ⟨_, rfl⟩
  have hO30 : O.length ≤ 30 := by rw [← hO, List.length_take]; omega
  have hN10 : N.length ≤ 10 := by rw [← hN, List.length_take]; omega
  have hOb : Byt O := by rw [← hO]; exact hy.take _
  have hNb : I64 N := by rw [← hN]; exact hl.take _
  obtain ⟨nO, hnO⟩ : ∃ n, O.length = n := ⟨_, rfl⟩
  obtain ⟨nN, hnN⟩ : ∃ n, N.length = n := ⟨_, rfl⟩
  obtain ⟨R, hR⟩ : ∃ R, vU N.length ++ vL N = R := ⟨_, rfl⟩
  obtain ⟨Z1, hZ1⟩ : ∃ Z, [] ++ (vU O.length ++ O) = Z := ⟨_, rfl⟩
  obtain ⟨Z, hZ⟩ : ∃ Z, Z1 ++ (vU N.length ++ vL N) = Z := ⟨_, rfl⟩
  have hRl : R.length ≤ 200 := by rw [← hR]; have h1 := vL_len hNb; have h2 := vU_len10 (n := N.length) (by omega); simp; omega
  have hZ1l : Z1.length ≤ 50 := by rw [← hZ1]; have h2 := vU_len10 (n := O.length) (by omega); simp; omega
  have hZl : Z.length ≤ 300 := by rw [← hZ, hR, List.length_append]; omega
  obtain ⟨nZ, hnZ⟩ : ∃ n, Z.length = n := ⟨_, rfl⟩
  have hZpos : 0 < nZ := by
    have h1 := vU_pos O.length
    have h2 : Z1.length = (vU O.length).length + O.length := by rw [← hZ1]; simp
    have h3 : Z.length = Z1.length + R.length := by rw [← hZ, hR, List.length_append]
    omega
  have hvb : ∀ l, Byt (vL l) := fun l c hc => by
    simp only [vL, List.mem_flatMap] at hc
    obtain ⟨n, _, hc⟩ := hc
    exact vU_byt _ c hc
  have hZb : Byt Z := by
    rw [← hZ, ← hZ1]
    intro c hc
    simp only [List.nil_append, List.mem_append] at hc
    rcases hc with (h | h) | (h | h)
    · exact vU_byt _ c h
    · exact hOb c h
    · exact vU_byt _ c h
    · exact hvb N c h
  have r1 : rdRaw (.ok Z) = (O, .ok R) := by
    rw [← hZ, ← hZ1, hR, List.nil_append, List.append_assoc]
    exact rdRaw_write (by omega)
  have r2 : rdInts (.ok R) = (N, .ok []) := by
    have := rdInts_write (l := N) (r := []) (by omega) hNb
    rw [List.append_nil] at this
    rw [← hR]; exact this
  have c1 := fun W h => few_any a ca 30 ys W h (by omega)
  have c2 := fun W h => ints_any b cb 10 ls W h (by omega)
  rw [hO] at c1
  rw [hN] at c2
  have c3 := fun P A k W h h2 => wraw_any P P A k O [] W h h2 (by omega) (by decide)
  rw [hZ1] at c3
  have c4 := fun P A k W h h2 => wints_any P P A k N Z1 W h h2 hNb (by omega) (by omega)
  rw [hZ] at c4
  have c5 := fun P W h => wdone_any P P Z W h (by omega)
  have c6 := fun A k A' k' W h h' => sameBytes_any A A' k k' Z Z W h h' (by omega) (by omega)
  have c7 := fun A k W h => rread_any A k Z W h hZb (by omega)
  have c8 := fun b p W h => rraw_any b p (.ok Z) W h
  have c9 := fun b p W h => rints_any b p (.ok R) W h
  have c10 := fun A k A' k' W h h' => sameInts_any A A' k k' N N W h h' (by omega) (by omega)
  have c11 := fun b p W h => rend_any b p (.ok []) W h
  rw [r1] at c8
  rw [r2] at c9
  simp only [decide_true] at c6 c10
  rw [hnO] at c3
  rw [hnN] at c4 c10
  rw [hnZ] at c6 c7
  have C1 := Lib.hid c1; have C2 := Lib.hid c2; have C3 := Lib.hid c3; have C4 := Lib.hid c4; have C5 := Lib.hid c5; have C6 := Lib.hid c6; have C7 := Lib.hid c7; have C8 := Lib.hid c8; have C9 := Lib.hid c9; have C10 := Lib.hid c10; have C11 := Lib.hid c11
  have HnO := Lib.hid hnO; have HnN := Lib.hid hnN; have HnZ := Lib.hid hnZ
  have HA := Lib.hid ha; have HB := Lib.hid hb
  rw [hnO] at hO30; rw [hnN] at hN10; rw [hnZ] at hZl
  clear c1 c2 c3 c4 c5 c6 c7 c8 c9 c10 c11 hO hN hOb hNb hnO hnN hR hZ1 hZ hRl hZ1l hnZ hvb hZb r1 r2 ha hb hy hl
  go_enter Try.func9, Try.ntmps9
  go_wp2_with fail
  refine (C1.out _ HA.out).mono ?_
  rintro e w1 h1
  obtain ⟨A1, k1, rfl, row1, b1⟩ := row_of_new h1
  obtain ⟨B0, hB0⟩ : ∃ B, w.heap.size = B := ⟨_, rfl⟩
  obtain ⟨B1, hB1⟩ : ∃ B, w1.heap.size = B := ⟨_, rfl⟩
  have hle1 := b1.size
  rw [HnO.out] at row1 ⊢
  have H1 : Hid (Row .u8 5 B0 B1 w1 A1 nO k1 O ∧ Sli .i64 w1 b cb ls ∧ Below B0 w w1) := by rw [← hB0, ← hB1]; exact ⟨row1, Sli.below HB.out b1, b1⟩
  rw [hB0, hB1] at hle1
  have HB0 := Lib.hid hB0; have HB1 := Lib.hid hB1
  clear h1 row1 b1 hB0 hB1 C1 HA
  go_wp2_with fail
  refine (C2.out _ H1.out.2.1).mono ?_
  rintro e w2 h2
  obtain ⟨A2, k2, rfl, row2, b2⟩ := row_of_new h2
  obtain ⟨P, hP⟩ : ∃ B, w2.heap.size = B := ⟨_, rfl⟩
  have hle2 := b2.size
  rw [HnN.out] at row2 ⊢
  rw [HB1.out] at row2 b2 hle2
  have H2 : Hid (Row .u8 5 B0 B1 w2 A1 nO k1 O ∧ Row .i64 3 B1 P w2 A2 nN k2 N ∧ SliAt .i64 B0 w2 b cb ls ∧ Below B0 w w2) := by
    have hbB := H1.out.2.2.trans (b2.mono hle1)
    refine ⟨H1.out.1.below b2 (Nat.le_refl _), by rw [← hP]; exact row2, ?_, hbB⟩
    have h3 := SliAt.below HB.out (by rw [HB0.out]; exact hbB)
    rw [HB0.out] at h3
    exact h3
  rw [hP] at hle2
  have HP := Lib.hid hP
  clear h2 row2 b2 hP H1 HB
  go_wp2_with fail
  rw [HP.out]
  have W1 : Hid (Wr (w2.alloc (.cells #[.slice none 0 0] 32)) P P [] ∧ Below P w2 (w2.alloc (.cells #[.slice none 0 0] 32))) := by rw [← HP.out]; exact ⟨wr_new w2, below_new w2 _⟩
  refine (C3.out _ _ _ _ W1.out.1 ((H2.out.1.below W1.out.2 hle2).sli.mono hle2)).mono ?_
  rintro e w3 ⟨⟨_, rfl⟩, hw, hb⟩
  have H3 := Lib.hid (And.intro hw (W1.out.2.trans hb))
  clear hw hb W1 C3
  go_wp2_with fail
  refine (C4.out _ _ _ _ H3.out.1 (H2.out.2.1.below H3.out.2 (Nat.le_refl _)).sli).mono ?_
  rintro e w4 ⟨⟨_, rfl⟩, hw, hb⟩
  have H4 : Hid (WrS P w4.heap.size w4 P Z ∧ Below P w2 w4) := ⟨wrS_of hw, H3.out.2.trans hb⟩
  clear hw hb C4 H3
  obtain ⟨B2, hB2⟩ : ∃ B, w4.heap.size = B := ⟨_, rfl⟩
  have hle3 := H4.out.2.size
  rw [hB2] at H4 hle3
  rw [HP.out] at hle3
  go_wp2_with fail
  refine (C5.out _ _ H4.out.1.wr).mono ?_
  rintro e w5 h5
  obtain ⟨A3, k3, rfl, row3, b3⟩ := row_of_new h5
  obtain ⟨B3, hB3⟩ : ∃ B, w5.heap.size = B := ⟨_, rfl⟩
  rw [HnZ.out] at row3 ⊢
  have hle4 := b3.size
  rw [hB2] at row3 b3 hle4
  rw [hB3] at row3 hle4
  obtain ⟨g3, hA3⟩ : ∃ g, A3 = some ⟨g, 0, none⟩ := by obtain ⟨g, h, _⟩ := row3.at_ hZpos; exact ⟨g, h⟩
  subst hA3
  have hnew3 := cells_take (row3.sli.cells.keep (w' := w5.alloc (.cells #[] 5)) (fun b hb => Below.heap_alloc _ _ _ (by omega))) nZ
  rw [List.take_of_length_le (by rw [HnZ.out]; omega)] at hnew3
  have HNEW3 := Lib.hid hnew3
  have H5 : Hid (Row .u8 5 B2 B3 w5 (some ⟨g3, 0, none⟩) nZ k3 Z ∧ WrS P B2 w5 P Z ∧ Below P w2 w5) := ⟨row3, H4.out.1.below b3 (Nat.le_refl _), H4.out.2.trans (b3.mono hle3)⟩
  have HB2 := Lib.hid hB2; have HB3 := Lib.hid hB3
  have hB3v : w5.heap.size ≤ w5.heap.size := Nat.le_refl _
  clear h5 row3 b3 hnew3 hB2 hB3 H4 hB3v
  go_wp2_with (at_builtin; refine wpList_append_own _ rfl _ _ 24 rfl w5.heap.size 5 i0 (.int .u8 0) 1 1 Try.underlying24 hi hz0 hz1 hz2 rfl (by decide) (.slice (some ⟨w5.heap.size, 0, none⟩) 0 0) 0 [] rfl (World.ownsRow_made w5 #[] 0 (Nat.le_refl _) (Nat.zero_le _) rfl) ⟨g3, 0, none⟩ nZ k3 (Z.map (Value.int .u8)) rfl (by rw [List.length_map, HnZ.out]; omega) HNEW3.out (one_ints _ _) (by unfold maxLen; omega) (by omega) (by simp) ?_; intro v6 w6 hown6 hgrow6 _; obtain ⟨A6, k6, rfl⟩ := own_slice hown6)
  simp only [Nat.zero_add, List.nil_append] at hown6
  try rw [Nat.zero_add]
  obtain ⟨B4, hB4⟩ : ∃ B, w6.heap.size = B := ⟨_, rfl⟩
  have IT : Hid (Items B0 B1 P B2 B3 B4 A1 nO k1 A2 nN k2 (some ⟨g3, 0, none⟩) nZ k3 A6 k6 Z b cb ls w w6) := by
    have hb56 : Below w5.heap.size w5 w6 := (below_new w5 _).grown hgrow6 (by simp) (by intro k hk; simp [Value.ownBlock] at hk; omega)
    have row6 := row_of_own hown6
    rw [hB4, HB3.out] at row6
    rw [HB3.out] at hb56
    have hb26 := H5.out.2.2.trans (hb56.mono (by omega))
    refine ⟨⟨_, H2.out.1.below hb26 (by omega)⟩, ⟨_, H2.out.2.1.below hb26 (Nat.le_refl _)⟩, H5.out.2.1.below hb56 hle4, ⟨_, H5.out.1.below hb56 (Nat.le_refl _)⟩, row6, H2.out.2.2.1.below (hb26.mono (by omega)), H2.out.2.2.2.trans (hb26.mono (by omega)), by rw [HB0.out]; exact Nat.le_refl _, hle1, hle2, hle3, hle4⟩
  clear hown6 hgrow6 H5 H2 HNEW3 HB3 HB2 HB1 hB4
  go_wp2_with fail
  go_loopw [10] (fun i wr => ∃ k : Nat, k ≤ nO ∧ i = .int .i64 k ∧ Hid (Only (fun b => B0 ≤ b ∧ b < B1) w6 wr ∧ ∃ xs, Row .u8 5 B0 B1 wr A1 nO k1 xs)) (fun i _ => nO - (intOf i).toNat)
  case atStart => exact ⟨0, Nat.zero_le _, rfl, Lib.hid ⟨Only.refl _ _, IT.out.r1⟩⟩
  case round =>
    obtain ⟨k, hk, rfl, HR⟩ := hrel
    by_cases hlt : k < nO
    · obtain ⟨xs, hrow⟩ := HR.out.2
      obtain ⟨g, hA, hg1, hg2, hcell, hfr, hset⟩ := hrow.at_ hlt
      have hs := hset 7
      have HS : Hid (Only (fun b => B0 ≤ b ∧ b < B1) w6 (wr.setCell ⟨g, k, none⟩ (.int .u8 7)) ∧ ∃ xs, Row .u8 5 B0 B1 (wr.setCell ⟨g, k, none⟩ (.int .u8 7)) A1 nO k1 xs) := ⟨HR.out.1.trans hs.2, _, hs.1⟩
      clear hset hs hrow
      generalize xs[k]?.getD 0 = x at hcell
      cases hA
      go_wp2
      go_roundw
      case rel => exact ⟨k + 1, by omega, by go_num, HS⟩
      case measure => simp [intOf]; omega
    · obtain rfl : nO = k := by omega
      obtain ⟨w7, rfl⟩ : ∃ w7 : World, w7 = wr := ⟨_, rfl⟩
      have HO7 : Hid (Only (fun b => B0 ≤ b ∧ b < B1) w6 w7 ∧ ∃ xs, Row .u8 5 B0 B1 w7 A1 nO k1 xs) := HR.out
      clear HR hk hlt
      have IT7 := Lib.hid (IT.out.step1 HO7.out.1 HO7.out.2)
      clear IT HO7
      go_wp2_with fail
      go_loopw [11] (fun i wr => ∃ k : Nat, k ≤ nN ∧ i = .int .i64 k ∧ Hid (Only (fun b => B1 ≤ b ∧ b < P) w7 wr ∧ ∃ xs, Row .i64 3 B1 P wr A2 nN k2 xs)) (fun i _ => nN - (intOf i).toNat)
      case atStart => exact ⟨0, Nat.zero_le _, rfl, Lib.hid ⟨Only.refl _ _, IT7.out.r2⟩⟩
      case round =>
        obtain ⟨k, hk, rfl, HR⟩ := hrel
        by_cases hlt : k < nN
        · obtain ⟨xs, hrow⟩ := HR.out.2
          obtain ⟨g, hA, hg1, hg2, hcell, hfr, hset⟩ := hrow.at_ hlt
          have hs := hset 7
          have HS : Hid (Only (fun b => B1 ≤ b ∧ b < P) w7 (wr.setCell ⟨g, k, none⟩ (.int .i64 7)) ∧ ∃ xs, Row .i64 3 B1 P (wr.setCell ⟨g, k, none⟩ (.int .i64 7)) A2 nN k2 xs) := ⟨HR.out.1.trans hs.2, _, hs.1⟩
          clear hset hs hrow
          generalize xs[k]?.getD 0 = x at hcell
          cases hA
          go_wp2
          go_roundw
          case rel => exact ⟨k + 1, by omega, by go_num, HS⟩
          case measure => simp [intOf]; omega
        · obtain rfl : nN = k := by omega
          obtain ⟨w8, rfl⟩ : ∃ w8 : World, w8 = wr := ⟨_, rfl⟩
          have HO8 : Hid (Only (fun b => B1 ≤ b ∧ b < P) w7 w8 ∧ ∃ xs, Row .i64 3 B1 P w8 A2 nN k2 xs) := HR.out
          clear HR hk hlt
          have IT8 := Lib.hid (IT7.out.step2 HO8.out.1 HO8.out.2)
          clear IT7 HO8
          go_wp2_with fail
          go_loopw [12] (fun i wr => ∃ k : Nat, k ≤ nZ ∧ i = .int .i64 k ∧ Hid (Only (fun b => B2 ≤ b ∧ b < B3) w8 wr ∧ ∃ xs, Row .u8 5 B2 B3 wr (some ⟨g3, 0, none⟩) nZ k3 xs)) (fun i _ => nZ - (intOf i).toNat)
          case atStart => exact ⟨0, Nat.zero_le _, rfl, Lib.hid ⟨Only.refl _ _, IT8.out.r3⟩⟩
          case round =>
            obtain ⟨k, hk, rfl, HR⟩ := hrel
            by_cases hlt : k < nZ
            · obtain ⟨xs, hrow⟩ := HR.out.2
              obtain ⟨g, hA, hg1, hg2, hcell, hfr, hset⟩ := hrow.at_ hlt
              have hs := hset 9
              have HS : Hid (Only (fun b => B2 ≤ b ∧ b < B3) w8 (wr.setCell ⟨g, k, none⟩ (.int .u8 9)) ∧ ∃ xs, Row .u8 5 B2 B3 (wr.setCell ⟨g, k, none⟩ (.int .u8 9)) (some ⟨g3, 0, none⟩) nZ k3 xs) := ⟨HR.out.1.trans hs.2, _, hs.1⟩
              clear hset hs hrow
              generalize xs[k]?.getD 0 = x at hcell
              cases hA
              go_wp2
              go_roundw
              case rel => exact ⟨k + 1, by omega, by go_num, HS⟩
              case measure => simp [intOf]; omega
            · obtain rfl : nZ = k := by omega
              obtain ⟨w9, rfl⟩ : ∃ w9 : World, w9 = wr := ⟨_, rfl⟩
              have HO9 : Hid (Only (fun b => B2 ≤ b ∧ b < B3) w8 w9 ∧ ∃ xs, Row .u8 5 B2 B3 w9 (some ⟨g3, 0, none⟩) nZ k3 xs) := HR.out
              clear HR hk hlt
              have IT9 := Lib.hid (IT8.out.step3 HO9.out.1 HO9.out.2)
              clear IT8 HO9
              go_wp2_with fail
              refine (C5.out _ _ IT9.out.wr.wr).mono ?_
              rintro e w10 h10
              obtain ⟨A10, k10, rfl, row10, b10⟩ := row_of_new h10
              rw [HnZ.out] at row10 ⊢
              have hB4 := IT9.out.r6.sz
              have H10 : Hid (Row .u8 5 B3 B4 w10 A6 nZ k6 Z ∧ SliAt .i64 B0 w10 b cb ls ∧ Below B0 w w10 ∧ Sli .u8 w10 A10 k10 Z ∧ B0 ≤ B4 ∧ B0 ≤ w.heap.size) := by
                have g0 := IT9.out.o0; have g5 := IT9.out.bl.size
                have q1 := IT9.out.r6.own
                refine ⟨IT9.out.r6.below b10 hB4, IT9.out.sl.below (b10.mono (by omega)), IT9.out.bl.trans (b10.mono (by omega)), row10.sli, ?_, g0⟩
                have := IT9.out.o1; have := IT9.out.o2; have := IT9.out.o3; have := IT9.out.o4
                obtain ⟨g, _, h1, h2, _⟩ := IT9.out.r6.at_ hZpos
                omega
              clear h10 row10 b10 hB4 IT9
              go_wp2_with fail
              refine (C6.out _ _ _ _ _ H10.out.2.2.2.1 (H10.out.1.sli.mono H10.out.1.sz)).mono ?_
              rintro e w11 ⟨rfl, b11⟩
              obtain ⟨g6, hA6⟩ : ∃ g, A6 = some ⟨g, 0, none⟩ := by obtain ⟨g, h, _⟩ := H10.out.1.at_ hZpos; exact ⟨g, h⟩
              subst hA6
              have H11 : Hid (Row .u8 5 B3 B4 w11 (some ⟨g6, 0, none⟩) nZ k6 Z ∧ SliAt .i64 B0 w11 b cb ls ∧ Below B0 w w11) := by
                have g5 := H10.out.2.2.1.size; have g6 := H10.out.2.2.2.2
                exact ⟨H10.out.1.below b11 H10.out.1.sz, H10.out.2.1.below (b11.mono (by omega)), H10.out.2.2.1.trans (b11.mono (by omega))⟩
              have hB0w : B0 ≤ w.heap.size := H10.out.2.2.2.2.2
              have hnew6 := cells_take (H11.out.1.sli.cells.keep (w' := w11.alloc (.cells #[] 5)) (fun b hb => Below.heap_alloc _ _ _ (by have := H11.out.1.sz; omega))) nZ
              rw [List.take_of_length_le (by rw [HnZ.out]; omega)] at hnew6
              have HNEW6 := Lib.hid hnew6
              clear b11 H10 hnew6
              go_wp2_with (at_builtin; refine wpList_append_own _ rfl _ _ 24 rfl w11.heap.size 5 i0 (.int .u8 0) 1 1 Try.underlying24 hi hz0 hz1 hz2 rfl (by decide) (.slice (some ⟨w11.heap.size, 0, none⟩) 0 0) 0 [] rfl (World.ownsRow_made w11 #[] 0 (Nat.le_refl _) (Nat.zero_le _) rfl) ⟨g6, 0, none⟩ nZ k6 (Z.map (Value.int .u8)) rfl (by rw [List.length_map, HnZ.out]; omega) HNEW6.out (one_ints _ _) (by unfold maxLen; omega) (by omega) (by simp) ?_; intro v12 w12 hown12 hgrow12 _; obtain ⟨A12, k12, rfl⟩ := own_slice hown12)
              simp only [Nat.zero_add, List.nil_append] at hown12
              obtain ⟨B5, hB5⟩ : ∃ B, w11.heap.size = B := ⟨_, rfl⟩
              obtain ⟨B6, hB6⟩ : ∃ B, w12.heap.size = B := ⟨_, rfl⟩
              have hb12 : Below w11.heap.size w11 w12 := (below_new w11 _).grown hgrow12 (by simp) (by intro k hk; simp [Value.ownBlock] at hk; omega)
              have row12 := row_of_own hown12
              have hs12 := hb12.size
              have hs11 := H11.out.2.2.size
              rw [hB5] at hs12 hs11
              rw [hB6] at hs12
              have hB05 : B0 ≤ B5 := by omega
              have H12 : Hid (Row .u8 5 B5 B6 w12 A12 nZ k12 Z ∧ SliAt .i64 B0 w12 b cb ls ∧ Below B0 w w12) := by
                rw [hB5, hB6] at row12
                rw [hB5] at hb12
                exact ⟨row12, H11.out.2.1.below (hb12.mono hB05), H11.out.2.2.trans (hb12.mono hB05)⟩
              have HB6 := Lib.hid hB6
              clear hown12 hgrow12 hb12 row12 hB5 hB6 hs11 H11 HNEW6
              refine (C7.out _ _ _ (H12.out.1.sli.mono (by rw [HB6.out]; exact Nat.le_refl _))).mono ?_
              rintro e w13 ⟨p, rfl, hr, hb⟩
              rw [HB6.out] at hr hb
              have hB06 : B0 ≤ B6 := by omega
              have hp6 : B6 ≤ p := hr.lt.1
              have H13 : Hid (Row .u8 5 B5 B6 w13 A12 nZ k12 Z ∧ SliAt .i64 B0 w13 b cb ls ∧ Below B0 w w13 ∧ Rd w13 B6 p (.ok Z)) := ⟨H12.out.1.below hb (Nat.le_refl _), H12.out.2.1.below (hb.mono hB06), H12.out.2.2.trans (hb.mono hB06), hr⟩
              clear hr hb H12
              go_wp2_with fail
              go_loopw [15] (fun i wr => ∃ k : Nat, k ≤ nZ ∧ i = .int .i64 k ∧ Hid (Only (fun b => B5 ≤ b ∧ b < B6) w13 wr ∧ ∃ xs, Row .u8 5 B5 B6 wr A12 nZ k12 xs)) (fun i _ => nZ - (intOf i).toNat)
              case atStart => exact ⟨0, Nat.zero_le _, rfl, Lib.hid ⟨Only.refl _ _, ⟨_, H13.out.1⟩⟩⟩
              case round =>
                obtain ⟨k, hk, rfl, HR⟩ := hrel
                by_cases hlt : k < nZ
                · obtain ⟨xs, hrow⟩ := HR.out.2
                  obtain ⟨g, hA, hg1, hg2, hcell, hfr, hset⟩ := hrow.at_ hlt
                  have hs := hset 255
                  have HS : Hid (Only (fun b => B5 ≤ b ∧ b < B6) w13 (wr.setCell ⟨g, k, none⟩ (.int .u8 255)) ∧ ∃ xs, Row .u8 5 B5 B6 (wr.setCell ⟨g, k, none⟩ (.int .u8 255)) A12 nZ k12 xs) := ⟨HR.out.1.trans hs.2, _, hs.1⟩
                  clear hset hs hrow
                  generalize xs[k]?.getD 0 = x at hcell
                  cases hA
                  go_wp2
                  go_roundw
                  case rel => exact ⟨k + 1, by omega, by go_num, HS⟩
                  case measure => simp [intOf]; omega
                · obtain rfl : nZ = k := by omega
                  obtain ⟨w14, rfl⟩ : ∃ w14 : World, w14 = wr := ⟨_, rfl⟩
                  have HO14 : Hid (Only (fun b => B5 ≤ b ∧ b < B6) w13 w14 ∧ ∃ xs, Row .u8 5 B5 B6 w14 A12 nZ k12 xs) := HR.out
                  clear HR hk hlt
                  have H14 : Hid (SliAt .i64 B0 w14 b cb ls ∧ Below B0 w w14 ∧ Rd w14 B6 p (.ok Z)) := by
                    have g5 := H13.out.2.2.1.size
                    exact ⟨Sli.only H13.out.2.1 HO14.out.1 (by omega) (fun j hj => by omega), H13.out.2.2.1.trans (HO14.out.1.below (by omega) (fun j hj => by omega)), H13.out.2.2.2.only HO14.out.1 (fun j h1 h2 => by omega)⟩
                  clear H13 HO14
                  go_wp2_with fail
                  refine (C8.out _ _ _ H14.out.2.2).mono ?_
                  rintro e w15 ⟨v, rfl, hown, hr, ho⟩
                  obtain ⟨A15, k15, rfl⟩ := own_slice hown
                  rw [HnO.out] at hown ⊢
                  obtain ⟨B7, hB7⟩ : ∃ B, w14.heap.size = B := ⟨_, rfl⟩
                  obtain ⟨B8, hB8⟩ : ∃ B, w15.heap.size = B := ⟨_, rfl⟩
                  have row15 := row_of_own hown
                  have hp7 : p < B7 := by have := H14.out.2.2.lt.2; omega
                  have hs15 := ho.size
                  rw [hB7, hB8] at hs15
                  have H15 : Hid (Row .u8 5 B7 B8 w15 A15 nO k15 O ∧ SliAt .i64 B0 w15 b cb ls ∧ Below B0 w w15 ∧ Rd w15 B6 p (.ok R)) := by
                    rw [hB7, hB8] at row15
                    have g5 := H14.out.2.1.size
                    exact ⟨row15, Sli.only H14.out.1 ho (by omega) (fun j hj => by omega), H14.out.2.1.trans (ho.below (by omega) (fun j hj => by omega)), hr⟩
                  clear hown hr ho hB7 hB8 row15 H14
                  go_wp2_with fail
                  go_loopw [17] (fun i wr => ∃ k : Nat, k ≤ nO ∧ i = .int .i64 k ∧ Hid (Only (fun b => B7 ≤ b ∧ b < B8) w15 wr ∧ ∃ xs, Row .u8 5 B7 B8 wr A15 nO k15 xs)) (fun i _ => nO - (intOf i).toNat)
                  case atStart => exact ⟨0, Nat.zero_le _, rfl, Lib.hid ⟨Only.refl _ _, ⟨_, H15.out.1⟩⟩⟩
                  case round =>
                    obtain ⟨k, hk, rfl, HR⟩ := hrel
                    by_cases hlt : k < nO
                    · obtain ⟨xs, hrow⟩ := HR.out.2
                      obtain ⟨g, hA, hg1, hg2, hcell, hfr, hset⟩ := hrow.at_ hlt
                      have hs := hset 1
                      have HS : Hid (Only (fun b => B7 ≤ b ∧ b < B8) w15 (wr.setCell ⟨g, k, none⟩ (.int .u8 1)) ∧ ∃ xs, Row .u8 5 B7 B8 (wr.setCell ⟨g, k, none⟩ (.int .u8 1)) A15 nO k15 xs) := ⟨HR.out.1.trans hs.2, _, hs.1⟩
                      clear hset hs hrow
                      generalize xs[k]?.getD 0 = x at hcell
                      cases hA
                      go_wp2
                      go_roundw
                      case rel => exact ⟨k + 1, by omega, by go_num, HS⟩
                      case measure => simp [intOf]; omega
                    · obtain rfl : nO = k := by omega
                      obtain ⟨w16, rfl⟩ : ∃ w16 : World, w16 = wr := ⟨_, rfl⟩
                      have HO16 : Hid (Only (fun b => B7 ≤ b ∧ b < B8) w15 w16 ∧ ∃ xs, Row .u8 5 B7 B8 w16 A15 nO k15 xs) := HR.out
                      clear HR hk hlt
                      have H16 : Hid (SliAt .i64 B0 w16 b cb ls ∧ Below B0 w w16 ∧ Rd w16 B6 p (.ok R)) := by
                        have g5 := H15.out.2.2.1.size
                        exact ⟨Sli.only H15.out.2.1 HO16.out.1 (by omega) (fun j hj => by omega), H15.out.2.2.1.trans (HO16.out.1.below (by omega) (fun j hj => by omega)), H15.out.2.2.2.only HO16.out.1 (fun j h1 h2 => by omega)⟩
                      clear H15 HO16
                      go_wp2_with fail
                      refine (C9.out _ _ _ H16.out.2.2).mono ?_
                      rintro e w17 ⟨v, rfl, hown, hr, ho⟩
                      obtain ⟨A17, k17, rfl⟩ := own_slice hown
                      rw [HnN.out] at hown ⊢
                      have row17 := (row_of_own hown).sli
                      have H17 : Hid (Sli .i64 w17 A17 k17 N ∧ SliAt .i64 B0 w17 b cb ls ∧ Below B0 w w17 ∧ Rd w17 B6 p (.ok [])) := by
                        have g5 := H16.out.2.1.size
                        exact ⟨row17, Sli.only H16.out.1 ho (by omega) (fun j hj => by omega), H16.out.2.1.trans (ho.below (by omega) (fun j hj => by omega)), hr⟩
                      clear hown hr ho row17 H16
                      go_wp2_with fail
                      refine (C2.out _ (H17.out.2.1.mono (by have := H17.out.2.2.1.size; omega))).mono ?_
                      rintro e w18 h18
                      obtain ⟨A18, k18, rfl, row18, b18⟩ := row_of_new h18
                      rw [HnN.out] at row18 ⊢
                      have H18 : Hid (Sli .i64 w18 A17 k17 N ∧ Sli .i64 w18 A18 k18 N ∧ Below B0 w w18 ∧ Rd w18 B6 p (.ok [])) := by
                        have g5 := H17.out.2.2.1.size
                        exact ⟨Sli.below H17.out.1 b18, row18.sli, H17.out.2.2.1.trans (b18.mono (by omega)), H17.out.2.2.2.below b18⟩
                      clear h18 row18 b18 H17
                      go_wp2_with fail
                      refine (C10.out _ _ _ _ _ H18.out.1 H18.out.2.1).mono ?_
                      rintro e w19 ⟨rfl, b19⟩
                      have H19 : Hid (Below B0 w w19 ∧ Rd w19 B6 p (.ok [])) := by
                        have g5 := H18.out.2.2.1.size
                        exact ⟨H18.out.2.2.1.trans (b19.mono (by omega)), H18.out.2.2.2.below b19⟩
                      clear b19 H18
                      go_wp2_with fail
                      refine (C11.out _ _ _ H19.out.2).mono ?_
                      rintro e w20 ⟨rfl, rfl⟩
                      go_wp2_with fail
                      refine (wlives_any _).mono ?_
                      rintro e w21 ⟨rfl, b21⟩
                      have H21 : Hid (Below B0 w w21) := by
                        have g5 := H19.out.1.size
                        exact H19.out.1.trans (b21.mono (by omega))
                      clear b21 H19
                      go_wp2
                      go_ret
                      exact ⟨rfl, by rw [HB0.out]; exact H21.out⟩

theorem walk (a0 : Option Addr) (len0 cap0 : Nat) (z0 : List Int) (a1 : Option Addr) (len1 cap1 : Nat) (z1 : List Int) (w : World) (w0 : IsRow .u8 w a0 len0 cap0 z0) (w1 : IsRow .i64 w a1 len1 cap1 z1) :
    Calls Try.prog 9 #[.slice a0 len0 cap0, .slice a1 len1 cap1] w fun e w' => e = .returned (.bool true) ∧ Below w.heap.size w w' := by
  obtain ⟨ys, rfl, hy, hwy⟩ := sli_of_isRow w0
  obtain ⟨ls, rfl, hl, hwl⟩ := sli_of_isRow w1
  exact walkB a0 a1 cap0 cap1 ys ls w hy hl (byt_of_wf hwy) (fun n hn => wf_i64 (hwl n hn))

/-! ### THE ROW's STEP: WRITTEN OUT: LEAVE IT -/
set_option maxRecDepth 100000 in
theorem lifted (os : Os) (started : os.Started) (H : Type) (enc : TypeId × Value → H) :
    ReturnsInHanded {} Try.checked os 9 .any (Rows.wireOwnSpec.pre6 enc Try.prog Try.f9 Rows.wireOwnRow.domain false) (Rows.wireOwnSpec.post enc Try.prog Try.f9 false true false false) := by
  refine returnsInHanded_of_change (C := Try.checked) own started (by kernel_rfl) Try.func9
    (ChangeSpec.witness6 (enc := enc) (C := Try.checked) false ⟨#[], #[.slice none 0 0, .slice none 0 0], []⟩ 8 (by kernel_rfl) (by kernel_rfl) (by kernel_rfl) (by kernel_rfl)) ?_
  intro W base args ds gs before hval0 hW hcnd _
  have hval : ∀ (j : Nat) t v, Try.f9.params[j]? = some t → args[j]? = some v → Value.okWide Try.prog W .any base t v := hval0
  have hW' := hW
  obtain ⟨p, q, hA0, hV, rfl, hfz, hnd⟩ := hW
  have hA : DataW.TrodAll enc Try.prog W 0 (fun _ => true) true Try.f9.params.toList args.toList ds p := hA0
  rw [Try.params9] at hA hval
  obtain ⟨v0, vs0, d0, ds0, p0, q0, hargs, rfl, rfl, h0, r0⟩ := trodAll_cons hA
  obtain ⟨v1, vs1, d1, ds1, p1, q1, rfl, rfl, rfl, h1, r1⟩ := trodAll_cons r0
  obtain ⟨rfl, rfl, rfl⟩ := trodAll_nil r1
  obtain rfl : args = #[v0, v1] := by cases args; simp_all
  obtain ⟨rfl, rfl⟩ := trodVars_none hV
  obtain ⟨a0, len0, cap0, rfl⟩ := okWide_slice Try.underlying24 (hval 0 24 v0 rfl rfl)
  have k0 := h0
  have lt0 : ∀ x ∈ p0, x.block < W.heap.size := by obtain ⟨m, hm⟩ := k0; exact DataW.trod_lt m _ _ _ hm
  obtain ⟨z0, w0⟩ : ∃ zs, IsRow .u8 W a0 len0 cap0 zs := by
    obtain ⟨fuel, hf⟩ := h0
    rcases open_ints Try.underlying24 Try.underlying5 (by kernel_rfl) hf with ⟨hcs, _⟩ | ⟨x, l, c, zs, hcs, _, hl, hm, hz, _, hcell, hwz⟩
    · simp [Value.cells] at hcs
      obtain ⟨rfl, rfl, rfl⟩ := hcs
      exact ⟨[], .inl ⟨rfl, rfl, rfl, rfl⟩⟩
    · simp [Value.cells] at hcs
      obtain ⟨rfl, rfl, rfl⟩ := hcs
      exact ⟨zs, .inr ⟨_, rfl, hl, hm, by simpa using hz, hcell, hwz⟩⟩
  obtain ⟨a1, len1, cap1, rfl⟩ := okWide_slice Try.underlying22 (hval 1 22 v1 rfl rfl)
  have k1 := h1
  have lt1 : ∀ x ∈ p1, x.block < W.heap.size := by obtain ⟨m, hm⟩ := k1; exact DataW.trod_lt m _ _ _ hm
  obtain ⟨z1, w1⟩ : ∃ zs, IsRow .i64 W a1 len1 cap1 zs := by
    obtain ⟨fuel, hf⟩ := h1
    rcases open_ints Try.underlying22 Try.underlying3 (by kernel_rfl) hf with ⟨hcs, _⟩ | ⟨x, l, c, zs, hcs, _, hl, hm, hz, _, hcell, hwz⟩
    · simp [Value.cells] at hcs
      obtain ⟨rfl, rfl, rfl⟩ := hcs
      exact ⟨[], .inl ⟨rfl, rfl, rfl, rfl⟩⟩
    · simp [Value.cells] at hcs
      obtain ⟨rfl, rfl, rfl⟩ := hcs
      exact ⟨zs, .inr ⟨_, rfl, hl, hm, by simpa using hz, hcell, hwz⟩⟩
  clear hA0 hval0
  refine (walk a0 len0 cap0 z0 a1 len1 cap1 z1 W w0 w1).mono fun e W' ⟨he, bel⟩ => ?_
  subst he
  exact ⟨_, rfl, _, _, _, [], _, [], hW', trodAll_mk1 (shut_bool Try.underlying4 _), (trodAll_cons_mk (Below.trod laidOut (by kernel_rfl) (of_decide_eq_true (by kernel_rfl)) k0 bel lt0) (trodAll_cons_mk (Below.trod laidOut (by kernel_rfl) (of_decide_eq_true (by kernel_rfl)) k1 bel lt1) trodAll_mk0)), rfl, bel.frame _, fun h => by cases h⟩

theorem over : Rows.wireOwnRow.holds Try.pinned (OpenSpec.ofChange Rows.wireOwnSpec) :=
  OpenClaim.holds_of_wide 9 Try.f9 rfl rfl rfl rfl rfl rfl rfl ⟨rfl, rfl, rfl, rfl, rfl⟩ rfl rfl rfl rfl rfl (by kernel_rfl) Try.func9 (by kernel_rfl)
    (of_decide_eq_true (by kernel_rfl)) (by unfold Func.isWrapper; first | (rw [if_pos (by decide +kernel)]; kernel_rfl) | (rw [if_neg (by decide +kernel)]; exact ⟨rfl, rfl⟩))
    (fun os started H enc _ => lifted os started H enc)

/-- ████ THE STATEMENT ████ -/
theorem proved : Rows.WireOwnSaid := over
#print axioms proved
end Go.Proofs.Ytfnpnomfdfdonaa.wireOwn
