/- The examples that every statement of the layer depends on. It has no conditions. -/
import Derived.Test.YtfnpnomfdfdonaaWRead2
import Derived.Test.YtfnpnomfdfdonaaSameBytes
namespace Go.Proofs.Ytfnpnomfdfdonaa
open Go.RowKit Go.Shelf
set_option linter.unusedVariables false

theorem wr_new (w : World) : Wr (w.alloc (.cells #[.slice none 0 0] 32)) w.heap.size w.heap.size [] :=
  ⟨.slice none 0 0, Boxed.new _ _ _, World.ownsRow_nil _ _ _ _, Nat.le_refl _⟩
theorem below_new (w : World) (o : Obj) : Below w.heap.size w (w.alloc o) := (Below.refl _ _).alloc (Nat.le_refl _) _
theorem sli_lit2 (w : World) (x y : Int) : Sli .u8 (w.alloc (.cells #[.int .u8 x, .int .u8 y] 5)) (some ⟨w.heap.size, 0, none⟩) 2 [x, y] :=
  ⟨by simp, by omega, (fun h => by cases h), .inr ⟨w.heap.size, 0, rfl, by simp, fun j hj => by
    match j, hj with
    | 0, _ => simp
    | 1, _ => simp⟩⟩
theorem sli_lit6 (w : World) (x0 x1 x2 x3 x4 x5 : Int) : Sli .u8 (w.alloc (.cells #[.int .u8 x0, .int .u8 x1, .int .u8 x2, .int .u8 x3, .int .u8 x4, .int .u8 x5] 5)) (some ⟨w.heap.size, 0, none⟩) 6 [x0, x1, x2, x3, x4, x5] :=
  ⟨by simp, by omega, (fun h => by cases h), .inr ⟨w.heap.size, 0, rfl, by simp, fun j hj => by
    match j, hj with
    | 0, _ => simp
    | 1, _ => simp
    | 2, _ => simp
    | 3, _ => simp
    | 4, _ => simp
    | 5, _ => simp⟩⟩

abbrev abB : ByteArray := ⟨#[97, 98]⟩
abbrev exZ : List Int := [172, 2, 1, 2, 97, 98]
theorem ex_u : ([] : List Int) ++ vU 300 = [172, 2] := by rw [vU_hi (by decide), vU_lo (by decide)]; rfl
theorem ex_i : [172, 2] ++ vU (zz (-1)) = ([172, 2, 1] : List Int) := by rw [show zz (-1) = 1 from rfl, vU_lo (by decide)]; rfl
theorem ex_t : [172, 2, 1] ++ (vU abB.size ++ sb abB) = exZ := by rw [show abB.size = 2 from rfl, vU_lo (by decide)]; rfl
theorem ex_ru : rdU (.ok exZ) = (300, .ok [1, 2, 97, 98]) := by simp [rdU, goU]
theorem ex_ri : rdI (.ok [1, 2, 97, 98]) = (-1, .ok [2, 97, 98]) := by simp [rdI, rdU, goU, unz]
theorem ex_rt : rdRaw (.ok [2, 97, 98]) = ([97, 98], .ok []) := by simp [rdRaw_eq, rdN, rdU, goU]
theorem ex_bad : rdI (.ok [128, 0]) = (0, .bad 2) := by simp [rdI, rdU, goU, unz]
theorem ex_byt : Byt exZ := by intro c hc; simp at hc; omega
theorem bad_byt : Byt [128, 0] := by intro c hc; simp at hc; omega

/-- What lives holds between its calls. -/
structure LvH (P B p5 b6 p6 : Nat) (a : Option Addr) (k : Nat) (s5 s6 : Rs) (w W : World) : Prop where
  sl : SliAt .u8 B W a k exZ
  r5 : Rd W B p5 s5
  r6 : Rd W b6 p6 s6
  bl : Below P w W
  o1 : P ≤ B
  o3 : p5 < b6
theorem LvH.step5 {P B p5 b6 p6 : Nat} {a : Option Addr} {k : Nat} {s5 s6 t : Rs} {w W W' : World} (h : LvH P B p5 b6 p6 a k s5 s6 w W) (hr : Rd W' B p5 t) (ho : Only (fun j => j = p5) W W') : LvH P B p5 b6 p6 a k t s6 w W' := by
  have h1 := h.r5.lt; have h2 := h.r6.lt; have h3 := h.o1; have h4 := h.o3
  exact ⟨h.sl.keep fun b hb => ho.block b (by omega) (by omega), hr, h.r6.only ho (fun b _ _ => by omega), h.bl.trans (ho.below (by omega) (fun j e => by omega)), h3, h4⟩
theorem LvH.step6 {P B p5 b6 p6 : Nat} {a : Option Addr} {k : Nat} {s5 s6 t : Rs} {w W W' : World} (h : LvH P B p5 b6 p6 a k s5 s6 w W) (hr : Rd W' b6 p6 t) (ho : Only (fun j => j = p6) W W') : LvH P B p5 b6 p6 a k s5 t w W' := by
  have h1 := h.r5.lt; have h2 := h.r6.lt; have h3 := h.o1; have h4 := h.o3
  exact ⟨h.sl.keep fun b hb => ho.block b (by omega) (by omega), h.r5.only ho (fun b _ _ => by omega), hr, h.bl.trans (ho.below (by omega) (fun j e => by omega)), h3, h4⟩
theorem LvH.below {P B p5 b6 p6 : Nat} {a : Option Addr} {k : Nat} {s5 s6 : Rs} {w W W' : World} (h : LvH P B p5 b6 p6 a k s5 s6 w W) (hb : Below W.heap.size W W') : LvH P B p5 b6 p6 a k s5 s6 w W' := by
  have h1 := h.r5.lt; have h2 := h.r6.lt; have h3 := h.o1; have h4 := h.o3
  exact ⟨h.sl.keep fun b hb1 => hb.block b (by omega), h.r5.below hb, h.r6.below hb, h.bl.trans (hb.mono (by omega)), h3, h4⟩
theorem LvH.sli {P B p5 b6 p6 : Nat} {a : Option Addr} {k : Nat} {s5 s6 : Rs} {w W : World} (h : LvH P B p5 b6 p6 a k s5 s6 w W) : Sli .u8 W a k exZ := h.sl.mono (by have h1 := h.r5.lt; omega)

set_option maxRecDepth 100000 in
set_option maxHeartbeats 2000000 in
theorem wlives_any (w : World) :
    Calls Try.prog 18 #[] w fun e w' => e = .returned (.bool true) ∧ Below w.heap.size w w' := by
  obtain ⟨P, hP⟩ : ∃ P, w.heap.size = P := ⟨_, rfl⟩
  have c1 := fun W h => wuint_at P P 300 300 [] _ W h rfl (by decide) (by decide) ex_u
  have c2 : ∀ W, Wr W P P [172, 2] → _ := fun W h => wint_any P P (-1) [172, 2] W h (by decide) (by decide) (by decide)
  have c3 : ∀ W, Wr W P P [172, 2, 1] → _ := fun W h => wtext_any P P abB [172, 2, 1] W h (by decide) (by decide)
  rw [ex_i] at c2
  rw [ex_t] at c3
  have c4 := fun W h => wdone_any P P exZ W h (by decide)
  have c5 := fun a cap W h => rread_any a cap exZ W h ex_byt (by decide)
  have c6 := fun W => rread_any (some ⟨W.heap.size, 0, none⟩) 2 [128, 0] (W.alloc (.cells #[.int .u8 128, .int .u8 0] 5)) (sli_lit2 W 128 0) bad_byt (by decide)
  have c7 := fun b p W h => ruint_any b p (.ok exZ) W h
  have c8 := fun b p W h => rint_any b p (.ok [1, 2, 97, 98]) W h
  have c9 := fun b p W h => rtext_any b p (.ok [2, 97, 98]) W h
  have c10 := fun b p W h => rint_any b p (.ok [128, 0]) W h
  have c11 := fun a cap W h => sameBytes_any a (some ⟨W.heap.size, 0, none⟩) cap 6 exZ [172, 2, 1, 2, 97, 98] (W.alloc (.cells #[.int .u8 172, .int .u8 2, .int .u8 1, .int .u8 2, .int .u8 97, .int .u8 98] 5)) h (sli_lit6 W _ _ _ _ _ _) (by decide) (by decide)
  have c12 := fun b p W h => rend_any b p (.ok []) W h
  have c13 := fun b p W h => rend_any b p (.bad 2) W h
  rw [ex_ru] at c7; rw [ex_ri] at c8; rw [ex_rt] at c9; rw [ex_bad] at c10
  simp only [List.length_cons, List.length_nil, Nat.zero_add, Nat.reduceAdd, decide_true] at c5 c6 c11
  have C1 := Lib.hid c1; have C2 := Lib.hid c2; have C3 := Lib.hid c3; have C4 := Lib.hid c4; have C5 := Lib.hid c5; have C6 := Lib.hid c6; have C7 := Lib.hid c7; have C8 := Lib.hid c8; have C9 := Lib.hid c9; have C10 := Lib.hid c10; have C11 := Lib.hid c11; have C12 := Lib.hid c12; have C13 := Lib.hid c13
  have HP := Lib.hid hP
  clear c1 c2 c3 c4 c5 c6 c7 c8 c9 c10 c11 c12 c13 hP
  go_enter Try.func18, Try.ntmps18
  go_wp2_with fail
  rw [HP.out]
  have W1 : Hid (Wr (w.alloc (.cells #[.slice none 0 0] 32)) P P [] ∧ Below P w (w.alloc (.cells #[.slice none 0 0] 32))) := by rw [← HP.out]; exact ⟨wr_new w, below_new w _⟩
  refine (C1.out _ W1.out.1).mono ?_
  rintro e w1 ⟨⟨_, rfl⟩, hw, hb⟩
  have H1 := Lib.hid (And.intro hw (W1.out.2.trans hb))
  clear hw hb W1
  go_wp2_with fail
  refine (C2.out _ H1.out.1).mono ?_
  rintro e w2 ⟨⟨_, rfl⟩, hw, hb⟩
  have H2 := Lib.hid (And.intro hw (H1.out.2.trans hb))
  clear hw hb H1
  go_wp2_with fail
  refine (C3.out _ H2.out.1).mono ?_
  rintro e w3 ⟨⟨_, rfl⟩, hw, hb⟩
  have H3 := Lib.hid (And.intro hw (H2.out.2.trans hb))
  clear hw hb H2
  go_wp2_with fail
  refine (C4.out _ H3.out.1).mono ?_
  rintro e w4 ⟨v, rfl, hown, hb⟩
  obtain ⟨_, a4, k4, rfl, hs⟩ := sli_of_own hown
  have hP3 : P ≤ w3.heap.size := by have := H3.out.1.lt; omega
  have H4 := Lib.hid (And.intro hs (H3.out.2.trans (hb.mono hP3)))
  clear hown hs hb H3
  go_wp2_with fail
  refine (C5.out _ _ _ H4.out.1).mono ?_
  rintro e w5 ⟨p5, rfl, hr, hb⟩
  have hP4 : P ≤ w4.heap.size := by have := H4.out.2.size; have := HP.out; omega
  obtain ⟨B, hB⟩ : ∃ B, w4.heap.size = B := ⟨_, rfl⟩
  have hP4' : P ≤ B := by omega
  have H5 : Hid (SliAt .u8 B w5 a4 k4 exZ ∧ Rd w5 B p5 (.ok exZ) ∧ Below P w w5) := by rw [← hB]; exact ⟨SliAt.below H4.out.1 hb, hr, H4.out.2.trans (hb.mono hP4)⟩
  clear hr hb H4 hP4 hB hP3
  go_wp2_with fail
  refine (C6.out _).mono ?_
  rintro e w6 ⟨p6, rfl, hr, hb⟩
  have hb' := (below_new w5 (.cells #[.int .u8 128, .int .u8 0] 5)).trans (hb.mono (by simp))
  have H6 : Hid (LvH P B p5 (w5.heap.size + 1) p6 a4 k4 (.ok exZ) (.ok [128, 0]) w w6) := by
    have h5 := H5.out.2.1.lt
    exact ⟨H5.out.1.keep fun b hb1 => hb'.block b (by omega), H5.out.2.1.below hb', by simpa using hr, H5.out.2.2.trans (hb'.mono (by omega)), hP4', by omega⟩
  clear hr hb hb' H5 hP4'
  obtain ⟨b6, hb6⟩ : ∃ b6, w5.heap.size + 1 = b6 := ⟨_, rfl⟩
  rw [hb6] at H6
  clear hb6
  go_wp2_with fail
  refine (C7.out _ _ _ H6.out.r5).mono ?_
  rintro e w7 ⟨rfl, hr, ho⟩
  have H7 := Lib.hid (H6.out.step5 hr ho)
  clear hr ho H6
  go_wp2_with fail
  refine (C8.out _ _ _ H7.out.r5).mono ?_
  rintro e w8 ⟨rfl, hr, ho⟩
  have H8 := Lib.hid (H7.out.step5 hr ho)
  clear hr ho H7
  go_wp2_with fail
  refine (C9.out _ _ _ H8.out.r5).mono ?_
  rintro e w9 ⟨rfl, hr, ho⟩
  have H9 := Lib.hid (H8.out.step5 hr ho)
  clear hr ho H8
  have hbs : bs [97, 98] = abB := rfl
  rw [hbs]
  clear hbs
  go_wp2_with fail
  refine (C10.out _ _ _ H9.out.r6).mono ?_
  rintro e w10 ⟨rfl, hr, ho⟩
  have H10 := Lib.hid (H9.out.step6 hr ho)
  clear hr ho H9
  go_wp2_with fail
  refine (C11.out _ _ _ (H10.out.below (below_new _ _)).sli).mono ?_
  rintro e w11 ⟨rfl, hb⟩
  have H11 := Lib.hid ((H10.out.below (below_new _ _)).below hb)
  clear hb H10
  go_wp2_with fail
  refine (C12.out _ _ _ H11.out.r5).mono ?_
  rintro e w12 ⟨rfl, rfl⟩
  go_wp2_with fail
  refine (C13.out _ _ _ H11.out.r6).mono ?_
  rintro e w13 ⟨rfl, rfl⟩
  go_wp2
  go_ret
  exact ⟨rfl, by rw [HP.out]; exact H11.out.bl⟩

end Go.Proofs.Ytfnpnomfdfdonaa
