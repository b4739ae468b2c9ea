/- The walk of EditLimits. It has no conditions. -/
import Derived.Test.YtfhpllcdlejfjaaELv
import Derived.Test.YtfhpllcdlejfjaaEYw
namespace Go.Proofs.Ytfhpllcdlejfjaa
open Go.RowKit Go.Shelf
set_option linter.unusedVariables false

/-- A list of small edits. -/
def LimL (l : List Er) : Prop := ∀ e ∈ l, e.Fit ∧ e.x.size ≤ 1
theorem LimL.snoc {l : List Er} (h : LimL l) {e : Er} (h1 : -1000 ≤ e.f) (h2 : e.f ≤ 1000) (h3 : -1000 ≤ e.t) (h4 : e.t ≤ 1000) (h5 : e.x.size ≤ 1) : LimL (l ++ [e]) := by
  intro x hx
  rcases List.mem_append.1 hx with hx | hx
  · exact h x hx
  · simp only [List.mem_singleton] at hx
    subst hx
    exact ⟨⟨by omega, by omega, by omega, by omega, by omega⟩, h5⟩

set_option maxRecDepth 100000 in
set_option maxHeartbeats 8000000 in
theorem walkLimits (n at_ other : Int) (hn1 : -9223372036854775808 ≤ n) (hn2 : n ≤ 9223372036854775807) (ha1 : -9223372036854775808 ≤ at_) (ha2 : at_ ≤ 9223372036854775807) (ho1 : -9223372036854775808 ≤ other) (ho2 : other ≤ 9223372036854775807) (w : World) :
    Calls Try.prog 4 #[.int .i64 n, .int .i64 at_, .int .i64 other] w fun e w' => e = .returned (.bool true) ∧ Below w.heap.size w w' := by
  obtain ⟨i3, hi3, jy0, jy1, jy2⟩ := info_parts infoEd
  obtain ⟨B, hB⟩ : ∃ B, w.heap.size = B := ⟨_, rfl⟩
  have HB := Lib.hid hB
  have HB0 : Hid (Below B w w) := by rw [← hB]; exact Below.refl _ _
  rw [hB]
  clear hB
  go_enter Try.func4, Try.ntmps4
  go_wp2_with fail
  go_loopw [7, 8] (fun x q wr => ∃ (k : Nat) (z : ByteArray), k ≤ 200 ∧ z.size = k ∧ x = .string z ∧ q = .int .i64 (k : Int) ∧ Hid (Below B w wr)) (fun _ q _ => 200 - (intOf q).toNat)
  case atStart => exact ⟨0, ⟨#[]⟩, by omega, rfl, rfl, rfl, HB0⟩
  case round =>
    obtain ⟨k, z, hk, hz, rfl, rfl, HR⟩ := hrel
    by_cases hlt : k < 200
    · have hlt2 : (k : Int) < 200 := by omega
      have hs1 : z.size + (⟨#[120]⟩ : ByteArray).size ≤ 9223372036854775807 := by rw [hz]; show k + 1 ≤ _; omega
      have HZ : Hid ((z ++ (⟨#[120]⟩ : ByteArray)).size = k + 1) := by rw [ByteArray.size_append, hz]; exact rfl
      clear hz
      go_wp2
      go_roundw
      case rel => exact ⟨k + 1, _, by omega, HZ.out, rfl, by go_num, HR⟩
      case measure => simp [intOf]; omega
    · have hlt2 : ¬ (k : Int) < 200 := by omega
      have hzs : z.size ≤ 200 := by omega
      obtain ⟨w0, hw0⟩ : ∃ W, W = wr := ⟨wr, rfl⟩
      subst hw0
      have HR0 := HR
      have HZS := Lib.hid hzs
      clear hz hk hlt HR hzs
      obtain ⟨B1, hB1⟩ : ∃ B, w0.heap.size = B := ⟨_, rfl⟩
      have ZB1 := Lib.hid hB1
      have O1 : Hid (w0.ownsRow B1 32 3 (.slice none 0 0) ([] : List Er).length (rv [])) := World.ownsRow_nil _ _ _ _
      have R1 : Hid (Below B1 w0 w0) := by rw [← hB1]; exact Below.refl _ _
      have M1 : Hid (LimL []) := Lib.hid (fun x hx => by simp at hx)
      clear hB1
      go_wp2_with fail
      go_loopw [9, 12] (fun o q wr => ∃ (k : Nat) (acc : List Er), k ≤ 70 ∧ acc.length = k ∧ q = .int .i64 (k : Int) ∧ Hid (LimL acc) ∧ Hid (wr.ownsRow B1 32 3 o k (rv acc)) ∧ Hid (Below B1 w0 wr)) (fun _ q _ => 70 - (intOf q).toNat)
      case atStart => exact ⟨0, [], by omega, rfl, rfl, M1, O1, R1⟩
      case round =>
        obtain ⟨k1, l1, hk, hal, rfl, L1, HO, K1⟩ := hrel
        obtain ⟨W1, hW⟩ : ∃ W, W = wr := ⟨wr, rfl⟩
        subst hW
        obtain ⟨a1, c1, rfl⟩ := own_slice HO.out
        have N1 := Lib.hid hal
        have hBr : B1 ≤ W1.heap.size := by have := K1.out.size; have := ZB1.out; omega
        clear hal
        go_wp2_with fail
        refine (around_any n 11 _ hn1 hn2 (by omega) (by omega)).mono ?_
        rintro e w' ⟨m, hm, rfl, rfl⟩
        by_cases hlt : k1 < 60 + m
        · have hlt2 : (k1 : Int) < 60 + (m : Int) := by omega
          go_wp2_with (at_builtin; refine wpList_append_own _ rfl _ _ 22 rfl B1 32 i3 (.agg #[.int .i64 0, .int .i64 0, .string ⟨#[]⟩]) 3 32 Try.underlying22 hi3 jy0 jy1 jy2 rfl (by decide) (.slice a1 k1 c1) k1 (rv l1) rfl (HO.out.alloc _) ⟨_, 0, none⟩ 1 1 [.int .i64 (k1 : Int), .int .i64 (k1 : Int), .string ⟨#[121]⟩] rfl rfl (cells_newb _ [.int .i64 (k1 : Int), .int .i64 (k1 : Int), .string ⟨#[121]⟩] _ _ (by simp; try omega)) (fun x hx => by simp at hx; rcases hx with rfl | rfl | rfl <;> rfl) (by unfold maxLen; omega) (by omega) (by simp; omega) ?_; intro v' w6 hown6 hgrow6 _)
          have HRV : Hid (rv (l1 ++ [(⟨(k1 : Int), (k1 : Int), ⟨#[121]⟩⟩ : Er)]) = rv l1 ++ [.int .i64 (k1 : Int), .int .i64 (k1 : Int), .string ⟨#[121]⟩]) := rv_snoc _ _
          have HLN : Hid ((l1 ++ [(⟨(k1 : Int), (k1 : Int), ⟨#[121]⟩⟩ : Er)]).length = k1 + 1) := by rw [List.length_append, N1.out]; exact rfl
          have HO6 : Hid (w6.ownsRow B1 32 3 v' (k1 + 1) (rv (l1 ++ [(⟨(k1 : Int), (k1 : Int), ⟨#[121]⟩⟩ : Er)]))) := by rw [HRV.out]; exact hown6
          have H6 : Hid (Below B1 w0 w6) := (K1.out.alloc hBr _).grown hgrow6 (by simp; omega) (fun g eg => (HO.out.lt g eg).1)
          have HL6 : Hid (LimL (l1 ++ [(⟨(k1 : Int), (k1 : Int), ⟨#[121]⟩⟩ : Er)])) := L1.out.snoc (by simp only; omega) (by simp only; omega) (by simp only; omega) (by simp only; omega) (by show (⟨#[121]⟩ : ByteArray).size ≤ 1; decide)
          clear hown6 hgrow6
          go_wp2
          go_roundw
          case rel => exact ⟨k1 + 1, _, by omega, HLN.out, by go_num, HL6, HO6, H6⟩
          case measure => simp [intOf]; omega
        · have hlt2 : ¬ (k1 : Int) < 60 + (m : Int) := by omega
          have hown := HO.out
          rw [← N1.out] at hown
          obtain ⟨_, a', c', hv, hES⟩ := es_of_own hown
          simp only [Value.slice.injEq, true_and] at hv
          obtain ⟨rfl, rfl⟩ := hv
          have E1 := Lib.hid hES
          have Q1 : k1 ≤ 70 := hk
          clear hown hES hm hk HO hBr
          obtain ⟨B2, hB2⟩ : ∃ B, W1.heap.size = B := ⟨_, rfl⟩
          have ZB2 := Lib.hid hB2
          have O2 : Hid (W1.ownsRow B2 32 3 (.slice none 0 0) ([] : List Er).length (rv [])) := World.ownsRow_nil _ _ _ _
          have R2 : Hid (Below B2 W1 W1) := by rw [← hB2]; exact Below.refl _ _
          have M2 : Hid (LimL []) := Lib.hid (fun x hx => by simp at hx)
          clear hB2
          go_wp2_with fail
          go_loopw [10, 13] (fun o q wr => ∃ (k : Nat) (acc : List Er), k ≤ 40 ∧ acc.length = k ∧ q = .int .i64 (k : Int) ∧ Hid (LimL acc) ∧ Hid (wr.ownsRow B2 32 3 o k (rv acc)) ∧ Hid (Below B2 W1 wr)) (fun _ q _ => 40 - (intOf q).toNat)
          case atStart => exact ⟨0, [], by omega, rfl, rfl, M2, O2, R2⟩
          case round =>
            obtain ⟨k2, l2, hk, hal, rfl, L2, HO, K2⟩ := hrel
            obtain ⟨W2, hW⟩ : ∃ W, W = wr := ⟨wr, rfl⟩
            subst hW
            obtain ⟨a2, c2, rfl⟩ := own_slice HO.out
            have N2 := Lib.hid hal
            have hBr : B2 ≤ W2.heap.size := by have := K2.out.size; have := ZB2.out; omega
            clear hal
            go_wp2_with fail
            refine (around_any at_ 13 _ ha1 ha2 (by omega) (by omega)).mono ?_
            rintro e w' ⟨m, hm, rfl, rfl⟩
            by_cases hlt : k2 < 28 + m
            · have hlt2 : (k2 : Int) < 28 + (m : Int) := by omega
              go_wp2_with (at_builtin; refine wpList_append_own _ rfl _ _ 22 rfl B2 32 i3 (.agg #[.int .i64 0, .int .i64 0, .string ⟨#[]⟩]) 3 32 Try.underlying22 hi3 jy0 jy1 jy2 rfl (by decide) (.slice a2 k2 c2) k2 (rv l2) rfl (HO.out.alloc _) ⟨_, 0, none⟩ 1 1 [.int .i64 (k2 : Int), .int .i64 (k2 : Int), .string ⟨#[121]⟩] rfl rfl (cells_newb _ [.int .i64 (k2 : Int), .int .i64 (k2 : Int), .string ⟨#[121]⟩] _ _ (by simp; try omega)) (fun x hx => by simp at hx; rcases hx with rfl | rfl | rfl <;> rfl) (by unfold maxLen; omega) (by omega) (by simp; omega) ?_; intro v' w6 hown6 hgrow6 _)
              have HRV : Hid (rv (l2 ++ [(⟨(k2 : Int), (k2 : Int), ⟨#[121]⟩⟩ : Er)]) = rv l2 ++ [.int .i64 (k2 : Int), .int .i64 (k2 : Int), .string ⟨#[121]⟩]) := rv_snoc _ _
              have HLN : Hid ((l2 ++ [(⟨(k2 : Int), (k2 : Int), ⟨#[121]⟩⟩ : Er)]).length = k2 + 1) := by rw [List.length_append, N2.out]; exact rfl
              have HO6 : Hid (w6.ownsRow B2 32 3 v' (k2 + 1) (rv (l2 ++ [(⟨(k2 : Int), (k2 : Int), ⟨#[121]⟩⟩ : Er)]))) := by rw [HRV.out]; exact hown6
              have H6 : Hid (Below B2 W1 w6) := (K2.out.alloc hBr _).grown hgrow6 (by simp; omega) (fun g eg => (HO.out.lt g eg).1)
              have HL6 : Hid (LimL (l2 ++ [(⟨(k2 : Int), (k2 : Int), ⟨#[121]⟩⟩ : Er)])) := L2.out.snoc (by simp only; omega) (by simp only; omega) (by simp only; omega) (by simp only; omega) (by show (⟨#[121]⟩ : ByteArray).size ≤ 1; decide)
              clear hown6 hgrow6
              go_wp2
              go_roundw
              case rel => exact ⟨k2 + 1, _, by omega, HLN.out, by go_num, HL6, HO6, H6⟩
              case measure => simp [intOf]; omega
            · have hlt2 : ¬ (k2 : Int) < 28 + (m : Int) := by omega
              have hown := HO.out
              rw [← N2.out] at hown
              obtain ⟨_, a', c', hv, hES⟩ := es_of_own hown
              simp only [Value.slice.injEq, true_and] at hv
              obtain ⟨rfl, rfl⟩ := hv
              have E2 := Lib.hid hES
              have Q2 : k2 ≤ 40 := hk
              clear hown hES hm hk HO hBr
              obtain ⟨B3, hB3⟩ : ∃ B, W2.heap.size = B := ⟨_, rfl⟩
              have ZB3 := Lib.hid hB3
              have O3 : Hid (W2.ownsRow B3 32 3 (.slice none 0 0) ([] : List Er).length (rv [])) := World.ownsRow_nil _ _ _ _
              have R3 : Hid (Below B3 W2 W2) := by rw [← hB3]; exact Below.refl _ _
              have M3 : Hid (LimL []) := Lib.hid (fun x hx => by simp at hx)
              clear hB3
              go_wp2_with fail
              go_loopw [11, 14] (fun o q wr => ∃ (k : Nat) (acc : List Er), k ≤ 40 ∧ acc.length = k ∧ q = .int .i64 (k : Int) ∧ Hid (LimL acc) ∧ Hid (wr.ownsRow B3 32 3 o k (rv acc)) ∧ Hid (Below B3 W2 wr)) (fun _ q _ => 40 - (intOf q).toNat)
              case atStart => exact ⟨0, [], by omega, rfl, rfl, M3, O3, R3⟩
              case round =>
                obtain ⟨k3, l3, hk, hal, rfl, L3, HO, K3⟩ := hrel
                obtain ⟨W3, hW⟩ : ∃ W, W = wr := ⟨wr, rfl⟩
                subst hW
                obtain ⟨a3, c3, rfl⟩ := own_slice HO.out
                have N3 := Lib.hid hal
                have hBr : B3 ≤ W3.heap.size := by have := K3.out.size; have := ZB3.out; omega
                clear hal
                go_wp2_with fail
                refine (around_any other 13 _ ho1 ho2 (by omega) (by omega)).mono ?_
                rintro e w' ⟨m, hm, rfl, rfl⟩
                by_cases hlt : k3 < 28 + m
                · have hlt2 : (k3 : Int) < 28 + (m : Int) := by omega
                  go_wp2_with (at_builtin; refine wpList_append_own _ rfl _ _ 22 rfl B3 32 i3 (.agg #[.int .i64 0, .int .i64 0, .string ⟨#[]⟩]) 3 32 Try.underlying22 hi3 jy0 jy1 jy2 rfl (by decide) (.slice a3 k3 c3) k3 (rv l3) rfl (HO.out.alloc _) ⟨_, 0, none⟩ 1 1 [.int .i64 (100 + 2 * (k3 : Int)), .int .i64 (101 + 2 * (k3 : Int)), .string ⟨#[]⟩] rfl rfl (cells_newb _ [.int .i64 (100 + 2 * (k3 : Int)), .int .i64 (101 + 2 * (k3 : Int)), .string ⟨#[]⟩] _ _ (by simp; try omega)) (fun x hx => by simp at hx; rcases hx with rfl | rfl | rfl <;> rfl) (by unfold maxLen; omega) (by omega) (by simp; omega) ?_; intro v' w6 hown6 hgrow6 _)
                  have HRV : Hid (rv (l3 ++ [(⟨(100 + 2 * (k3 : Int)), (101 + 2 * (k3 : Int)), ⟨#[]⟩⟩ : Er)]) = rv l3 ++ [.int .i64 (100 + 2 * (k3 : Int)), .int .i64 (101 + 2 * (k3 : Int)), .string ⟨#[]⟩]) := rv_snoc _ _
                  have HLN : Hid ((l3 ++ [(⟨(100 + 2 * (k3 : Int)), (101 + 2 * (k3 : Int)), ⟨#[]⟩⟩ : Er)]).length = k3 + 1) := by rw [List.length_append, N3.out]; exact rfl
                  have HO6 : Hid (w6.ownsRow B3 32 3 v' (k3 + 1) (rv (l3 ++ [(⟨(100 + 2 * (k3 : Int)), (101 + 2 * (k3 : Int)), ⟨#[]⟩⟩ : Er)]))) := by rw [HRV.out]; exact hown6
                  have H6 : Hid (Below B3 W2 w6) := (K3.out.alloc hBr _).grown hgrow6 (by simp; omega) (fun g eg => (HO.out.lt g eg).1)
                  have HL6 : Hid (LimL (l3 ++ [(⟨(100 + 2 * (k3 : Int)), (101 + 2 * (k3 : Int)), ⟨#[]⟩⟩ : Er)])) := L3.out.snoc (by simp only; omega) (by simp only; omega) (by simp only; omega) (by simp only; omega) (by show (⟨#[]⟩ : ByteArray).size ≤ 1; decide)
                  clear hown6 hgrow6
                  go_wp2
                  go_roundw
                  case rel => exact ⟨k3 + 1, _, by omega, HLN.out, by go_num, HL6, HO6, H6⟩
                  case measure => simp [intOf]; omega
                · have hlt2 : ¬ (k3 : Int) < 28 + (m : Int) := by omega
                  have hown := HO.out
                  rw [← N3.out] at hown
                  obtain ⟨_, a', c', hv, hES⟩ := es_of_own hown
                  simp only [Value.slice.injEq, true_and] at hv
                  obtain ⟨rfl, rfl⟩ := hv
                  have E3 := Lib.hid hES
                  have Q3 : k3 ≤ 40 := hk
                  clear hown hES hm hk HO hBr
                  have k1 : Below w0.heap.size w0 W1 := by rw [ZB1.out]; exact K1.out
                  have k2 : Below W1.heap.size W1 W2 := by rw [ZB2.out]; exact K2.out
                  have k3 : Below W2.heap.size W2 W3 := by rw [ZB3.out]; exact K3.out
                  have zb0 : B ≤ w0.heap.size := by have := HR0.out.size; have := HB.out; omega
                  have b1 : Below B w W1 := HR0.out.trans (k1.mono zb0)
                  have b2 : Below B w W2 := b1.trans (k2.mono (by have := k1.size; omega))
                  have b3 : Below B w W3 := b2.trans (k3.mono (by have := k1.size; have := k2.size; omega))
                  have zB3 : B ≤ W3.heap.size := by have := k1.size; have := k2.size; have := k3.size; omega
                  have eA := E1.out.on (k2.trans (k3.mono k2.size))
                  have eB := E2.out.on k3
                  have fB := fun e he => (L2.out e he).1
                  have fC := fun e he => (L3.out e he).1
                  have fA := fun e he => (L1.out e he).1
                  have gB := apS_any (s := z) (c := 1) (fun e he => (L2.out e he).2)
                  have gC := apS_any (s := apS z l2) (c := 1) (fun e he => (L3.out e he).2)
                  have n1 := N1.out
                  have n2 := N2.out
                  have n3 := N3.out
                  have zs := HZS.out
                  have CB := both_any z l2 l3 (by omega) (by omega) (by omega) (by omega) (by omega) fB fC
                  have lX := cmS_len z l2 l3
                  obtain ⟨X, hX⟩ : ∃ x, cmS z l2 l3 = x := ⟨_, rfl⟩
                  obtain ⟨er, her⟩ : ∃ x, cmE z l2 l3 = x := ⟨_, rfl⟩
                  rw [hX, her, n2, n3] at CB
                  rw [hX] at lX
                  have VP := fun W (hW : Below W3.heap.size W3 W) => pvalid_any z a1 c1 l1 W (by omega) (by omega) fA (eA.on hW)
                  have VR := fun W (hW : Below W3.heap.size W3 W) => rvalid_any z a1 c1 l1 W (by omega) (by omega) fA (eA.on hW)
                  obtain ⟨ev, hev⟩ : ∃ x, vErr (z.size : Int) l1 = x := ⟨_, rfl⟩
                  simp only [n1, hev] at VP VR
                  have q1 : (ev == ev) = true := by simp
                  have q2 : (er == er) = true := by simp
                  have hEB := Lib.hid eB; have HCB := Lib.hid CB; have HVP := Lib.hid VP; have HVR := Lib.hid VR; have HB3 := Lib.hid b3; have HE3 := E3
                  clear k1 k2 k3 b1 b2 b3 eA eB fB fC fA gB gC n1 n2 n3 CB hX her VP VR hev
                  go_wp2_with fail
                  refine (HCB.out _ (.inl rfl) _ _ _ _ _ hEB.out HE3.out).mono ?_
                  rintro e w4 ⟨aX, cX, rfl, eX, d4⟩
                  have EX := Lib.hid eX; have D4 := Lib.hid d4
                  clear eX d4
                  go_wp2_with fail
                  refine (HCB.out _ (.inr rfl) _ _ _ _ _ (hEB.out.on D4.out) (HE3.out.on D4.out)).mono ?_
                  rintro e w5 ⟨aY, cY, rfl, eY, d5⟩
                  have EY := Lib.hid eY; have D5 := Lib.hid (D4.out.trans (d5.mono D4.out.size)); have X5 := Lib.hid d5
                  clear eY d5
                  go_wp2_with fail
                  refine (HVP.out _ D5.out).mono ?_
                  rintro e w6 ⟨rfl, d6⟩
                  have D6 := Lib.hid (D5.out.trans (d6.mono D5.out.size)); have X6 := Lib.hid (X5.out.trans (d6.mono X5.out.size)); have Y6 := Lib.hid d6
                  clear d6
                  go_wp2_with fail
                  refine (HVR.out _ D6.out).mono ?_
                  rintro e w7 ⟨rfl, d7⟩
                  have D7 := Lib.hid (D6.out.trans (d7.mono D6.out.size))
                  have S1 := same_any aX aY cX cY X w7 (by omega) (EX.out.on (X6.out.trans (d7.mono X6.out.size))) (EY.out.on (Y6.out.trans (d7.mono Y6.out.size)))
                  have HS1 := Lib.hid S1
                  clear d7 S1
                  go_wp2_with fail
                  refine HS1.out.mono ?_
                  rintro e w8 ⟨rfl, d8⟩
                  have D8 := Lib.hid (D7.out.trans (d8.mono D7.out.size))
                  clear d8
                  go_wp2_with fail
                  refine (lives_any _).mono ?_
                  rintro e w9 ⟨rfl, d9⟩
                  have D9 := Lib.hid (D8.out.trans (d9.mono D8.out.size))
                  clear d9
                  have HFIN := Lib.hid (HB3.out.trans (D9.out.mono zB3))
                  go_wp2
                  go_ret
                  exact ⟨rfl, HFIN.out⟩

end Go.Proofs.Ytfhpllcdlejfjaa
