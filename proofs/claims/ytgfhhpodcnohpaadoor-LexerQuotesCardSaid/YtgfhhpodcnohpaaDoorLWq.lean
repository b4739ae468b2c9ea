/- Tokens: the walk of LexerQuotes. Conditions: the tables lie in memory. -/
import Derived.Test.YtgfhhpodcnohpaaDoorLWl
import Derived.Test.YtgfhhpodcnohpaaDoorLQr
import Derived.Test.YtgfhhpodcnohpaaDoorPText
namespace Go.Proofs.YtgfhhpodcnohpaaDoor
open Go.RowKit Go.Shelf
set_option linter.unusedVariables false

set_option maxRecDepth 100000 in
set_option maxHeartbeats 16000000 in
theorem walkQuotes (s : ByteArray) (a : Option Addr) (cap : Nat) (ls : List Int) (w : World) (hT : LexW w) (hs : s.size ≤ 9223372036854775807) (h : Sli .i64 w a cap ls) (hi : ∀ n ∈ ls, -9223372036854775808 ≤ n ∧ n ≤ 9223372036854775807) :
    Calls Tryd.prog 6 #[.string s, .slice a ls.length cap] w fun e w' => e = .returned (.bool true) ∧ Below w.heap.size w w' := by
  have c1 := rtext_any a cap ls w h hi
  have C1 := Lib.hid c1
  have HT := Lib.hid hT
  obtain ⟨S, hS⟩ : ∃ S, shS s 70 = S := ⟨_, rfl⟩
  have cS := fun W => short_any s 70 W hs (by omega)
  have hSl : S.size ≤ 70 := by rw [← hS]; exact shS_size s 70
  rw [hS] at cS
  have CS := Lib.hid cS
  clear c1 h hi hT cS hS
  go_enter Tryd.func6, Tryd.ntmps6
  go_wp2_with fail
  refine (CS.out _).mono ?_
  rintro e w' ⟨rfl, rfl⟩
  go_wp2_with fail
  refine C1.out.mono ?_
  rintro e w1 ⟨T, rfl, hTl, _, hb1⟩
  obtain ⟨w2, hw2⟩ : ∃ W, w1.alloc (.cells #[.string S, .string T] 9) = W := ⟨_, rfl⟩
  have hA := twoT_new w1 S T (by omega) (by omega)
  have hbw := (Below.refl w1.heap.size w1).alloc (Nat.le_refl _) (.cells #[.string S, .string T] 9)
  rw [hw2] at hA hbw
  obtain ⟨X, hX⟩ : ∃ X, w1.heap.size = X := ⟨_, rfl⟩
  rw [hX] at hA
  obtain ⟨DA, hDA⟩ : ∃ D, (fun j => if j = 0 then S else T) = D := ⟨_, rfl⟩
  rw [hDA] at hA
  have HA := Lib.hid hA
  have HB2 := Lib.hid (hb1.trans (hbw.mono hb1.size))
  have HT2 := Lib.hid (HT.out.below HB2.out)
  have HW2 := Lib.hid hw2
  have HX := Lib.hid hX
  clear hA hbw hw2 hX hb1 hDA
  go_wp2_with fail
  rw [HX.out, show w1.alloc (.cells #[.string S, .string T] 9) = w2 from HW2.out]
  go_loopw [6] (fun i wr => ∃ j : Nat, j ≤ 2 ∧ i = .int .i64 j ∧ Hid (Below w2.heap.size w2 wr)) (fun i _ => 2 - (intOf i).toNat)
  case atStart => exact ⟨0, by omega, rfl, Below.refl _ _⟩
  case round =>
    obtain ⟨j, hj, rfl, HR⟩ := hrel
    by_cases hlt : j < 2
    · have hAr := HA.out.below HR.out
      have hzl := hAr.size j hlt
      obtain ⟨z, hz⟩ : ∃ z, DA j = z := ⟨_, rfl⟩
      rw [hz] at hzl
      have HCW : Hid (∀ W, Below wr.heap.size wr W → W.cell? ⟨X, j, none⟩ = some (.string z)) := Lib.hid fun W hW => by rw [← hz]; exact (hAr.below hW).cell j hlt
      have HTr := Lib.hid (HT2.out.below HR.out)
      have hz1 : ((⟨#[34]⟩ : ByteArray) ++ z).size = z.size + 1 := by rw [ByteArray.size_append]; show 1 + z.size = _; omega
      have hz2 : ((⟨#[34]⟩ : ByteArray) ++ z ++ ⟨#[34]⟩).size = z.size + 2 := by rw [ByteArray.size_append, hz1]; show z.size + 1 + 1 = _; omega
      have k1 := fun W h => quote_any z (by omega) W h
      have k2 := fun W => rquote_any z (by omega) W
      have k3 := fun W h => unquote_any z (by omega) W h
      have k4 := fun W => runquote_any z (by omega) W
      have k5 := fun W h => unquote_any ((⟨#[34]⟩ : ByteArray) ++ z ++ ⟨#[34]⟩) (by omega) W h
      have k6 := fun W => runquote_any ((⟨#[34]⟩ : ByteArray) ++ z ++ ⟨#[34]⟩) (by omega) W
      have hqe : (quoV z).2 = posV z := by
        unfold quoV
        split
        · rename_i h; rw [h]
        · rfl
      have hback : posV z = 0 → unqV ((⟨#[34]⟩ : ByteArray) ++ z ++ ⟨#[34]⟩) = (z, 0) := unq_quo
      obtain ⟨⟨qa, qe⟩, hq⟩ : ∃ x, quoV z = x := ⟨_, rfl⟩
      obtain ⟨⟨ua, ue⟩, hu⟩ : ∃ x, unqV z = x := ⟨_, rfl⟩
      obtain ⟨⟨va, ve⟩, hv⟩ : ∃ x, unqV ((⟨#[34]⟩ : ByteArray) ++ z ++ ⟨#[34]⟩) = x := ⟨_, rfl⟩
      rw [hq] at k1 k2 hqe
      rw [hu] at k3 k4
      rw [hv] at k5 k6 hback
      simp only at k1 k2 k3 k4 k5 k6 hqe
      rw [← hqe] at hback
      have K1 := Lib.hid k1; have K2 := Lib.hid k2; have K3 := Lib.hid k3; have K4 := Lib.hid k4; have K5 := Lib.hid k5; have K6 := Lib.hid k6
      have hjj : (j : Int) < 2 := by omega
      have hc1 : (⟨#[34]⟩ : ByteArray).size + z.size ≤ 9223372036854775807 := by show 1 + z.size ≤ _; omega
      have hc2 : ((⟨#[34]⟩ : ByteArray) ++ z).size + (⟨#[34]⟩ : ByteArray).size ≤ 9223372036854775807 := by rw [hz1]; show z.size + 1 + 1 ≤ _; omega
      have HBK := Lib.hid hback
      clear hAr hz k1 k2 k3 k4 k5 k6 hq hu hv hqe hz1 hz2 hback
      by_cases q0 : qe = 0
      · subst q0
        have hb0 := HBK.out rfl
        simp only [Prod.mk.injEq] at hb0
        obtain ⟨rfl, rfl⟩ := hb0
        have cz := HCW.out wr (Below.refl _ _)
        have HBx0 : Hid (Below wr.heap.size wr wr) := Below.refl _ _
        go_wp2_with fail
        refine (K1.out _ (HTr.out.below HBx0.out)).mono ?_
        rintro e x1 ⟨rfl, hb⟩
        have HBx1 : Hid (Below wr.heap.size wr x1) := HBx0.out.trans (hb.mono HBx0.out.size)
        have cz1 := HCW.out _ HBx1.out
        clear hb
        go_wp2_with fail
        refine (K2.out _).mono ?_
        rintro e y2 ⟨rfl, rfl⟩
        go_wp2_with fail
        refine (K3.out _ (HTr.out.below HBx1.out)).mono ?_
        rintro e x2 ⟨rfl, hb⟩
        have HBx2 : Hid (Below wr.heap.size wr x2) := HBx1.out.trans (hb.mono HBx1.out.size)
        have cz2 := HCW.out _ HBx2.out
        clear hb
        go_wp2_with fail
        refine (K4.out _).mono ?_
        rintro e x3 ⟨rfl, hb⟩
        have HBx3 : Hid (Below wr.heap.size wr x3) := HBx2.out.trans (hb.mono HBx2.out.size)
        have cz3 := HCW.out _ HBx3.out
        clear hb
        go_wp2_with fail
        refine (K5.out _ (HTr.out.below HBx3.out)).mono ?_
        rintro e x4 ⟨rfl, hb⟩
        have HBx4 : Hid (Below wr.heap.size wr x4) := HBx3.out.trans (hb.mono HBx3.out.size)
        have cz4 := HCW.out _ HBx4.out
        clear hb
        go_wp2_with fail
        refine (K6.out _).mono ?_
        rintro e x5 ⟨rfl, hb⟩
        have HBx5 : Hid (Below wr.heap.size wr x5) := HBx4.out.trans (hb.mono HBx4.out.size)
        have cz5 := HCW.out _ HBx5.out
        clear hb
        have HRF : Hid (Below w2.heap.size w2 x5) := HR.out.trans (HBx5.out.mono HR.out.size)
        go_wp2
        go_roundw
        case rel => exact ⟨j + 1, by omega, by go_num, HRF⟩
        case measure => simp only [RowKit.intOf, Int.toNat_natCast]; omega
      · have Q0 : (qe == 0) = false := beq_eq_false_iff_ne.2 q0
        clear q0
        have cz := HCW.out wr (Below.refl _ _)
        have HBx0 : Hid (Below wr.heap.size wr wr) := Below.refl _ _
        go_wp2_with fail
        refine (K1.out _ (HTr.out.below HBx0.out)).mono ?_
        rintro e x1 ⟨rfl, hb⟩
        have HBx1 : Hid (Below wr.heap.size wr x1) := HBx0.out.trans (hb.mono HBx0.out.size)
        have cz1 := HCW.out _ HBx1.out
        clear hb
        go_wp2_with fail
        refine (K2.out _).mono ?_
        rintro e y2 ⟨rfl, rfl⟩
        go_wp2_with fail
        refine (K3.out _ (HTr.out.below HBx1.out)).mono ?_
        rintro e x2 ⟨rfl, hb⟩
        have HBx2 : Hid (Below wr.heap.size wr x2) := HBx1.out.trans (hb.mono HBx1.out.size)
        have cz2 := HCW.out _ HBx2.out
        clear hb
        go_wp2_with fail
        refine (K4.out _).mono ?_
        rintro e x3 ⟨rfl, hb⟩
        have HBx3 : Hid (Below wr.heap.size wr x3) := HBx2.out.trans (hb.mono HBx2.out.size)
        have cz3 := HCW.out _ HBx3.out
        clear hb
        go_wp2_with fail
        refine (K5.out _ (HTr.out.below HBx3.out)).mono ?_
        rintro e x4 ⟨rfl, hb⟩
        have HBx4 : Hid (Below wr.heap.size wr x4) := HBx3.out.trans (hb.mono HBx3.out.size)
        have cz4 := HCW.out _ HBx4.out
        clear hb
        go_wp2_with fail
        refine (K6.out _).mono ?_
        rintro e x5 ⟨rfl, hb⟩
        have HBx5 : Hid (Below wr.heap.size wr x5) := HBx4.out.trans (hb.mono HBx4.out.size)
        have cz5 := HCW.out _ HBx5.out
        clear hb
        have HRF : Hid (Below w2.heap.size w2 x5) := HR.out.trans (HBx5.out.mono HR.out.size)
        go_wp2
        go_roundw
        case rel => exact ⟨j + 1, by omega, by go_num, HRF⟩
        case measure => simp only [RowKit.intOf, Int.toNat_natCast]; omega
    · obtain rfl : 2 = j := by omega
      have HTR := Lib.hid (HT2.out.below HR.out)
      go_wp2_with fail
      refine (lives_any _ HTR.out).mono ?_
      rintro e wf ⟨rfl, hbf⟩
      have HFF : Hid (Below w.heap.size w wf) := (HB2.out.trans (HR.out.mono HB2.out.size)).trans (hbf.mono (by have := HR.out.size; have := HB2.out.size; omega))
      clear hbf
      go_wp2
      go_ret
      exact ⟨rfl, HFF.out⟩

end Go.Proofs.YtgfhhpodcnohpaaDoor
