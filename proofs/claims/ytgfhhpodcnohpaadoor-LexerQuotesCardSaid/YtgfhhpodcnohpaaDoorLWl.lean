/- Tokens: the walk of LexerLocal. Conditions: the tables lie in memory. -/
import Derived.Test.YtgfhhpodcnohpaaDoorLWt
import Derived.Test.YtgfhhpodcnohpaaDoorLMd
namespace Go.Proofs.YtgfhhpodcnohpaaDoor
open Go.RowKit Go.Shelf
set_option linter.unusedVariables false

/-- Two texts in a block of their own. -/
structure TwoT (w : World) (X : Nat) (D : Nat → ByteArray) : Prop where
  lt : X < w.heap.size
  cell : ∀ j, j < 2 → w.cell? ⟨X, j, none⟩ = some (.string (D j))
  size : ∀ j, j < 2 → (D j).size ≤ 400
theorem twoT_new (w : World) (S T : ByteArray) (hS : S.size ≤ 400) (hT : T.size ≤ 400) : TwoT (w.alloc (.cells #[.string S, .string T] 9)) w.heap.size (fun j => if j = 0 then S else T) := by
  have bX : Blk (w.alloc (.cells #[.string S, .string T] 9)) w.heap.size 9 #[.string S, .string T] := Blk.new _ _ _
  refine ⟨by simp, fun j hj => ?_, fun j hj => ?_⟩
  · have : j = 0 ∨ j = 1 := by omega
    rcases this with rfl | rfl
    · exact bX.cell 0
    · exact bX.cell 1
  · show (if j = 0 then S else T).size ≤ 400
    split
    · exact hS
    · exact hT
theorem TwoT.below {w w' : World} {X : Nat} {D : Nat → ByteArray} (h : TwoT w X D) (hb : Below w.heap.size w w') : TwoT w' X D :=
  ⟨Nat.lt_of_lt_of_le h.lt hb.size, fun j hj => (hb.cell (p := ⟨X, j, none⟩) h.lt).trans (h.cell j hj), h.size⟩

def adL : Op := Op.binOp .add 9 (Operand.tmp 37) (Operand.tmp 41) 9
set_option maxRecDepth 100000 in
set_option maxHeartbeats 8000000 in
theorem walkLocal (s t : ByteArray) (a : Option Addr) (cap : Nat) (ls : List Int) (b : Option Addr) (capb : Nat) (ms : List Int) (w : World) (hT : LexW w) (hs : s.size ≤ 9223372036854775807) (ht : t.size ≤ 9223372036854775807)
    (h : Sli .i64 w a cap ls) (hi : ∀ n ∈ ls, -9223372036854775808 ≤ n ∧ n ≤ 9223372036854775807) (h2 : Sli .i64 w b capb ms) (hi2 : ∀ n ∈ ms, -9223372036854775808 ≤ n ∧ n ≤ 9223372036854775807) :
    Calls Tryd.prog 8 #[.string s, .string t, .slice a ls.length cap, .slice b ms.length capb] w fun e w' => e = .returned (.bool true) ∧ Below w.heap.size w w' := by
  have c1 := source_any a cap ls w h hi
  have c2 := fun W (hb : Below w.heap.size w W) => source_any b capb ms W (h2.below hb) hi2
  have C1 := Lib.hid c1
  have C2 := Lib.hid c2
  have HT := Lib.hid hT
  obtain ⟨S, hS⟩ : ∃ S, shS s 40 = S := ⟨_, rfl⟩
  have cS := fun W => short_any s 40 W hs (by omega)
  have hSl : S.size ≤ 40 := by rw [← hS]; exact shS_size s 40
  rw [hS] at cS
  have CS := Lib.hid cS
  obtain ⟨S2, hS2⟩ : ∃ S, shS t 40 = S := ⟨_, rfl⟩
  have cS2 := fun W => short_any t 40 W ht (by omega)
  have hSl2 : S2.size ≤ 40 := by rw [← hS2]; exact shS_size t 40
  rw [hS2] at cS2
  have CS2 := Lib.hid cS2
  clear c1 c2 h hi hT h2 hi2 cS hS cS2 hS2
  go_enter Tryd.func8, Tryd.ntmps8
  go_wp2_with fail
  refine (CS.out _).mono ?_
  rintro e w' ⟨rfl, rfl⟩
  go_wp2_with fail
  refine C1.out.mono ?_
  rintro e w1 ⟨T, rfl, hTl, hb1⟩
  obtain ⟨w2, hw2⟩ : ∃ W, w1.alloc (.cells #[.string S, .string T] 9) = W := ⟨_, rfl⟩
  have hA := twoT_new w1 S T (by omega) hTl
  have hbw := (Below.refl w1.heap.size w1).alloc (Nat.le_refl _) (.cells #[.string S, .string T] 9)
  rw [hw2] at hA hbw
  obtain ⟨X, hX⟩ : ∃ X, w1.heap.size = X := ⟨_, rfl⟩
  rw [hX] at hA
  obtain ⟨DA, hDA⟩ : ∃ D, (fun j => if j = 0 then S else T) = D := ⟨_, rfl⟩
  rw [hDA] at hA
  have HA := Lib.hid hA
  have HB2 := Lib.hid (hb1.trans (hbw.mono hb1.size))
  have HW2 := Lib.hid hw2
  have HX := Lib.hid hX
  clear hA hbw hw2 hX hb1 hDA
  go_wp2_with fail
  rw [HX.out, show w1.alloc (.cells #[.string S, .string T] 9) = w2 from HW2.out]
  refine (CS2.out _).mono ?_
  rintro e w' ⟨rfl, rfl⟩
  go_wp2_with fail
  refine (C2.out _ HB2.out).mono ?_
  rintro e w3 ⟨T2, rfl, hTl2, hb3⟩
  obtain ⟨w4, hw4⟩ : ∃ W, w3.alloc (.cells #[.string S2, .string T2] 9) = W := ⟨_, rfl⟩
  have hB := twoT_new w3 S2 T2 (by omega) hTl2
  have hbw := (Below.refl w3.heap.size w3).alloc (Nat.le_refl _) (.cells #[.string S2, .string T2] 9)
  rw [hw4] at hB hbw
  obtain ⟨Y, hY⟩ : ∃ Y, w3.heap.size = Y := ⟨_, rfl⟩
  rw [hY] at hB
  obtain ⟨DB, hDB⟩ : ∃ D, (fun j => if j = 0 then S2 else T2) = D := ⟨_, rfl⟩
  rw [hDB] at hB
  have HBB := Lib.hid hB
  have HA4 := Lib.hid ((HA.out.below hb3).below hbw)
  have HB4 := Lib.hid ((HB2.out.trans (hb3.mono HB2.out.size)).trans (hbw.mono (Nat.le_trans HB2.out.size hb3.size)))
  have HT4 := Lib.hid (HT.out.below HB4.out)
  have HW4 := Lib.hid hw4
  have HY := Lib.hid hY
  clear hB hbw hw4 hY hb3 hDB
  go_wp2_with fail
  rw [HY.out, show w3.alloc (.cells #[.string S2, .string T2] 9) = w4 from HW4.out]
  go_loopw [11] (fun i wr => ∃ j : Nat, j ≤ 2 ∧ i = .int .i64 j ∧ Hid (Below w4.heap.size w4 wr)) (fun i _ => 2 - (intOf i).toNat)
  case atStart => exact ⟨0, by omega, rfl, Below.refl _ _⟩
  case round =>
    obtain ⟨j, hj, rfl, HR⟩ := hrel
    by_cases hlt : j < 2
    · have hAr := HA4.out.below HR.out
      have hBr := HBB.out.below HR.out
      have hxa := hAr.cell j hlt
      have hsa := hAr.size j hlt
      have hsb := hBr.size j hlt
      obtain ⟨xa, hxa0⟩ : ∃ x, DA j = x := ⟨_, rfl⟩
      obtain ⟨xb, hxb0⟩ : ∃ x, DB j = x := ⟨_, rfl⟩
      rw [hxa0] at hxa hsa
      rw [hxb0] at hsb
      have HCA : Hid (∀ W, Below wr.heap.size wr W → W.cell? ⟨X, j, none⟩ = some (.string xa) ∧ W.cell? ⟨Y, j, none⟩ = some (.string xb)) := Lib.hid fun W hW => ⟨by rw [← hxa0]; exact (hAr.below hW).cell j hlt, by rw [← hxb0]; exact (hBr.below hW).cell j hlt⟩
      have HTr := Lib.hid (HT4.out.t.below HR.out)
      have k1 := ptoks_any xa (by omega) wr HTr.out
      have k2 := fun W h => ptoks_any (xa ++ xb) (by rw [ByteArray.size_append]; omega) W h
      have hap := lex_app (sb xa).length (sb xa) (sb xb) 0 (Nat.le_refl _)
      rw [← sb_append] at hap
      have hLl := lex_len (sb (xa ++ xb)).length (sb (xa ++ xb)) 0
      rw [sb_len, ByteArray.size_append] at hLl
      obtain ⟨L, hL⟩ : ∃ L, lex (sb xa) 0 = L := ⟨_, rfl⟩
      obtain ⟨M, hM⟩ : ∃ L, lex (sb (xa ++ xb)) 0 = L := ⟨_, rfl⟩
      rw [show lexF (xa.size + xb.size) (sb (xa ++ xb)) 0 = M by rw [← hM]; unfold lex; rw [sb_len, ByteArray.size_append]] at hLl
      rw [hL, hM] at hap
      rw [hL] at k1
      rw [hM] at k2
      unfold NewTs at k1 k2
      have K1 := Lib.hid k1
      have K2 := Lib.hid k2
      obtain ⟨n, hn⟩ : ∃ n, L.length = n := ⟨_, rfl⟩
      obtain ⟨m, hm⟩ : ∃ n, M.length = n := ⟨_, rfl⟩
      have HAP : Hid (∀ k, k + 1 < n → tg M k = tg L k) := Lib.hid fun k hk => by unfold tg; rw [hap.2 k (by omega)]
      have hnm : n ≤ m := by rw [← hn, ← hm]; exact hap.1
      have HN := Lib.hid hn
      have HM := Lib.hid hm
      rw [hm] at hLl
      have hjj : (j : Int) < 2 := by omega
      have hcat : xa.size + xb.size ≤ 9223372036854775807 := by omega
      clear hAr hBr k1 k2 hap hL hM hxa0 hxb0
      go_wp2_with fail
      refine K1.out.mono ?_
      rintro e w5 ⟨u, rfl, hown, hb5⟩
      rw [HN.out] at hown
      obtain ⟨av, cv, rfl, hcl⟩ := trow hown HN.out
      have HCL := Lib.hid hcl
      have HB5 := Lib.hid hb5
      have hsz5 := hb5.size
      have HT5 := Lib.hid (HTr.out.below hb5)
      obtain ⟨q1, q2⟩ := HCA.out w5 hb5
      clear hcl hb5 hown hn hm hxa
      go_wp2_with fail
      have hcA : adL = Op.binOp .add 9 (Operand.tmp 37) (Operand.tmp 41) 9 := rfl
      rw [← hcA]
      go_region_held3 (fun w' => w'.cell? ⟨X, j, none⟩ = some (.string xa) ∧ w'.cell? ⟨Y, j, none⟩ = some (.string xb)) (first | exact ⟨q1, q2⟩ | exact cD)
        (first | (go_at_call 14; refine (K2.out _ (HT5.out.below (Below.refl _ _).drew)).mono ?_; rintro e w6 ⟨u6, rfl, hown6, hb6⟩; have cD : w6.cell? ⟨X, j, none⟩ = some (.string xa) ∧ w6.cell? ⟨Y, j, none⟩ = some (.string xb) := HCA.out w6 (HB5.out.trans (((Below.refl w5.heap.size w5).drew.trans (hb6.mono (Nat.le_refl _))).mono hsz5)); have HB6 : Hid (Below w5.heap.size w5 w6) := (Below.refl w5.heap.size w5).drew.trans (hb6.mono (Nat.le_refl _)); have HO6 := Lib.hid hown6; clear hown6 hb6))
      rw [HM.out] at HO6
      obtain ⟨av6, cv6, rfl, hcl6⟩ := trow HO6.out HM.out
      have HCL6 := Lib.hid hcl6
      have hmn : ¬ (m : Int) < (n : Int) := by omega
      have hsz6 := HB6.out.size
      clear hcl6 HO6
      go_wp2_with fail
      go_loopw [14] (fun v14 wr => ∃ k : Nat, v14 = .int .i64 (k : Int) ∧ k ≤ n ∧ Hid (Below w6.heap.size w6 wr)) (fun v14 _ => n - (intOf v14).toNat)
      case atStart => exact ⟨0, rfl, Nat.zero_le _, Below.refl _ _⟩
      case round =>
        obtain ⟨k, rfl, hk, HI⟩ := hrel
        by_cases hkn : k + 1 < n
        · obtain ⟨g, hg0, hg, hcell⟩ := HCL.out (by omega)
          subst hg0
          obtain ⟨g6, hg60, hg6, hcell6⟩ := HCL6.out (by omega)
          subst hg60
          obtain ⟨c0, c1, c2⟩ := hcell wr ((HI.out.block g (by omega)).trans (HB6.out.block g hg)) k (by omega)
          obtain ⟨d0, d1, d2⟩ := hcell6 wr (HI.out.block g6 hg6) k (by omega)
          rw [HAP.out k hkn] at d0 d1 d2
          obtain ⟨x0, hx0⟩ : ∃ x, (tg L k).1 = x := ⟨_, rfl⟩
          obtain ⟨x1, hx1⟩ : ∃ x, tbs (tg L k).2.1 = x := ⟨_, rfl⟩
          obtain ⟨x2, hx2⟩ : ∃ x, (tg L k).2.2 = x := ⟨_, rfl⟩
          rw [hx0] at c0 d0
          rw [hx1] at c1 d1
          rw [hx2] at c2 d2
          have hkk : (k : Int) + 1 < (n : Int) := by omega
          have hkk2 : (k : Int) < (n : Int) := by omega
          have hkk3 : (k : Int) < (m : Int) := by omega
          clear hcell hcell6 hx0 hx1 hx2
          go_wp2_with fail
          go_quiet (fail)
          go_wp2
          go_roundw
          case rel => exact ⟨k + 1, by go_num, by omega, below_drewN HI.out _⟩
          case measure => simp only [RowKit.intOf, Int.toNat_natCast]; omega
        · have hkk : ¬ (k : Int) + 1 < (n : Int) := by omega
          have HRI : Hid (Below w4.heap.size w4 wr) := HR.out.trans (((HB5.out.trans (HB6.out.mono hsz5)).trans (HI.out.mono (by omega))).mono HR.out.size)
          go_wp2
          go_roundw
          case rel => exact ⟨j + 1, by omega, by go_num, HRI⟩
          case measure => simp only [RowKit.intOf, Int.toNat_natCast]; omega
    · obtain rfl : 2 = j := by omega
      have HTR := Lib.hid (HT4.out.below HR.out)
      go_wp2_with fail
      refine (lives_any _ HTR.out).mono ?_
      rintro e wf ⟨rfl, hbf⟩
      have HFF : Hid (Below w.heap.size w wf) := (HB4.out.trans (HR.out.mono HB4.out.size)).trans (hbf.mono (by have := HR.out.size; have := HB4.out.size; omega))
      clear hbf
      go_wp2
      go_ret
      exact ⟨rfl, HFF.out⟩

end Go.Proofs.YtgfhhpodcnohpaaDoor
