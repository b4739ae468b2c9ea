/- Tokens: the walk of LexerEdits. Conditions: the tables lie in memory. -/
import Derived.Test.YtgfhhpodcnohpaaDoorLEb
import Derived.Test.YtgfhhpodcnohpaaDoorLRg
import Derived.Test.YtgfhhpodcnohpaaDoorLRi
import Derived.Test.YtgfhhpodcnohpaaDoorLLi
import Derived.Test.YtgfhhpodcnohpaaDoorAround
import Derived.Test.YtgfhhpodcnohpaaDoorPOffP
import Derived.BigRegion
namespace Go.Proofs.YtgfhhpodcnohpaaDoor
open Go.RowKit Go.Shelf
set_option linter.unusedVariables false

/-- One edit, as it is written down, lies in memory. -/
theorem es_nl (W : World) (X : Nat) : ES (W.alloc (.cells #[.int .i64 (X : Int), .int .i64 (X : Int), .string ⟨#[10]⟩] 55)).heap.size (W.alloc (.cells #[.int .i64 (X : Int), .int .i64 (X : Int), .string ⟨#[10]⟩] 55)) (some ⟨W.heap.size, 0, none⟩) 1 (nlE X) := by
  have h := World.ownsRow_lit W #[.int .i64 (X : Int), .int .i64 (X : Int), .string ⟨#[10]⟩] 1 (size := 3) (e := 55) (base := W.heap.size) (Nat.le_refl _) (by unfold maxLen; omega) rfl
  obtain ⟨_, a, c, hv, hs⟩ := es_of_own (es := nlE X) h
  simp only [Value.slice.injEq] at hv
  obtain ⟨rfl, _, rfl⟩ := hv
  exact hs
theorem apply_nl (s : ByteArray) (X : Nat) (hs : s.size ≤ 100000) (hX : X ≤ s.size) (W : World) :
    Calls Tryd.prog 36 #[.string s, .slice (some ⟨W.heap.size, 0, none⟩) 1 1] (W.alloc (.cells #[.int .i64 (X : Int), .int .i64 (X : Int), .string ⟨#[10]⟩] 55)) fun e w' => e = .returned (.tuple #[.string (apS s (nlE X)), .int .i64 0]) ∧ Below W.heap.size W w' := by
  have hap := papply_any s (some ⟨W.heap.size, 0, none⟩) 1 (nlE X) _ (by omega) (by simp [nlE]) (nlE_fit (by omega)) (es_nl W X)
  rw [nlE_err hX] at hap
  refine hap.mono ?_
  rintro e w' ⟨rfl, hb⟩
  have h0 : Below W.heap.size W (W.alloc (.cells #[.int .i64 (X : Int), .int .i64 (X : Int), .string ⟨#[10]⟩] 55)) := (Below.refl _ _).alloc (Nat.le_refl _) _
  exact ⟨rfl, h0.trans (hb.mono h0.size)⟩
set_option maxRecDepth 100000 in
set_option maxHeartbeats 16000000 in
theorem walkEdits (a : Option Addr) (cap : Nat) (ls : List Int) (y : Int) (w : World) (hT : LexW w)
    (h : Sli .i64 w a cap ls) (hi : ∀ n ∈ ls, -9223372036854775808 ≤ n ∧ n ≤ 9223372036854775807) (hy1 : -9223372036854775808 ≤ y) (hy2 : y ≤ 9223372036854775807) :
    Calls Tryd.prog 10 #[.slice a ls.length cap, .int .i64 y] w fun e w' => e = .returned (.bool true) ∧ Below w.heap.size w w' := by
  have c1 := source_any a cap ls w h hi
  have C1 := Lib.hid c1
  have HT := Lib.hid hT
  clear c1 h hi hT
  go_enter Tryd.func10, Tryd.ntmps10
  go_wp2_with fail
  refine C1.out.mono ?_
  rintro e w1 ⟨T, rfl, hTl, hb1⟩
  have HB1 := Lib.hid hb1
  have HT1 := Lib.hid (HT.out.below hb1)
  have cP := ptoks_any T (by omega) w1 HT1.out.t
  have hlen := lex_len (sb T).length (sb T) 0
  rw [show lexF (sb T).length (sb T) 0 = lex (sb T) 0 from rfl, sb_len] at hlen
  have hpk := edit_pack T
  have hemp : (lex (sb T) 0).length = 0 → T = ⟨#[]⟩ := fun e => by
    apply sbInj
    by_cases h0 : sb T = []
    · exact h0
    · rw [lex_step h0] at e; simp at e
  obtain ⟨L, hL⟩ : ∃ L, lex (sb T) 0 = L := ⟨_, rfl⟩
  rw [hL] at cP hlen hpk hemp
  have CP := Lib.hid cP
  have HPK := Lib.hid hpk
  clear cP hpk hb1
  go_wp2_with fail
  refine CP.out.mono ?_
  rintro e w2 ⟨u, rfl, hown, hb2⟩
  have HO := Lib.hid hown
  obtain ⟨a2, cp2, rfl, hcl⟩ := trow hown rfl
  have HCL := Lib.hid hcl
  have HB2 := Lib.hid (HB1.out.trans (hb2.mono HB1.out.size))
  have HT2 := Lib.hid (HT1.out.below hb2)
  obtain ⟨n, hn⟩ : ∃ n, L.length = n := ⟨_, rfl⟩
  rw [hn] at HCL HPK hlen hemp HO ⊢
  have HN := Lib.hid hn
  clear hown hcl hb2 hn
  by_cases h0 : n = 0
  · subst h0
    have hT0 := hemp rfl
    subst hT0
    have cL := lives_any w2 HT2.out
    have CL := Lib.hid cL
    clear cL
    go_wp2_with fail
    refine CL.out.mono ?_
    rintro e w3 ⟨rfl, hb3⟩
    have HB3 := Lib.hid (HB2.out.trans (hb3.mono HB2.out.size))
    clear hb3
    go_wp2
    go_ret
    exact ⟨rfl, HB3.out⟩
  · have hnz : ¬ (n : Int) = 0 := by omega
    obtain ⟨g, rfl, hg, hcell⟩ := HCL.out (by omega)
    have cAr := around_any y n w2 hy1 hy2 (by omega) (by omega)
    have CAR := Lib.hid cAr
    have HCELL := Lib.hid hcell
    clear hemp HCL hcell cAr
    go_wp2_with fail
    refine CAR.out.mono ?_
    rintro e w' ⟨k, hk, rfl, rfl⟩
    obtain ⟨d0, d1, d2⟩ := HCELL.out w2 rfl k hk
    obtain ⟨X, hX, hXs, hAt, hsz, hll, hkt⟩ := HPK.out k hk
    rw [hX] at d2
    have hkz : (0 : Int) ≤ (k : Int) := by omega
    have hkn : (k : Int) < (n : Int) := by omega
    obtain ⟨x0, hx0⟩ : ∃ x, (tg L k).1 = x := ⟨_, rfl⟩
    obtain ⟨x1, hx1⟩ : ∃ x, tbs (tg L k).2.1 = x := ⟨_, rfl⟩
    rw [hx0] at d0
    rw [hx1] at d1
    have hAo : ∀ (l u : Nat) (e : Int), AtSpec (sb T) (X : Int) l u e → (l : Int) ≤ 9223372036854775807 ∧ (u : Int) ≤ 9223372036854775807 := fun l u e h => by
      rcases h with ⟨rfl, rfl, rfl, h⟩ | ⟨rfl, rfl, rfl, i, hi, h1, h2⟩ | ⟨rfl, i, hi, h⟩
      · exact ⟨by omega, by omega⟩
      · exact ⟨by omega, by omega⟩
      · have h1 := h.1
        obtain ⟨U, h1⟩ := h1
        have h2 := h1.le
        have h3 := (lf_le (sb T) i).2
        have h4 := (lf_le (sb T) i).1
        have h5 := h.2.1
        have h6 := h.2.2.le
        rw [sb_len] at h2
        have h7 := h.2.2.unis_take
        have h8 := unis_le ((List.drop (lf (sb T) i).2 (sb T)).take (i - (lf (sb T) i).2))
        rw [h7, List.length_take] at h8
        exact ⟨by omega, by omega⟩
    have HAT := Lib.hid hAt
    have HAO := Lib.hid hAo
    have HLL := Lib.hid hll
    have HKT := Lib.hid hkt
    have CPA := Lib.hid (fun W => pat_any T (X : Int) W (by omega) (by omega) (by omega))
    have CAP := Lib.hid (fun W => apply_nl T X (by omega) hXs W)
    clear hAt hAo hll hkt hX hx0 hx1
    obtain ⟨W3, hW3⟩ : ∃ W, w2.alloc (.cells #[.int .i64 x0, .string x1, .int .i64 (X : Int)] 31) = W := ⟨_, rfl⟩
    have hrow3 : Blk W3 w2.heap.size 31 #[.int .i64 x0, .string x1, .int .i64 (X : Int)] := by rw [← hW3]; exact Blk.new _ _ _
    have hb3 : Below w2.heap.size w2 W3 := by rw [← hW3]; exact (Below.refl _ _).alloc (Nat.le_refl _) _
    obtain ⟨A3, hA3⟩ : ∃ A, w2.heap.size = A := ⟨_, rfl⟩
    rw [hA3] at hrow3
    have HROW := Lib.hid hrow3
    have HA3 := Lib.hid hA3
    have HW3 := Lib.hid hW3
    have HB3 := Lib.hid hb3
    have e2 : W3.cell? ⟨A3, 2, none⟩ = some (.int .i64 (X : Int)) := HROW.out.cell 2
    clear hW3 hA3 hrow3 hb3
    go_wp2_with fail
    rw [HA3.out, show w2.alloc (.cells #[.int .i64 x0, .string x1, .int .i64 (X : Int)] 31) = W3 from HW3.out]
    go_wp2_with fail
    refine (CPA.out _).mono ?_
    rintro e w4 ⟨l, q, er, rfl, hat, hb4⟩
    obtain ⟨rfl, hoff⟩ := HAT.out l q er hat
    obtain ⟨hl2, hq2⟩ := HAO.out l q 0 hat
    have HOFF := Lib.hid hoff
    have CPO := Lib.hid (fun W => poff_any T (l : Int) (q : Int) W (by omega) ⟨by omega, hl2⟩ ⟨by omega, hq2⟩)
    have HB4 := Lib.hid (HB3.out.trans (hb4.mono HB3.out.size))
    have hz4 := HB4.out.size
    have hA3w := HA3.out
    have HR4 : Hid (Blk w4 A3 31 #[.int .i64 x0, .string x1, .int .i64 (X : Int)]) := Blk.same HROW.out (hb4.block A3 (Blk.lt HROW.out))
    have hA34 : A3 < w4.heap.size := Blk.lt HR4.out
    obtain ⟨W5, hW5⟩ : ∃ W, w4.alloc (.cells #[.int .i64 (l : Int), .int .i64 (q : Int)] 48) = W := ⟨_, rfl⟩
    have hrow5 : Blk W5 w4.heap.size 48 #[.int .i64 (l : Int), .int .i64 (q : Int)] := by rw [← hW5]; exact Blk.new _ _ _
    have hb5 : Below w4.heap.size w4 W5 := by rw [← hW5]; exact (Below.refl _ _).alloc (Nat.le_refl _) _
    have HR5 : Hid (Blk W5 A3 31 #[.int .i64 x0, .string x1, .int .i64 (X : Int)]) := Blk.same HR4.out (hb5.block A3 hA34)
    have HB5 := Lib.hid (HB4.out.trans (hb5.mono hz4))
    have HW5 := Lib.hid hW5
    obtain ⟨A5, hA5⟩ : ∃ A, w4.heap.size = A := ⟨_, rfl⟩
    rw [hA5] at hrow5
    have HA5 := Lib.hid hA5
    have q0 : W5.cell? ⟨A5, 0, none⟩ = some (.int .i64 (l : Int)) := hrow5.cell 0
    have q1 : W5.cell? ⟨A5, 1, none⟩ = some (.int .i64 (q : Int)) := hrow5.cell 1
    clear hrow5 hb5 hW5 hA5 hA34 hoff hat hb4 hz4 hA3w e2
    go_wp2_with fail
    rw [HA5.out, show w4.alloc (.cells #[.int .i64 (l : Int), .int .i64 (q : Int)] 48) = W5 from HW5.out]
    go_wp2_with fail
    refine (CPO.out _).mono ?_
    rintro e w6 ⟨o, er, rfl, hof, hb6⟩
    obtain ⟨rfl, rfl⟩ := HOFF.out o er hof
    have HB6 := Lib.hid (HB5.out.trans (hb6.mono HB5.out.size))
    have HR6 : Hid (Blk w6 A3 31 #[.int .i64 x0, .string x1, .int .i64 (o : Int)]) := Blk.same HR5.out (hb6.block A3 (Blk.lt HR5.out))
    have e6 : w6.cell? ⟨A3, 2, none⟩ = some (.int .i64 (o : Int)) := Blk.cell HR6.out 2
    clear hof hb6
    go_wp2_with fail
    refine (CAP.out _).mono ?_
    rintro e w7 ⟨rfl, hb7⟩
    obtain ⟨Y, hY⟩ : ∃ Y, apS T (nlE o) = Y := ⟨_, rfl⟩
    rw [hY] at hsz HLL HKT ⊢
    have HB7 := Lib.hid (HB6.out.trans (hb7.mono HB6.out.size))
    have e7 : w7.cell? ⟨A3, 2, none⟩ = some (.int .i64 (o : Int)) := Blk.cell (Blk.same HR6.out (hb7.block A3 (Blk.lt HR6.out))) 2
    have HO7 : Hid (w7.ownsRow w1.heap.size 31 3 (.slice (some ⟨g, 0, none⟩) n cp2) n (tks L)) := own_same HO.out (fun g hg => HB7.out.block g (HO.out.lt g hg).2)
    have hlN := HN.out
    have CS1 := Lib.hid (fun u b1 W h => rsolid_any L u b1 W (by omega) h)
    rw [hlN] at CS1
    have CT2 := Lib.hid (fun W h => ptoks_any Y (by omega) W h)
    have hlen2 := lex_len (sb Y).length (sb Y) 0
    rw [show lexF (sb Y).length (sb Y) 0 = lex (sb Y) 0 from rfl, sb_len] at hlen2
    obtain ⟨M, hM⟩ : ∃ M, lex (sb Y) 0 = M := ⟨_, rfl⟩
    rw [hM] at hlen2 HLL HKT CT2
    have CS2 := Lib.hid (fun u b1 W h => rsolid_any M u b1 W (by omega) h)
    have hsA := sol_len L
    have hsB := sol_len M
    obtain ⟨A, hA⟩ : ∃ A, sol L = A := ⟨_, rfl⟩
    obtain ⟨B, hB⟩ : ∃ B, sol M = B := ⟨_, rfl⟩
    rw [hA] at hsA CS1 HLL HKT
    rw [hB] at hsB CS2 HLL HKT
    have hAn : A.length ≤ 400 := by omega
    obtain ⟨m, hm⟩ : ∃ m, A.length = m := ⟨_, rfl⟩
    have hm2 : B.length = m := HLL.out.symm.trans hm
    have HM1 := Lib.hid hm
    have HM2 := Lib.hid hm2
    rw [hm] at hAn
    unfold NewTs at CS1 CS2 CT2
    rw [hm] at CS1
    rw [hm2] at CS2
    have HT7 := Lib.hid (HT2.out.t.below HB7.out)
    clear hb7 hlN hlen2 hsA hsB hA hB hm hm2 hY hM
    go_wp2_with fail
    refine (CS1.out _ _ _ HO7.out).mono ?_
    rintro e w8 ⟨u8, rfl, hown8, hb8⟩
    have HB8 := Lib.hid (HB7.out.trans (hb8.mono HB7.out.size))
    have HO8 := Lib.hid hown8
    have HT8 := Lib.hid (HT7.out.below hb8)
    obtain ⟨ga, ca, rfl, hclA⟩ := trow hown8 HM1.out
    clear hown8 hb8
    go_wp2_with fail
    refine (CT2.out _ HT8.out).mono ?_
    rintro e w9 ⟨u9, rfl, hown9, hb9⟩
    have HB9 := Lib.hid hb9
    have HO9 := Lib.hid hown9
    clear hown9 hb9
    go_wp2_with fail
    refine (CS2.out _ _ _ HO9.out).mono ?_
    rintro e w10 ⟨u10, rfl, hown10, hb10⟩
    have HB810 := Lib.hid (HB9.out.trans (hb10.mono HB9.out.size))
    have HB10 := Lib.hid (HB8.out.trans (HB810.out.mono HB8.out.size))
    have HT10 := Lib.hid (HT2.out.below HB10.out)
    obtain ⟨gb, cb, rfl, hclB⟩ := trow hown10 HM2.out
    have HCA : Hid (∀ k, k < m → ∃ ba bb x0 x1, ga = some ⟨ba, 0, none⟩ ∧ gb = some ⟨bb, 0, none⟩ ∧ ∀ W, Below w10.heap.size w10 W → W.cell? ⟨ba, k * 3, none⟩ = some (.int .i64 x0) ∧ W.cell? ⟨ba, k * 3 + 1, none⟩ = some (.string x1) ∧ W.cell? ⟨bb, k * 3, none⟩ = some (.int .i64 x0) ∧ W.cell? ⟨bb, k * 3 + 1, none⟩ = some (.string x1)) := Lib.hid fun k hk => by
      obtain ⟨ba, hba, hbl, hA⟩ := hclA (by omega)
      obtain ⟨bb, hbb, hbl2, hB⟩ := hclB (by omega)
      obtain ⟨t1, t2⟩ := HKT.out k
      refine ⟨ba, bb, (tg A k).1, tbs (tg A k).2.1, hba, hbb, fun W hW => ?_⟩
      have s8 := HB810.out.size
      obtain ⟨p0, p1, _⟩ := hA W ((hW.block ba (by omega)).trans (HB810.out.block ba hbl)) k hk
      obtain ⟨r0, r1, _⟩ := hB W (hW.block bb hbl2) k hk
      rw [← t1] at r0
      rw [← t2] at r1
      exact ⟨p0, p1, r0, r1⟩
    clear hown10 hb10 hclA hclB
    go_wp2_with fail
    go_loopw [16] (fun v16 wr => ∃ k : Nat, v16 = .int .i64 (k : Int) ∧ k ≤ m ∧ Hid (Below w10.heap.size w10 wr)) (fun v16 _ => m - (intOf v16).toNat)
    case atStart => exact ⟨0, rfl, Nat.zero_le _, Below.refl _ _⟩
    case round =>
      obtain ⟨k, rfl, hk3, HR⟩ := hrel
      by_cases hlt : k < m
      · have hltz : (k : Int) < (m : Int) := by omega
        have hk0 : (0 : Int) ≤ (k : Int) := by omega
        obtain ⟨ba, bb, z0, z1, rfl, rfl, hc⟩ := HCA.out k hlt
        obtain ⟨p0, p1, r0, r1⟩ := hc wr HR.out
        have Q0 : (z0 == z0) = true := beq_self_eq_true _
        have Q1 : (z1.toList == z1.toList) = true := beq_self_eq_true _
        clear hc
        go_wp2_with fail
        go_quiet (fail)
        go_wp2
        go_roundw
        case rel => exact ⟨k + 1, by go_num, by omega, below_drewN HR.out _⟩
        case measure => simp only [RowKit.intOf, Int.toNat_natCast]; omega
      · obtain rfl : m = k := by omega
        have cL := lives_any wr (HT10.out.below HR.out)
        have CL := Lib.hid cL
        clear cL
        go_wp2_with fail
        refine CL.out.mono ?_
        rintro e w11 ⟨rfl, hb11⟩
        have HB11 := Lib.hid ((HB10.out.trans (HR.out.mono HB10.out.size)).trans (hb11.mono (Nat.le_trans HB10.out.size HR.out.size)))
        clear hb11
        go_wp2
        go_ret
        exact ⟨rfl, HB2.out.trans (HB11.out.mono HB2.out.size)⟩

end Go.Proofs.YtgfhhpodcnohpaaDoor
