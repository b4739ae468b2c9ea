/- For every string (its first 40 bytes) and every generated text, Offset inverts At wherever At has no error, and At inverts Offset for every position in the text (P3.6). It has no conditions. The frame below is the guide's shell. -/
import Derived.Test.YthjedecfpedjbaaRows
import Derived.Test.YthjedecfpedjbaaPLives
import Derived.Test.YthjedecfpedjbaaPText
import Derived.Test.YthjedecfpedjbaaPOrd
import Derived.Test.YthjedecfpedjbaaPCnt
import Derived.Test.YthjedecfpedjbaaShort
import Derived.Test.YthjedecfpedjbaaSameInts
import Derived.Test.YthjedecfpedjbaaWf
import Derived.Test.YthjedecfpedjbaaAround
import Derived.WalkKit
import Derived.ProofKit
import Derived.OpenShut
import Derived.ShutString
import Derived.ChangeOld
import Derived.Below
namespace Go.Proofs.Ythjedecfpedjbaa.positionRound
open Go.ChangeShapes Go.WideShapes Go.ChangeAt Go.RowKit
open Go.ChangeMaps (open_string shut_string)
set_option linter.unusedVariables false

theorem own : ownKnob Try.prog.godebug = none := by kernel_rfl
theorem laidOut : laidOutB Try.prog = true := by kernel_rfl

set_option maxRecDepth 100000 in
set_option maxHeartbeats 8000000 in
theorem walkB (s : ByteArray) (a : Option Addr) (cap : Nat) (ls : List Int) (w : World) (hs : s.size ≤ 9223372036854775807) (h : Sli .i64 w a cap ls) (hi : ∀ n ∈ ls, -9223372036854775808 ≤ n ∧ n ≤ 9223372036854775807) :
    Calls Try.prog 7 #[.string s, .slice a ls.length cap] w fun e w' => e = .returned (.bool true) ∧ Below w.heap.size w w' := by
  obtain ⟨B, hB⟩ : ∃ B, w.heap.size = B := ⟨_, rfl⟩
  have c1 := rtext_any a cap ls w h hi
  rw [hB] at c1
  have C1 := Lib.hid c1; have HB := Lib.hid hB
  clear c1 h hi hB
  obtain ⟨S, hS⟩ : ∃ S, shS s 40 = S := ⟨_, rfl⟩
  have cS := fun W => short_any s 40 W hs (by omega)
  have hSl : S.size ≤ 40 := by rw [← hS]; exact shS_size s 40
  rw [hS] at cS
  have CS := Lib.hid cS
  clear cS hS
  go_enter Try.func7, Try.ntmps7
  go_wp2_with fail
  refine (CS.out _).mono ?_
  rintro e w' ⟨rfl, rfl⟩
  go_wp2_with fail
  refine C1.out.mono ?_
  rintro e w1 ⟨T, rfl, hTl, hTw, hb1⟩
  obtain ⟨w2, hw2⟩ : ∃ W, w1.alloc (.cells #[.string S, .string T] 9) = W := ⟨_, rfl⟩
  obtain ⟨X, hX⟩ : ∃ X, w1.heap.size = X := ⟨_, rfl⟩
  have bX : Blk w2 X 9 #[.string S, .string T] := by rw [← hw2, ← hX]; exact Blk.new _ _ _
  have hb2 : Below B w w2 := by rw [← hw2]; exact hb1.alloc (by have := hb1.size; have := HB.out; omega) _
  have hs2 : w2.heap.size = X + 1 := by rw [← hw2, World.size_alloc, hX]
  have HDT : Hid (∀ j, j < 2 → ∃ z, w2.cell? ⟨X, j, none⟩ = some (.string z) ∧ z.size ≤ 100) := by
    intro j hj
    have : j = 0 ∨ j = 1 := by omega
    rcases this with rfl | rfl
    · exact ⟨S, bX.cell 0, by omega⟩
    · exact ⟨T, bX.cell 1, by omega⟩
  have HX := Lib.hid hX; have HW2 := Lib.hid hw2; have HS2 := Lib.hid hs2; have HB2 := Lib.hid hb2
  clear hX hw2 bX hs2 hb2 hb1 hTw
  go_wp2_with fail
  rw [HX.out, show w1.alloc (.cells #[.string S, .string T] 9) = w2 from HW2.out]
  go_loopw [6] (fun i wr => ∃ j : Nat, j ≤ 2 ∧ i = .int .i64 j ∧ Hid (Below w2.heap.size w2 wr)) (fun i _ => 2 - (intOf i).toNat)
  case atStart => exact ⟨0, by omega, rfl, Below.refl _ _⟩
  case round =>
    obtain ⟨j, hj, rfl, HR⟩ := hrel
    by_cases hlt : j < 2
    · obtain ⟨z, hc, hzl⟩ := HDT.out j hlt
      have hjj : (j : Int) < 2 := by omega
      have hc0 := (HR.out.cell (p := ⟨X, j, none⟩) (by have := HS2.out; show X < w2.heap.size; omega)).trans hc
      obtain ⟨N, hN⟩ : ∃ N, (bordI (sb z)).length = N := ⟨_, rfl⟩
      obtain ⟨F, hF⟩ : ∃ F : Nat → Nat, (fun k => lesser (bords 0 (sb z)) k) = F := ⟨_, rfl⟩
      have hF0 : F 0 = 0 := by rw [← hF]; exact lesser_zero _
      have hFl : ∀ k, F k ≤ 1000 := by
        intro k
        rw [← hF]
        have h1 := lesser_le (bords 0 (sb z)) k
        have h2 := bords_len 0 (sb z)
        rw [sb_len] at h2
        show lesser (bords 0 (sb z)) k ≤ 1000
        omega
      have hFe : F (z.size + 1) = N := by rw [← hF, ← hN, ← lesser_end, sb_len]
      have hFb : ∀ k U, Bord (sb z) k U → F (k + 1) = F k + 1 := by intro k U h; rw [← hF]; exact lesser_border h
      have hFn : ∀ k, (¬ ∃ U, Bord (sb z) k U) → F (k + 1) = F k := by intro k h; rw [← hF]; exact lesser_none h
      have HF0 := Lib.hid hF0; have HFL := Lib.hid hFl; have HFE := Lib.hid hFe; have HFB := Lib.hid hFb; have HFN := Lib.hid hFn; have HN := Lib.hid hN
      have CB := Lib.hid (fun W => rborders_any z W (by omega))
      have CL := Lib.hid (fun W => plines_any z W (by omega))
      clear hc hN hF hF0 hFl hFe hFb hFn
      go_wp2_with fail
      obtain ⟨wo, rfl⟩ : ∃ wo : World, wo = wr := ⟨_, rfl⟩
      go_loopw [8, 9] (fun mm q wr => ∃ k : Nat, k ≤ z.size + 1 ∧ q = .int .i64 (k : Int) ∧ mm = .int .i64 ((F k : Nat) : Int) ∧ Hid (Below w2.heap.size w2 wr)) (fun _ q _ => z.size + 1 - (intOf q).toNat)
      case atStart => exact ⟨0, by omega, rfl, by rw [HF0.out]; rfl, HR⟩
      case round =>
        obtain ⟨k, hk, rfl, rfl, HI⟩ := hrel
        by_cases hlt2 : k ≤ z.size
        · have hkk : (k : Int) ≤ (z.size : Int) := by omega
          have hsz : w2.heap.size ≤ wr.heap.size := HI.out.size
          have CA := Lib.hid (fun W => pat_any z (k : Int) W (by omega) (by omega) (by omega))
          have hfl := HFL.out k
          by_cases hbd : ∃ U, Bord (sb z) k U
          · have HBD := Lib.hid hbd
            obtain ⟨U, hU⟩ := hbd
            have HFK := Lib.hid (HFB.out k U hU)
            clear hU
            generalize F k = fk at hfl HFK
            go_wp2_with fail
            refine (CA.out _).mono ?_
            rintro e wa ⟨l, u, er, rfl, hsp, hba⟩
            have hpx : er = 0 ∧ Pos (sb z) k l u := by obtain ⟨U, hU⟩ := HBD.out; exact at_border hsp hU
            obtain ⟨rfl, hpx⟩ := hpx
            have HA : Hid (Below w2.heap.size w2 wa) := HI.out.trans (hba.mono hsz)
            have hza : w2.heap.size ≤ wa.heap.size := HA.out.size
            have HBa : Hid (Below w2.heap.size w2 (wa.alloc (.cells #[.int .i64 (l : Int), .int .i64 (u : Int)] 32))) := HA.out.alloc hza _
            have hOS : OffSpec (sb z) (l : Int) (u : Int) k 0 := .inl ⟨rfl, l, u, rfl, rfl, hpx⟩
            have hll : l ≤ 1000 := by have h1 := (lf_le (sb z) k).2; have := hpx.2.1; omega
            have hul : u ≤ 1000 := by have h0 := hpx.2.2.unis_take; have h1 := unis_le (((sb z).drop (lf (sb z) k).2).take (k - (lf (sb z) k).2)); rw [List.length_take, List.length_drop, sb_len] at h1; omega
            have CO := Lib.hid (fun W => poff_at (s := z) (l := (l : Int)) (u := (u : Int)) (k : Int) rfl W (by omega) (by omega) (by omega) hOS)
            clear hba hsp hpx hOS
            go_wp2_with fail
            refine (CO.out _).mono ?_
            rintro e wb ⟨rfl, hbb⟩
            have HBb : Hid (Below w2.heap.size w2 wb) := HBa.out.trans (hbb.mono (by simp; omega))
            have hq : ((k : Int) != (k : Int)) = false := by simp
            clear hbb
            go_wp2
            go_roundw
            case rel => exact ⟨k + 1, by omega, by go_num, by rw [HFK.out]; go_num, HBb⟩
            case measure => simp [intOf]; omega
          · have HBD := Lib.hid hbd
            have HFK := Lib.hid (HFN.out k hbd)
            clear hbd
            generalize F k = fk at hfl HFK
            go_wp2_with fail
            refine (CA.out _).mono ?_
            rintro e wa ⟨l, u, er, rfl, hsp, hba⟩
            obtain rfl := at_none hsp (by rw [sb_len]; omega) HBD.out
            have HA : Hid (Below w2.heap.size w2 wa) := HI.out.trans (hba.mono hsz)
            have hza : w2.heap.size ≤ wa.heap.size := HA.out.size
            have HBa : Hid (Below w2.heap.size w2 (wa.alloc (.cells #[.int .i64 (l : Int), .int .i64 (u : Int)] 32))) := HA.out.alloc hza _
            clear hba hsp
            go_wp2
            go_roundw
            case rel => exact ⟨k + 1, by omega, by go_num, by rw [HFK.out], HBa⟩
            case measure => simp [intOf]; omega
        · obtain rfl : k = z.size + 1 := by omega
          rw [HFE.out]
          have hkk : ¬ ((z.size + 1 : Nat) : Int) ≤ (z.size : Int) := by omega
          have hsz : w2.heap.size ≤ wr.heap.size := HI.out.size
          go_wp2_with fail
          refine (CB.out _).mono ?_
          rintro e wb h2
          obtain ⟨A2, k2, rfl, row2, b2⟩ := row_of_new h2
          rw [HN.out]
          have HBb : Hid (Below w2.heap.size w2 wb) := HI.out.trans (b2.mono hsz)
          have hszb : w2.heap.size ≤ wb.heap.size := HBb.out.size
          have hq : ((N : Int) != (N : Int)) = false := by simp
          clear h2 row2 b2
          go_wp2_with fail
          refine (CL.out _).mono ?_
          rintro e wl h2
          obtain ⟨A3, k3, rfl, row3, b3⟩ := row_of_new h2
          obtain ⟨nL, hnL⟩ : ∃ n, (lns (sb z)).length = n := ⟨_, rfl⟩
          have hnl2 : nL ≤ 1000 := by have := lnsF_len 0 (sb z); rw [sb_len] at this; rw [← hnL]; simp [lns]; omega
          rw [hnL]
          have HBl : Hid (Below w2.heap.size w2 wl) := HBb.out.trans (b3.mono hszb)
          clear h2 row3 b3 hnL
          go_wp2_with fail
          obtain ⟨wp, rfl⟩ : ∃ wp : World, wp = wr := ⟨_, rfl⟩
          go_loopw [15] (fun q wr => ∃ l : Nat, l ≤ 30 ∧ q = .int .i64 (l : Int) ∧ Hid (Below w2.heap.size w2 wr)) (fun q _ => 30 - (intOf q).toNat)
          case atStart => exact ⟨0, by omega, rfl, HBl⟩
          case round =>
            obtain ⟨l, hl, rfl, HJ⟩ := hrel
            have hways : l < nL ∧ l < 30 ∨ (¬ l < nL) ∨ (l < nL ∧ ¬ l < 30) := by omega
            rcases hways with ⟨g1, g2⟩ | g1 | ⟨g1, g2⟩
            case inl =>
              have g3 : (l : Int) < (nL : Int) := by omega
              have g4 : (l : Int) < 30 := by omega
              go_wp2_with fail
              obtain ⟨wq, rfl⟩ : ∃ wq : World, wq = wr := ⟨_, rfl⟩
              go_loopw [16] (fun q wr => ∃ u : Nat, u ≤ 90 ∧ q = .int .i64 (u : Int) ∧ Hid (Below w2.heap.size w2 wr)) (fun q _ => 90 - (intOf q).toNat)
              case atStart => exact ⟨0, by omega, rfl, HJ⟩
              case round =>
                obtain ⟨u, hu, rfl, HK⟩ := hrel
                by_cases hlt3 : u < 90
                · have hsz2 : w2.heap.size ≤ wr.heap.size := HK.out.size
                  obtain ⟨W1, hW1⟩ : ∃ W, wr.alloc (.cells #[.int .i64 (l : Int), .int .i64 (u : Int)] 32) = W := ⟨_, rfl⟩
                  have hbW : Blk W1 wr.heap.size 32 #[.int .i64 (l : Int), .int .i64 (u : Int)] := by rw [← hW1]; exact Blk.new _ _ _
                  have hBW : Below w2.heap.size w2 W1 := by rw [← hW1]; exact HK.out.alloc hsz2 _
                  have d0 : W1.cell? ⟨wr.heap.size, 0, none⟩ = some (.int .i64 (l : Int)) := by simpa using hbW.cell 0
                  have d1 : W1.cell? ⟨wr.heap.size, 1, none⟩ = some (.int .i64 (u : Int)) := by simpa using hbW.cell 1
                  have hltW := hbW.lt
                  have HBW := Lib.hid hBW
                  have HW1 := Lib.hid hW1
                  have HBL := Lib.hid hbW
                  have CO := Lib.hid (fun W => poff_any z (l : Int) (u : Int) W (by omega) (by omega) (by omega))
                  clear hbW hBW hW1
                  go_wp2_with fail
                  rw [show wr.alloc (.cells #[.int .i64 (l : Int), .int .i64 (u : Int)] 32) = W1 from HW1.out]
                  go_wp2_with fail
                  refine (CO.out _).mono ?_
                  rintro e wb ⟨o, er, rfl, hsp, hbb⟩
                  have HBb2 : Hid (Below w2.heap.size w2 wb) := HBW.out.trans (hbb.mono HBW.out.size)
                  have hszb2 : w2.heap.size ≤ wb.heap.size := HBb2.out.size
                  have d0' := (hbb.cell (p := ⟨wr.heap.size, 0, none⟩) hltW).trans d0
                  have d1' := (hbb.cell (p := ⟨wr.heap.size, 1, none⟩) hltW).trans d1
                  have hltb : wr.heap.size < wb.heap.size := Nat.lt_of_lt_of_le hltW hbb.size
                  have HSP := Lib.hid hsp
                  have her : er = 0 ∨ er = 1 ∨ er = 5 := by rcases hsp with ⟨h, _⟩ | ⟨h, _⟩ | ⟨h, _⟩ <;> omega
                  clear hbb hsp d0 d1
                  rcases her with rfl | rfl | rfl
                  case inl =>
                    have hpo : Pos (sb z) o l u := by
                      rcases HSP.out with ⟨_, l', u', h1, h2, h3⟩ | ⟨h, _⟩ | ⟨h, _⟩
                      · obtain rfl : l = l' := by omega
                        obtain rfl : u = u' := by omega
                        exact h3
                      · omega
                      · omega
                    have HPO := Lib.hid hpo
                    have hol : o ≤ 100 := by have := hpo.lt; rw [sb_len] at this; omega
                    have CA := Lib.hid (fun W => pat_at (s := z) (off := (o : Int)) (l : Int) (u : Int) rfl rfl W (by omega) (by omega) (by omega) (.inr (.inr ⟨rfl, o, rfl, hpo⟩)))
                    have hq1 : ((l : Int) != (l : Int)) = false := by simp
                    have hq2 : ((u : Int) != (u : Int)) = false := by simp
                    clear hpo
                    go_wp2_with fail
                    refine (CA.out _).mono ?_
                    rintro e wc ⟨rfl, hbc⟩
                    have f0 := (hbc.cell (p := ⟨wr.heap.size, 0, none⟩) hltb).trans d0'
                    have f1 := (hbc.cell (p := ⟨wr.heap.size, 1, none⟩) hltb).trans d1'
                    have HBc : Hid (Below w2.heap.size w2 (wc.alloc (.cells #[.int .i64 (l : Int), .int .i64 (u : Int)] 32))) := (HBb2.out.trans (hbc.mono hszb2)).alloc (by have := hbc.size; omega) _
                    have hltc : wr.heap.size < wc.heap.size := Nat.lt_of_lt_of_le hltb hbc.size
                    clear hbc
                    go_wp2
                    go_roundw
                    case rel => exact ⟨u + 1, by omega, by go_num, HBc⟩
                    case measure => simp [intOf]; omega
                  all_goals
                    go_wp2
                    go_roundw
                    case rel => exact ⟨u + 1, by omega, by go_num, HBb2⟩
                    case measure => simp [intOf]; omega
                · obtain rfl : 90 = u := by omega
                  go_wp2
                  go_roundw
                  case rel => exact ⟨l + 1, by omega, by go_num, HK⟩
                  case measure => simp [intOf]; omega
            all_goals
              go_wp2
              go_roundw
              case rel => exact ⟨j + 1, by omega, by go_num, HJ⟩
              case measure => simp [intOf]; omega
    · obtain rfl : 2 = j := by omega
      go_wp2_with fail
      refine (plives_any _).mono ?_
      rintro e wf ⟨rfl, hbf⟩
      have HFF : Hid (Below B w wf) := (HB2.out.trans (HR.out.mono (by have := HB2.out.size; have := HB.out; omega))).trans (hbf.mono (by have := HR.out.size; have := HB2.out.size; have := HB.out; omega))
      clear hbf
      go_wp2
      go_ret
      exact ⟨rfl, by rw [HB.out]; exact HFF.out⟩

theorem walk (a0 : ByteArray) (a1 : Option Addr) (len1 cap1 : Nat) (z1 : List Int) (w : World) (w0 : a0.size ≤ maxLen) (w1 : IsRow .i64 w a1 len1 cap1 z1) :
    Calls Try.prog 7 #[.string a0, .slice a1 len1 cap1] w fun e w' => e = .returned (.bool true) ∧ Below w.heap.size w w' := by
  obtain ⟨ls, rfl, hl, hwl⟩ := sli_of_isRow w1
  exact walkB a0 a1 cap1 ls w (by unfold maxLen at w0; omega) hl (fun n hn => wf_i64 (hwl n hn))

/-! ### THE ROW's STEP: WRITTEN OUT: LEAVE IT -/
set_option maxRecDepth 100000 in
theorem lifted (os : Os) (started : os.Started) (H : Type) (enc : TypeId × Value → H) :
    ReturnsInHanded {} Try.checked os 7 .any (Rows.positionRoundSpec.pre6 enc Try.prog Try.f7 Rows.positionRoundRow.domain false) (Rows.positionRoundSpec.post enc Try.prog Try.f7 false true false false) := by
  refine returnsInHanded_of_change (C := Try.checked) own started (by kernel_rfl) Try.func7
    (ChangeSpec.witness6 (enc := enc) (C := Try.checked) false ⟨#[], #[.string ByteArray.empty, .slice none 0 0], []⟩ 8 (by kernel_rfl) (by kernel_rfl) (by kernel_rfl) (by kernel_rfl)) ?_
  intro W base args ds gs before hval0 hW hcnd _
  have hval : ∀ (j : Nat) t v, Try.f7.params[j]? = some t → args[j]? = some v → Value.okWide Try.prog W .any base t v := hval0
  have hW' := hW
  obtain ⟨p, q, hA0, hV, rfl, hfz, hnd⟩ := hW
  have hA : DataW.TrodAll enc Try.prog W 0 (fun _ => true) true Try.f7.params.toList args.toList ds p := hA0
  rw [Try.params7] at hA hval
  obtain ⟨v0, vs0, d0, ds0, p0, q0, hargs, rfl, rfl, h0, r0⟩ := trodAll_cons hA
  obtain ⟨v1, vs1, d1, ds1, p1, q1, rfl, rfl, rfl, h1, r1⟩ := trodAll_cons r0
  obtain ⟨rfl, rfl, rfl⟩ := trodAll_nil r1
  obtain rfl : args = #[v0, v1] := by cases args; simp_all
  obtain ⟨rfl, rfl⟩ := trodVars_none hV
  obtain ⟨a0, rfl, rfl, rfl, w0⟩ := open_string Try.underlying9 (hval 0 9 v0 rfl rfl) h0
  obtain ⟨a1, len1, cap1, rfl⟩ := okWide_slice Try.underlying22 (hval 1 22 v1 rfl rfl)
  have k1 := h1
  have lt1 : ∀ x ∈ p1, x.block < W.heap.size := by obtain ⟨m, hm⟩ := k1; exact DataW.trod_lt m _ _ _ hm
  obtain ⟨z1, w1⟩ : ∃ zs, IsRow .i64 W a1 len1 cap1 zs := by
    obtain ⟨fuel, hf⟩ := h1
    rcases open_ints Try.underlying22 Try.underlying3 (by kernel_rfl) hf with ⟨hcs, _⟩ | ⟨x, l, c, zs, hcs, _, hl, hm, hz, _, hcell, hwz⟩
    · simp [Value.cells] at hcs
      obtain ⟨rfl, rfl, rfl⟩ := hcs
      exact ⟨[], .inl ⟨rfl, rfl, rfl, rfl⟩⟩
    · simp [Value.cells] at hcs
      obtain ⟨rfl, rfl, rfl⟩ := hcs
      exact ⟨zs, .inr ⟨_, rfl, hl, hm, by simpa using hz, hcell, hwz⟩⟩
  clear hA0 hval0
  refine (walk a0 a1 len1 cap1 z1 W w0 w1).mono fun e W' ⟨he, bel⟩ => ?_
  subst he
  exact ⟨_, rfl, _, _, _, [], _, [], hW', trodAll_mk1 (shut_bool Try.underlying4 _), (trodAll_cons_mk (shut_string Try.underlying9 w0) (trodAll_cons_mk (Below.trod laidOut (by kernel_rfl) (of_decide_eq_true (by kernel_rfl)) k1 bel lt1) trodAll_mk0)), rfl, bel.frame _, fun h => by cases h⟩

theorem over : Rows.positionRoundRow.holds Try.pinned (OpenSpec.ofChange Rows.positionRoundSpec) :=
  OpenClaim.holds_of_wide 7 Try.f7 rfl rfl rfl rfl rfl rfl rfl ⟨rfl, rfl, rfl, rfl, rfl⟩ rfl rfl rfl rfl rfl (by kernel_rfl) Try.func7 (by kernel_rfl)
    (of_decide_eq_true (by kernel_rfl)) (by unfold Func.isWrapper; first | (rw [if_pos (by decide +kernel)]; kernel_rfl) | (rw [if_neg (by decide +kernel)]; exact ⟨rfl, rfl⟩))
    (fun os started H enc _ => lifted os started H enc)

/-- ████ THE STATEMENT ████ -/
theorem proved : Rows.PositionRoundSaid := over
#print axioms proved
end Go.Proofs.Ythjedecfpedjbaa.positionRound
