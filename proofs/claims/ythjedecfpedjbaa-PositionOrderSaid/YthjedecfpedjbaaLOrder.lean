/- For every string (its first 40 bytes) and every generated text, and any two offsets at which characters begin, the positions are in the order of the offsets (P3.7). It has no conditions. The frame below is the guide's shell. -/
import Derived.Test.YthjedecfpedjbaaRows
import Derived.Test.YthjedecfpedjbaaPLives
import Derived.Test.YthjedecfpedjbaaPText
import Derived.Test.YthjedecfpedjbaaPOrd
import Derived.Test.YthjedecfpedjbaaShort
import Derived.Test.YthjedecfpedjbaaSameInts
import Derived.Test.YthjedecfpedjbaaWf
import Derived.Test.YthjedecfpedjbaaAround
import Derived.WalkKit
import Derived.ProofKit
import Derived.OpenShut
import Derived.ShutString
import Derived.ChangeOld
import Derived.Below
namespace Go.Proofs.Ythjedecfpedjbaa.positionOrder
open Go.ChangeShapes Go.WideShapes Go.ChangeAt Go.RowKit
open Go.ChangeMaps (open_string shut_string)
set_option linter.unusedVariables false

theorem own : ownKnob Try.prog.godebug = none := by kernel_rfl
theorem laidOut : laidOutB Try.prog = true := by kernel_rfl

set_option maxRecDepth 100000 in
set_option maxHeartbeats 8000000 in
theorem walkB (s : ByteArray) (a : Option Addr) (cap : Nat) (ls : List Int) (w : World) (hs : s.size ≤ 9223372036854775807) (h : Sli .i64 w a cap ls) (hi : ∀ n ∈ ls, -9223372036854775808 ≤ n ∧ n ≤ 9223372036854775807) (a1 b1 : Int) (ha1 : -9223372036854775808 ≤ a1 ∧ a1 ≤ 9223372036854775807) (hb1' : -9223372036854775808 ≤ b1 ∧ b1 ≤ 9223372036854775807) :
    Calls Try.prog 8 #[.string s, .slice a ls.length cap, .int .i64 a1, .int .i64 b1] w fun e w' => e = .returned (.bool true) ∧ Below w.heap.size w w' := by
  obtain ⟨B, hB⟩ : ∃ B, w.heap.size = B := ⟨_, rfl⟩
  have c1 := rtext_any a cap ls w h hi
  rw [hB] at c1
  have C1 := Lib.hid c1; have HB := Lib.hid hB
  clear c1 h hi hB
  obtain ⟨S, hS⟩ : ∃ S, shS s 40 = S := ⟨_, rfl⟩
  have cS := fun W => short_any s 40 W hs (by omega)
  have hSl : S.size ≤ 40 := by rw [← hS]; exact shS_size s 40
  rw [hS] at cS
  have CS := Lib.hid cS
  clear cS hS
  go_enter Try.func8, Try.ntmps8
  go_wp2_with fail
  refine (CS.out _).mono ?_
  rintro e w' ⟨rfl, rfl⟩
  go_wp2_with fail
  refine C1.out.mono ?_
  rintro e w1 ⟨T, rfl, hTl, hTw, hb1⟩
  obtain ⟨w2, hw2⟩ : ∃ W, w1.alloc (.cells #[.string S, .string T] 9) = W := ⟨_, rfl⟩
  obtain ⟨X, hX⟩ : ∃ X, w1.heap.size = X := ⟨_, rfl⟩
  have bX : Blk w2 X 9 #[.string S, .string T] := by rw [← hw2, ← hX]; exact Blk.new _ _ _
  have hb2 : Below B w w2 := by rw [← hw2]; exact hb1.alloc (by have := hb1.size; have := HB.out; omega) _
  have hs2 : w2.heap.size = X + 1 := by rw [← hw2, World.size_alloc, hX]
  have HDT : Hid (∀ j, j < 2 → ∃ z, w2.cell? ⟨X, j, none⟩ = some (.string z) ∧ z.size ≤ 100) := by
    intro j hj
    have : j = 0 ∨ j = 1 := by omega
    rcases this with rfl | rfl
    · exact ⟨S, bX.cell 0, by omega⟩
    · exact ⟨T, bX.cell 1, by omega⟩
  have HX := Lib.hid hX; have HW2 := Lib.hid hw2; have HS2 := Lib.hid hs2; have HB2 := Lib.hid hb2
  clear hX hw2 bX hs2 hb2 hb1 hTw
  go_wp2_with fail
  rw [HX.out, show w1.alloc (.cells #[.string S, .string T] 9) = w2 from HW2.out]
  go_loopw [10] (fun i wr => ∃ j : Nat, j ≤ 2 ∧ i = .int .i64 j ∧ Hid (Below w2.heap.size w2 wr)) (fun i _ => 2 - (intOf i).toNat)
  case atStart => exact ⟨0, by omega, rfl, Below.refl _ _⟩
  case round =>
    obtain ⟨j, hj, rfl, HR⟩ := hrel
    by_cases hlt : j < 2
    · obtain ⟨z, hc, hzl⟩ := HDT.out j hlt
      have hjj : (j : Int) < 2 := by omega
      have hcw : Hid (∀ W, Below w2.heap.size w2 W → W.cell? ⟨X, j, none⟩ = some (.string z)) := fun W hW => (hW.cell (p := ⟨X, j, none⟩) (by have := HS2.out; show X < w2.heap.size; omega)).trans hc
      have c0 := hcw.out wr HR.out
      have cB := fun W => rborders_any z W (by omega)
      obtain ⟨Q, hQ⟩ : ∃ Q, bordI (sb z) = Q := ⟨_, rfl⟩
      obtain ⟨N, hN⟩ : ∃ N, Q.length = N := ⟨_, rfl⟩
      have hN1 : 1 ≤ N := by rw [← hN, ← hQ]; exact bordI_pos _
      have hN2 : N ≤ 1000 := by have := bordI_len (sb z); rw [sb_len] at this; rw [← hN, ← hQ]; omega
      have hQb : ∀ i, i < N → ∃ x U, Q[i]?.getD 0 = ((x : Nat) : Int) ∧ Bord (sb z) x U ∧ x ≤ 100 := by
        intro i hi
        obtain ⟨x, U, h1, h2⟩ := bordI_at (X := sb z) (i := i) (by rw [hQ, hN]; exact hi)
        have := h2.le
        rw [sb_len] at this
        exact ⟨x, U, by rw [← hQ]; exact h1, h2, by omega⟩
      rw [hQ] at cB
      have CB := Lib.hid cB; have HQ := Lib.hid hQb; have HN := Lib.hid hN
      clear cB hQ hN hQb hc
      go_wp2_with fail
      refine (CB.out _).mono ?_
      rintro e wb h2
      obtain ⟨A2, k2, rfl, row2, b2⟩ := row_of_new h2
      rw [HN.out] at row2 ⊢
      obtain ⟨gB, hA2, _, hgB, _, _⟩ := row2.at_ (j := 0) (by omega)
      subst hA2
      have hcap := row2.sli.le
      have hmx := row2.sli.mx
      rw [HN.out] at hcap
      have HBb : Hid (Below w2.heap.size w2 wb) := HR.out.trans (b2.mono HR.out.size)
      have HROW : Hid (∀ i, i < N → ∃ x U, Bord (sb z) x U ∧ x ≤ 100 ∧ ∀ W, Below wb.heap.size wb W → W.cell? ⟨gB, i, none⟩ = some (.int .i64 (x : Int))) := by
        intro i hi
        obtain ⟨x, U, h1, h2, h3⟩ := HQ.out i hi
        obtain ⟨g', hA', _, _, hck, _⟩ := row2.at_ (j := i) hi
        simp only [Option.some.injEq, Addr.mk.injEq, and_true] at hA'
        subst hA'
        rw [h1] at hck
        exact ⟨x, U, h2, h3, fun W hW => (hW.cell (p := ⟨gB, i, none⟩) hgB).trans hck⟩
      have hsz : w2.heap.size ≤ wb.heap.size := HBb.out.size
      clear h2 row2 b2 c0
      go_wp2_with fail
      refine (around_any a1 N _ ha1.1 ha1.2 (by omega) (by omega)).mono ?_
      rintro e w' ⟨m, hm, rfl, rfl⟩
      obtain ⟨x, U, hbx, hx1, hcx⟩ := HROW.out m hm
      have cx := hcx _ (Below.refl _ _)
      have HBX := Lib.hid hbx
      clear hbx hcx
      go_wp2_with fail
      refine (around_any b1 N _ hb1'.1 hb1'.2 (by omega) (by omega)).mono ?_
      rintro e w' ⟨m', hm', rfl, rfl⟩
      obtain ⟨y, V, hby, hy1, hcy⟩ := HROW.out m' hm'
      have cy := hcy _ (Below.refl _ _)
      have c1 := hcw.out wb HBb.out
      have HBY := Lib.hid hby
      have CA := Lib.hid (fun W => pat_any z (x : Int) W (by omega) (by omega) (by omega))
      have CA2 := Lib.hid (fun W => pat_any z (y : Int) W (by omega) (by omega) (by omega))
      clear hby hcy
      go_wp2_with fail
      refine (CA.out _).mono ?_
      rintro e wa ⟨l, u, er, rfl, hsp, hba⟩
      obtain ⟨rfl, hpx⟩ := at_border hsp HBX.out
      have HPX := Lib.hid hpx
      have HA : Hid (Below w2.heap.size w2 wa) := HBb.out.trans (hba.mono HBb.out.size)
      have hza : w2.heap.size ≤ wa.heap.size := HA.out.size
      have HBa : Hid (Below w2.heap.size w2 (wa.alloc (.cells #[.int .i64 (l : Int), .int .i64 (u : Int)] 32))) := HA.out.alloc hza _
      have c2 := hcw.out _ HBa.out
      have bl : Blk (wa.alloc (.cells #[.int .i64 (l : Int), .int .i64 (u : Int)] 32)) wa.heap.size 32 #[.int .i64 (l : Int), .int .i64 (u : Int)] := Blk.new _ _ _
      have HBL := Lib.hid bl
      clear hba bl hsp hpx CA c1 cx cy
      go_wp2_with fail
      refine (CA2.out _).mono ?_
      rintro e wc ⟨l', u', er', rfl, hsp', hbc⟩
      obtain ⟨rfl, hpy⟩ := at_border hsp' HBY.out
      have HPY := Lib.hid hpy
      have k0 := (hbc.cell (p := ⟨wa.heap.size, 0, none⟩) (by simp)).trans (HBL.out.cell 0)
      have k1 := (hbc.cell (p := ⟨wa.heap.size, 1, none⟩) (by simp)).trans (HBL.out.cell 1)
      simp at k0 k1
      have hsab : wa.heap.size < wc.heap.size := by have := hbc.size; simp at this; omega
      have HBc : Hid (Below w2.heap.size w2 (wc.alloc (.cells #[.int .i64 (l' : Int), .int .i64 (u' : Int)] 32))) := (HBa.out.trans (hbc.mono (by simp; omega))).alloc (by omega) _
      clear hsp' hbc c2 hpy
      rcases pos_cmp HPX.out HPY.out with ⟨g1, g2⟩ | ⟨g1, rfl, g2⟩ | ⟨rfl, rfl, rfl⟩ | ⟨g1, rfl, g2⟩ | ⟨g1, g2⟩
      case' inl =>
        have q1 : (x : Int) < (y : Int) := by omega
        have q2 : (l : Int) < (l' : Int) := by omega
        have q3 : ((x : Int) == (y : Int)) = false := by simp; omega
        have q4 : ((l : Int) == (l' : Int)) = false := by simp; omega
        clear g1 g2
      case' inr.inl =>
        have q1 : (x : Int) < (y : Int) := by omega
        have q2 : (u : Int) < (u' : Int) := by omega
        have q3 : ((x : Int) == (y : Int)) = false := by simp; omega
        have q4 : ((u : Int) == (u' : Int)) = false := by simp; omega
        clear g1 g2
      case' inr.inr.inr.inl =>
        have q1 : ¬ (x : Int) < (y : Int) := by omega
        have q2 : ¬ (u : Int) < (u' : Int) := by omega
        have q3 : ((x : Int) == (y : Int)) = false := by simp; omega
        have q4 : ((u : Int) == (u' : Int)) = false := by simp; omega
        clear g1 g2
      case' inr.inr.inr.inr =>
        have q1 : ¬ (x : Int) < (y : Int) := by omega
        have q2 : ¬ (l : Int) < (l' : Int) := by omega
        have q3 : ((x : Int) == (y : Int)) = false := by simp; omega
        have q4 : ((l : Int) == (l' : Int)) = false := by simp; omega
        clear g1 g2
      all_goals
        go_wp2
        go_roundw
        case rel => exact ⟨j + 1, by omega, by go_num, HBc⟩
        case measure => simp [intOf]; omega
    · obtain rfl : 2 = j := by omega
      go_wp2_with fail
      refine (plives_any _).mono ?_
      rintro e wf ⟨rfl, hbf⟩
      have HFF : Hid (Below B w wf) := (HB2.out.trans (HR.out.mono (by have := HB2.out.size; have := HB.out; omega))).trans (hbf.mono (by have := HR.out.size; have := HB2.out.size; have := HB.out; omega))
      clear hbf
      go_wp2
      go_ret
      exact ⟨rfl, by rw [HB.out]; exact HFF.out⟩

theorem walk (a0 : ByteArray) (a1 : Option Addr) (len1 cap1 : Nat) (z1 : List Int) (a2 : Int) (a3 : Int) (w : World) (w0 : a0.size ≤ maxLen) (w1 : IsRow .i64 w a1 len1 cap1 z1) (w2 : (Lit.int .i64 a2).wf = true) (w3 : (Lit.int .i64 a3).wf = true) :
    Calls Try.prog 8 #[.string a0, .slice a1 len1 cap1, .int .i64 a2, .int .i64 a3] w fun e w' => e = .returned (.bool true) ∧ Below w.heap.size w w' := by
  obtain ⟨ls, rfl, hl, hwl⟩ := sli_of_isRow w1
  exact walkB a0 a1 cap1 ls w (by unfold maxLen at w0; omega) hl (fun n hn => wf_i64 (hwl n hn)) a2 a3 (wf_i64 w2) (wf_i64 w3)

/-! ### THE ROW's STEP: WRITTEN OUT: LEAVE IT -/
set_option maxRecDepth 100000 in
theorem lifted (os : Os) (started : os.Started) (H : Type) (enc : TypeId × Value → H) :
    ReturnsInHanded {} Try.checked os 8 .any (Rows.positionOrderSpec.pre6 enc Try.prog Try.f8 Rows.positionOrderRow.domain false) (Rows.positionOrderSpec.post enc Try.prog Try.f8 false true false false) := by
  refine returnsInHanded_of_change (C := Try.checked) own started (by kernel_rfl) Try.func8
    (ChangeSpec.witness6 (enc := enc) (C := Try.checked) false ⟨#[], #[.string ByteArray.empty, .slice none 0 0, .int .i64 0, .int .i64 0], []⟩ 8 (by kernel_rfl) (by kernel_rfl) (by kernel_rfl) (by kernel_rfl)) ?_
  intro W base args ds gs before hval0 hW hcnd _
  have hval : ∀ (j : Nat) t v, Try.f8.params[j]? = some t → args[j]? = some v → Value.okWide Try.prog W .any base t v := hval0
  have hW' := hW
  obtain ⟨p, q, hA0, hV, rfl, hfz, hnd⟩ := hW
  have hA : DataW.TrodAll enc Try.prog W 0 (fun _ => true) true Try.f8.params.toList args.toList ds p := hA0
  rw [Try.params8] at hA hval
  obtain ⟨v0, vs0, d0, ds0, p0, q0, hargs, rfl, rfl, h0, r0⟩ := trodAll_cons hA
  obtain ⟨v1, vs1, d1, ds1, p1, q1, rfl, rfl, rfl, h1, r1⟩ := trodAll_cons r0
  obtain ⟨v2, vs2, d2, ds2, p2, q2, rfl, rfl, rfl, h2, r2⟩ := trodAll_cons r1
  obtain ⟨v3, vs3, d3, ds3, p3, q3, rfl, rfl, rfl, h3, r3⟩ := trodAll_cons r2
  obtain ⟨rfl, rfl, rfl⟩ := trodAll_nil r3
  obtain rfl : args = #[v0, v1, v2, v3] := by cases args; simp_all
  obtain ⟨rfl, rfl⟩ := trodVars_none hV
  obtain ⟨a0, rfl, rfl, rfl, w0⟩ := open_string Try.underlying9 (hval 0 9 v0 rfl rfl) h0
  obtain ⟨a1, len1, cap1, rfl⟩ := okWide_slice Try.underlying22 (hval 1 22 v1 rfl rfl)
  have k1 := h1
  have lt1 : ∀ x ∈ p1, x.block < W.heap.size := by obtain ⟨m, hm⟩ := k1; exact DataW.trod_lt m _ _ _ hm
  obtain ⟨z1, w1⟩ : ∃ zs, IsRow .i64 W a1 len1 cap1 zs := by
    obtain ⟨fuel, hf⟩ := h1
    rcases open_ints Try.underlying22 Try.underlying3 (by kernel_rfl) hf with ⟨hcs, _⟩ | ⟨x, l, c, zs, hcs, _, hl, hm, hz, _, hcell, hwz⟩
    · simp [Value.cells] at hcs
      obtain ⟨rfl, rfl, rfl⟩ := hcs
      exact ⟨[], .inl ⟨rfl, rfl, rfl, rfl⟩⟩
    · simp [Value.cells] at hcs
      obtain ⟨rfl, rfl, rfl⟩ := hcs
      exact ⟨zs, .inr ⟨_, rfl, hl, hm, by simpa using hz, hcell, hwz⟩⟩
  obtain ⟨a2, rfl, rfl, rfl, w2⟩ := open_int Try.underlying3 (hval 2 3 v2 rfl rfl) h2
  obtain ⟨a3, rfl, rfl, rfl, w3⟩ := open_int Try.underlying3 (hval 3 3 v3 rfl rfl) h3
  clear hA0 hval0
  refine (walk a0 a1 len1 cap1 z1 a2 a3 W w0 w1 w2 w3).mono fun e W' ⟨he, bel⟩ => ?_
  subst he
  exact ⟨_, rfl, _, _, _, [], _, [], hW', trodAll_mk1 (shut_bool Try.underlying4 _), (trodAll_cons_mk (shut_string Try.underlying9 w0) (trodAll_cons_mk (Below.trod laidOut (by kernel_rfl) (of_decide_eq_true (by kernel_rfl)) k1 bel lt1) (trodAll_cons_mk (shut_int Try.underlying3 w2) (trodAll_cons_mk (shut_int Try.underlying3 w3) trodAll_mk0)))), rfl, bel.frame _, fun h => by cases h⟩

theorem over : Rows.positionOrderRow.holds Try.pinned (OpenSpec.ofChange Rows.positionOrderSpec) :=
  OpenClaim.holds_of_wide 8 Try.f8 rfl rfl rfl rfl rfl rfl rfl ⟨rfl, rfl, rfl, rfl, rfl⟩ rfl rfl rfl rfl rfl (by kernel_rfl) Try.func8 (by kernel_rfl)
    (of_decide_eq_true (by kernel_rfl)) (by unfold Func.isWrapper; first | (rw [if_pos (by decide +kernel)]; kernel_rfl) | (rw [if_neg (by decide +kernel)]; exact ⟨rfl, rfl⟩))
    (fun os started H enc _ => lifted os started H enc)

/-- ████ THE STATEMENT ████ -/
theorem proved : Rows.PositionOrderSaid := over
#print axioms proved
end Go.Proofs.Ythjedecfpedjbaa.positionOrder
