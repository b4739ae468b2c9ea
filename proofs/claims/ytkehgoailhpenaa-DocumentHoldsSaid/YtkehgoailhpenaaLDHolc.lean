/- For every number of early changes, up or down, with every gap, DocumentHolds returns true. It has no conditions. The frame below is the guide's shell. -/
import Derived.Test.YtkehgoailhpenaaRows
import Derived.Test.YtkehgoailhpenaaPB09
import Derived.ChangeOld
import Derived.Below
import Derived.WalkKit
import Derived.ProofKit
import Derived.OpenShut
import Derived.ShutString
namespace Go.Proofs.Ytkehgoailhpenaa.documentHolds
open Go.ChangeShapes Go.WideShapes Go.ChangeAt Go.RowKit
open Go.ChangeMaps (open_string shut_string)
set_option linter.unusedVariables false      -- a walk need not use every 'w<i>' (that an integer argument fits its kind)

theorem own : ownKnob Try.prog.godebug = none := by kernel_rfl

/-! ### STEP 1: THE WALK -/
set_option maxRecDepth 100000 in
set_option maxHeartbeats 4000000 in
theorem walk (a0 : Int) (a1 : Bool) (a2 : Int) (w0 : (Lit.int .i64 a0).wf = true) (w2 : (Lit.int .i64 a2).wf = true) (w : World) :
    Calls Try.prog 5 #[.int .i64 a0, .bool a1, .int .i64 a2] w fun e w' => e = .returned (.bool true) ∧ Below w.heap.size w w' := by
  have b0 := wf_i64 w0
  have b2 := wf_i64 w2
  have HN := Lib.hid (new_any ⟨#[]⟩ 0 w)
  have hA1 := around_any a0 21 w b0.1 b0.2 (by decide) (by decide)
  have hA2 := around_any a2 22 w b2.1 b2.2 (by decide) (by decide)
  have HA1 := Lib.hid hA1; have HA2 := Lib.hid hA2
  clear hA1 hA2
  go_enter Try.func5, Try.ntmps5
  go_wp2_with fail
  refine HA1.out.mono ?_
  rintro e w' ⟨n, hn, rfl, rfl⟩
  go_wp2_with fail
  refine HA2.out.mono ?_
  rintro e w' ⟨g, hg, rfl, rfl⟩
  have hgw : IntKind.i64.wrap (2 + (g : Int)) = 2 + (g : Int) := by simp [IntKind.wrap, IntKind.signed, IntKind.bits]; omega
  go_wp2_with fail
  refine HN.out.mono ?_
  rintro e w1 hw
  obtain ⟨p, rfl, hd1, b1⟩ : ∃ p, e = .returned (.tuple #[.pointer (some ⟨p, 0, none⟩), .int .i64 0]) ∧ DocI (newB w w1) (fun _ => False) w1 p (newS ⟨#[]⟩ 0) ∧ Below w.heap.size w w1 := by
    rcases hw with ⟨h, _⟩ | ⟨_, p, h1, h2, h3⟩
    · exact absurd (by decide) h
    · exact ⟨p, h1, h2, h3⟩
  have HD1 := Lib.hid hd1; have B1 := Lib.hid b1
  clear hw hd1 b1 HA1 HA2 HN
  go_wp2_with fail
  obtain ⟨ca, hca⟩ : ∃ c : ByteArray, (⟨#[97]⟩ : ByteArray) = c := ⟨_, rfl⟩
  have hca1 : ca.size = 1 := by rw [← hca]; rfl
  go_loopw [11, 12] (fun u q wr => ∃ (i : Nat) (s : DS) (T G : Nat → Prop), q = .int .i64 (i : Int) ∧ u = .int .i64 (s.hs.length : Int) ∧ i ≤ n ∧ Hid (Wait ca s ∧ ∀ k ∈ s.hs.map Prod.fst, if a1 = true then (1 + (n : Int) - i : Int) < k else k < 2 + (i : Int)) ∧ Hid (DocI T G wr p s) ∧ Hid (LvO w wr T)) (fun _ q _ => n - (intOf q).toNat)
  case atStart => exact ⟨0, newS ⟨#[]⟩ 0, _, _, rfl, rfl, by omega, ⟨⟨rfl, rfl, by simp [newS], by simp [newS], by simp [newS], by simp [newS]⟩, by simp [newS]⟩, HD1, ⟨B1.out, fun b hb => hb.1⟩⟩
  case round =>
    obtain ⟨i, s, T, G, rfl, rfl, hi, HW, HD, HL⟩ := hrel
    by_cases hin : i < n
    · have hin2 : ((i : Int) < (n : Int)) := by omega
      have w1' : IntKind.i64.wrap (2 + (i : Int)) = 2 + (i : Int) := by simp [IntKind.wrap, IntKind.signed, IntKind.bits]; omega
      have w2' : IntKind.i64.wrap (1 + (n : Int)) = 1 + (n : Int) := by simp [IntKind.wrap, IntKind.signed, IntKind.bits]; omega
      have w3' : IntKind.i64.wrap (1 + (n : Int) - (i : Int)) = 1 + (n : Int) - (i : Int) := by simp [IntKind.wrap, IntKind.signed, IntKind.bits]; omega
      have w4' : IntKind.i64.wrap ((i : Int) + 1) = (i : Int) + 1 := by simp [IntKind.wrap, IntKind.signed, IntKind.bits]; omega
      have hl16 := HW.out.1.n
      have w5' : IntKind.i64.wrap ((s.hs.length : Int) + 1) = (s.hs.length : Int) + 1 := by simp [IntKind.wrap, IntKind.signed, IntKind.bits]; omega
      obtain ⟨W1, hW1⟩ : ∃ W, wr.alloc (.cells (hpe ca).vals.toArray 59) = W := ⟨_, rfl⟩
      have k1 : Below wr.heap.size wr W1 := by rw [← hW1]; exact (Below.refl _ _).alloc (Nat.le_refl _) _
      have hps : PS W1.heap.size W1 (some ⟨wr.heap.size, 0, none⟩) 1 [hpe ca] := by rw [← hW1]; exact ps_one wr (hpe ca)
      have HCR : Hid (∀ v : Int, 2 ≤ v → v ≤ 30 → v ∉ s.hs.map Prod.fst → Calls Try.prog 9 #[.pointer (some ⟨p, 0, none⟩), .agg #[.int .i64 v, .slice (some ⟨wr.heap.size, 0, none⟩) 1 1]] W1 fun e w' => e = .returned (.tuple #[.int .i64 0, .int .i64 (if s.hs.length < 16 then 0 else 4)]) ∧ ∃ T' G', DocI T' G' w' p (if s.hs.length < 16 then holdS s v [hpe ca] else s) ∧ LvO w w' T') := fun v h1 h2 h3 => by
        have := receive_any T G p s W1 (HD.out.below k1) v (by omega) (by omega) (some ⟨wr.heap.size, 0, none⟩) 1 [hpe ca] hps (by simp) (fun r h => by simp only [List.mem_singleton] at h; subst h; exact ⟨by simp [hpe, PE.fit, I64n], by show ca.size ≤ 100000; omega⟩)
        rw [HW.out.1.early h1 h2 h3] at this
        refine this.mono ?_
        rintro e w' ⟨rfl, T', G', hd, hs⟩
        by_cases hl : s.hs.length < 16
        · rw [if_pos hl] at hd; rw [if_pos hl, if_pos hl, if_pos hl]; exact ⟨rfl, T', G', hd, (HL.out.below k1).step hs⟩
        · rw [if_neg hl] at hd; rw [if_neg hl, if_neg hl, if_neg hl]; exact ⟨rfl, T', G', hd, (HL.out.below k1).step hs⟩
      have HW1 : Hid (wr.alloc (.cells #[.int .i64 0, .int .i64 0, .int .i64 0, .int .i64 0, .string ca] 59) = W1) := hW1
      clear k1 hps hW1
      cases a1
      · have hvk : (2 + (i : Int)) ∉ s.hs.map Prod.fst := fun h => by have := HW.out.2 _ h; simp at this
        have HC := Lib.hid (HCR.out (2 + (i : Int)) (by omega) (by omega) hvk)
        by_cases hg2 : 2 + (i : Int) = 2 + (g : Int)
        · have hgb : ((2 + (i : Int)) == (2 + (g : Int))) = true := by simp [hg2]
          go_wp2
          go_roundw
          case rel => exact ⟨i + 1, s, T, G, by go_num, rfl, by omega, ⟨HW.out.1, fun k hk => by have := HW.out.2 k hk; simp at this ⊢; omega⟩, HD, HL⟩
          case measure => simp [intOf]; omega
        · have hgb : ((2 + (i : Int)) == (2 + (g : Int))) = false := by simp [hg2]
          by_cases hl : s.hs.length < 16
          · have hc := HC.out
            simp only [if_pos hl] at hc
            have HC2 := Lib.hid hc
            have hll : ((s.hs.length : Int) < 16) := by omega
            clear hc HC HCR
            go_wp2_with fail
            rw [HW1.out]
            refine HC2.out.mono ?_
            rintro e w5 ⟨rfl, T5, G5, hd5, hl5⟩
            have HD5 := Lib.hid hd5; have HL5 := Lib.hid hl5
            clear hd5 hl5
            go_wp2
            go_roundw
            case rel => exact ⟨i + 1, holdS s (2 + (i : Int)) [hpe ca], T5, G5, by go_num, by simp [holdS]; try omega, by omega, ⟨HW.out.1.hold (by omega) hvk hl, fun k hk => by
              have hk' : k ∈ (s.hs ++ [(2 + (i : Int), [hpe ca])]).map Prod.fst := hk
              rw [List.map_append] at hk'
              rcases List.mem_append.1 hk' with hk' | hk'
              · have := HW.out.2 k hk'; simp at this ⊢; omega
              · simp at hk'; simp; omega⟩, HD5, HL5⟩
            case measure => simp [intOf]; omega
          · have hc := HC.out
            simp only [if_neg hl] at hc
            have HC2 := Lib.hid hc
            have hll : ¬ ((s.hs.length : Int) < 16) := by omega
            clear hc HC HCR
            go_wp2_with fail
            rw [HW1.out]
            refine HC2.out.mono ?_
            rintro e w5 ⟨rfl, T5, G5, hd5, hl5⟩
            have HD5 := Lib.hid hd5; have HL5 := Lib.hid hl5
            clear hd5 hl5
            go_wp2
            go_roundw
            case rel => exact ⟨i + 1, s, T5, G5, by go_num, rfl, by omega, ⟨HW.out.1, fun k hk => by have := HW.out.2 k hk; simp at this ⊢; omega⟩, HD5, HL5⟩
            case measure => simp [intOf]; omega
      · have hvk : (1 + (n : Int) - (i : Int)) ∉ s.hs.map Prod.fst := fun h => by have := HW.out.2 _ h; simp at this
        have HC := Lib.hid (HCR.out (1 + (n : Int) - (i : Int)) (by omega) (by omega) hvk)
        by_cases hg2 : 1 + (n : Int) - (i : Int) = 2 + (g : Int)
        · have hgb : ((1 + (n : Int) - (i : Int)) == (2 + (g : Int))) = true := by simp [hg2]
          go_wp2
          go_roundw
          case rel => exact ⟨i + 1, s, T, G, by go_num, rfl, by omega, ⟨HW.out.1, fun k hk => by have := HW.out.2 k hk; simp at this ⊢; omega⟩, HD, HL⟩
          case measure => simp [intOf]; omega
        · have hgb : ((1 + (n : Int) - (i : Int)) == (2 + (g : Int))) = false := by simp [hg2]
          by_cases hl : s.hs.length < 16
          · have hc := HC.out
            simp only [if_pos hl] at hc
            have HC2 := Lib.hid hc
            have hll : ((s.hs.length : Int) < 16) := by omega
            clear hc HC HCR
            go_wp2_with fail
            rw [HW1.out]
            refine HC2.out.mono ?_
            rintro e w5 ⟨rfl, T5, G5, hd5, hl5⟩
            have HD5 := Lib.hid hd5; have HL5 := Lib.hid hl5
            clear hd5 hl5
            go_wp2
            go_roundw
            case rel => exact ⟨i + 1, holdS s (1 + (n : Int) - (i : Int)) [hpe ca], T5, G5, by go_num, by simp [holdS]; try omega, by omega, ⟨HW.out.1.hold (by omega) hvk hl, fun k hk => by
              have hk' : k ∈ (s.hs ++ [(1 + (n : Int) - (i : Int), [hpe ca])]).map Prod.fst := hk
              rw [List.map_append] at hk'
              rcases List.mem_append.1 hk' with hk' | hk'
              · have := HW.out.2 k hk'; simp at this ⊢; omega
              · simp at hk'; simp; omega⟩, HD5, HL5⟩
            case measure => simp [intOf]; omega
          · have hc := HC.out
            simp only [if_neg hl] at hc
            have HC2 := Lib.hid hc
            have hll : ¬ ((s.hs.length : Int) < 16) := by omega
            clear hc HC HCR
            go_wp2_with fail
            rw [HW1.out]
            refine HC2.out.mono ?_
            rintro e w5 ⟨rfl, T5, G5, hd5, hl5⟩
            have HD5 := Lib.hid hd5; have HL5 := Lib.hid hl5
            clear hd5 hl5
            go_wp2
            go_roundw
            case rel => exact ⟨i + 1, s, T5, G5, by go_num, rfl, by omega, ⟨HW.out.1, fun k hk => by have := HW.out.2 k hk; simp at this ⊢; omega⟩, HD5, HL5⟩
            case measure => simp [intOf]; omega
    · have hin2 : ¬ ((i : Int) < (n : Int)) := by omega
      have HH := Lib.hid (held_all T G p s wr HD.out)
      have hl16 := HW.out.1.n
      have HW2 := Lib.hid HW.out.1
      clear HW hi hin
      go_wp2_with fail
      refine HH.out.mono ?_
      rintro e w2 ⟨ab, cb, rfl, hrow, bb⟩
      have HD2 : Hid (DocI T G w2 p s) := HD.out.below bb
      have HL2 : Hid (LvO w w2 T) := HL.out.below bb
      have hlen := heldL_len s
      have HCH := Lib.hid (cnt_held HW2.out)
      have HPD := Lib.hid (pfx_drop (heldL s) 1)
      have HPF := Lib.hid (pfx_full (heldL s) 1)
      obtain ⟨hz0, ab', cb', hv, hsli⟩ := sli_of_own (k := .i64) (zs := heldL s) hrow
      simp only [Value.slice.injEq] at hv
      obtain ⟨rfl, -, rfl⟩ := hv
      obtain ⟨L, hL⟩ : ∃ L, heldL s = L := ⟨_, rfl⟩
      obtain ⟨K, hK⟩ : ∃ K, cntF s.hs.length (s.hs.map Prod.fst) 1 = K := ⟨_, rfl⟩
      rw [hL] at hlen HPD HPF hsli HCH
      rw [hK] at HCH
      have HK := Lib.hid hK
      have HSL := Lib.hid hsli
      clear hz0 hrow bb hsli hL hK HH HD HL
      have qm : (((s.hs.length : Nat) : Int) != ((s.hs.length : Nat) : Int)) = false := by simp
      go_wp2_with fail
      go_loopw [17, 18] (fun u q wx => ∃ (j : Nat), u = .int .i64 (1 + (j : Int)) ∧ q = .int .i64 (j : Int) ∧ j ≤ s.hs.length ∧ Hid (∀ k, k < j → L[k]? = some (2 + (k : Int))) ∧ Hid (Below w2.heap.size w2 wx)) (fun _ q _ => s.hs.length - (intOf q).toNat)
      case atStart => exact ⟨0, rfl, rfl, by omega, Lib.hid (fun k hk => by omega), Lib.hid (Below.refl _ _)⟩
      case round =>
        obtain ⟨j, rfl, rfl, hj, HJ, HB⟩ := hrel
        have v1' : IntKind.i64.wrap (1 + (j : Int) + 1) = 1 + (j : Int) + 1 := by simp [IntKind.wrap, IntKind.signed, IntKind.bits]; omega
        have v2' : IntKind.i64.wrap ((j : Int) + 1) = (j : Int) + 1 := by simp [IntKind.wrap, IntKind.signed, IntKind.bits]; omega
        have v3' : IntKind.i64.wrap (((s.hs.length : Nat) : Int) - (1 + (j : Int))) = ((s.hs.length : Nat) : Int) - (1 + (j : Int)) := by simp [IntKind.wrap, IntKind.signed, IntKind.bits]; omega
        have v4' : IntKind.i64.wrap (((s.hs.length : Nat) : Int) - (1 + (j : Int)) + 1) = ((s.hs.length : Nat) : Int) - (1 + (j : Int)) + 1 := by simp [IntKind.wrap, IntKind.signed, IntKind.bits]; omega
        obtain ⟨cd, hcd⟩ : ∃ c : ByteArray, (⟨#[98]⟩ : ByteArray) = c := ⟨_, rfl⟩
        have hcd1 : cd.size = 1 := by rw [← hcd]; rfl
        obtain ⟨W1, hW1⟩ : ∃ W, wr.alloc (.cells (hpe cd).vals.toArray 59) = W := ⟨_, rfl⟩
        have k1 : Below wr.heap.size wr W1 := by rw [← hW1]; exact (Below.refl _ _).alloc (Nat.le_refl _) _
        have hps : PS W1.heap.size W1 (some ⟨wr.heap.size, 0, none⟩) 1 [hpe cd] := by rw [← hW1]; exact ps_one wr (hpe cd)
        obtain ⟨S9, q, hr, hq, hv9, ht9, hh9⟩ := HW2.out.first hca1 hcd1
        have HD3 : Hid (DocI T G W1 p s) := (HD2.out.below HB.out).below k1
        have HL3 : Hid (LvO w W1 T) := (HL2.out.below HB.out).below k1
        have HCR := receive_any T G p s W1 HD3.out 1 (by omega) (by omega) (some ⟨wr.heap.size, 0, none⟩) 1 [hpe cd] hps (by simp) (fun r h => by simp only [List.mem_singleton] at h; subst h; exact ⟨by simp [hpe, PE.fit, I64n], by show cd.size ≤ 100000; omega⟩)
        rw [hr] at HCR
        have HC := Lib.hid HCR
        have HW1 : Hid (wr.alloc (.cells #[.int .i64 0, .int .i64 0, .int .i64 0, .int .i64 0, .string cd] 59) = W1) := hW1
        have HQ := Lib.hid (hq.trans HK.out)
        have HV9 := Lib.hid hv9; have HT9 := Lib.hid ht9; have HH9 := Lib.hid hh9
        clear k1 hps hW1 hr HCR hq hv9 ht9 hh9
        by_cases hgo : j < s.hs.length ∧ L[j]?.getD 0 = 1 + (j : Int) + 1
        · obtain ⟨hjl, hx⟩ := hgo
          have hjl2 : ((j : Int) < ((s.hs.length : Nat) : Int)) := by omega
          obtain ⟨b, off, hab, hb, hc⟩ := HSL.out.cells.resolve_left (fun e => by rw [e] at hlen; simp at hlen; omega)
          subst hab
          have c1 : wr.cell? ⟨b, off + j, none⟩ = some (.int .i64 (L[j]?.getD 0)) := (HB.out.cell (p := ⟨b, off + j, none⟩) hb).trans (hc j (by omega))
          rw [hx] at c1
          have hLj : L[j]? = some (2 + (j : Int)) := by
            rw [List.getElem?_eq_getElem (by omega)] at hx ⊢
            simp at hx
            congr 1
            omega
          have HJ2 : Hid (∀ k, k < j + 1 → L[k]? = some (2 + (k : Int))) := fun k hk => by
            by_cases e : k = j
            · subst e; exact hLj
            · exact HJ.out k (by omega)
          clear hc hx hLj HC HW1 HQ HV9 HT9 HH9
          go_wp2
          go_roundw
          case rel => exact ⟨j + 1, by go_num, by go_num, by omega, HJ2, HB⟩
          case measure => simp [intOf]; omega
        · have hKj : K = j := by
            rw [HCH.out]
            by_cases hjl : j < s.hs.length
            · refine (HPD.out j (by omega) (fun i hi => ?_)).2 (fun e => hgo ⟨hjl, ?_⟩)
              · have := HJ.out i hi
                rw [List.getElem?_eq_getElem (by omega)] at this
                simp at this
                rw [this]; omega
              · rw [List.getElem?_eq_getElem (by omega)]
                simp [e]; omega
            · rw [HPF.out (fun i hi => ?_)]
              · omega
              · have := HJ.out i (by omega)
                rw [List.getElem?_eq_getElem (by omega)] at this
                simp at this
                rw [this]; omega
          obtain rfl : q = j := HQ.out.trans hKj
          have hkb : ((1 + (q : Int)) == (1 + (q : Int))) = true := by simp
          obtain ⟨t9, ht9⟩ : ∃ t, S9.text = t := ⟨_, rfl⟩
          obtain ⟨l9, hl9⟩ : ∃ l, S9.hs.length = l := ⟨_, rfl⟩
          have htb : (((t9.size : Nat) : Int) == (1 + (q : Int))) = true := by have := HT9.out; rw [ht9] at this; simp; omega
          have hlb : (((l9 : Nat) : Int) == (((s.hs.length : Nat) : Int) - (1 + (q : Int)) + 1)) = true := by have := HH9.out; rw [hl9] at this; simp; omega
          have HTX := Lib.hid ht9; have HLX := Lib.hid hl9
          clear ht9 hl9 hKj
          have hways : (¬ ((q : Int) < ((s.hs.length : Nat) : Int))) ∨ (((q : Int) < ((s.hs.length : Nat) : Int)) ∧ ∃ b off x, ab = some ⟨b, off, none⟩ ∧ wr.cell? ⟨b, off + q, none⟩ = some (.int .i64 x) ∧ (x == (1 + (q : Int) + 1)) = false) := by
            by_cases hjl : q < s.hs.length
            · refine .inr ⟨by omega, ?_⟩
              obtain ⟨b, off, hab, hb, hc⟩ := HSL.out.cells.resolve_left (fun e => by rw [e] at hlen; simp at hlen; omega)
              exact ⟨b, off, _, hab, (HB.out.cell (p := ⟨b, off + q, none⟩) hb).trans (hc q (by omega)), by simp; exact fun e => hgo ⟨hjl, by simpa using e⟩⟩
            · exact .inl (by omega)
          clear hgo
          rcases hways with hjl | ⟨hjl, b, off, x, rfl, c1, hxb⟩
          all_goals
            go_wp2_with fail
            rw [HW1.out]
            refine HC.out.mono ?_
            rintro e w5 ⟨rfl, T5, G5, hd5, hs5⟩
            have HD5 := Lib.hid hd5
            have HL5 : Hid (LvO w w5 T5) := HL3.out.step hs5
            have CV := version_any T5 G5 p S9 w5 hd5
            rw [HV9.out] at CV
            have HCV := Lib.hid CV
            have CT := text_any T5 G5 p S9 w5 hd5
            rw [HTX.out] at CT
            have HCT := Lib.hid CT
            clear hd5 hs5 HC HW1 CV CT
            go_wp2_with fail
            refine HCV.out.mono ?_
            rintro e w6 ⟨rfl, rfl⟩
            go_wp2_with fail
            refine HCT.out.mono ?_
            rintro e w7 ⟨rfl, b7⟩
            have HD7 : Hid (DocI T5 G5 w7 p S9) := HD5.out.below b7
            have HL7 : Hid (LvO w w7 T5) := HL5.out.below b7
            have CH := held_all T5 G5 p S9 w7 HD7.out
            rw [HLX.out] at CH
            have HCH7 := Lib.hid CH
            clear b7 CH
            go_wp2_with fail
            refine HCH7.out.mono ?_
            rintro e w8 ⟨a8, c8, rfl, hrow8, b8⟩
            have HL8 : Hid (LvO w w8 T5) := HL7.out.below b8
            clear hrow8 b8
            go_wp2_with fail
            refine (lives_any _).mono ?_
            rintro e w9 ⟨rfl, b9⟩
            have HL9 : Hid (LvO w w9 T5) := HL8.out.below b9
            clear b9
            go_wp2
            go_ret
            exact ⟨rfl, HL9.out.b⟩

/-! ### THE ROW's STEP: WRITTEN OUT: LEAVE IT -/
set_option maxRecDepth 100000 in
theorem lifted (os : Os) (started : os.Started) (H : Type) (enc : TypeId × Value → H) :
    ReturnsInHanded {} Try.checked os 5 .any (Rows.documentHoldsSpec.pre6 enc Try.prog Try.f5 Rows.documentHoldsRow.domain false) (Rows.documentHoldsSpec.post enc Try.prog Try.f5 false true false false) := by
  refine returnsInHanded_of_change (C := Try.checked) own started (by kernel_rfl) Try.func5
    (ChangeSpec.witness6 (enc := enc) (C := Try.checked) false ⟨#[], #[.int .i64 0, .bool false, .int .i64 0], []⟩ 8 (by kernel_rfl) (by kernel_rfl) (by kernel_rfl) (by kernel_rfl)) ?_
  intro W base args ds gs before hval0 hW hcnd _
  have hval : ∀ (j : Nat) t v, Try.f5.params[j]? = some t → args[j]? = some v → Value.okWide Try.prog W .any base t v := hval0
  have hW' := hW
  obtain ⟨p, q, hA0, hV, rfl, hfz, hnd⟩ := hW
  have hA : DataW.TrodAll enc Try.prog W 0 (fun _ => true) true Try.f5.params.toList args.toList ds p := hA0
  rw [Try.params5] at hA hval
  obtain ⟨v0, vs0, d0, ds0, p0, q0, hargs, rfl, rfl, h0, r0⟩ := trodAll_cons hA
  obtain ⟨v1, vs1, d1, ds1, p1, q1, rfl, rfl, rfl, h1, r1⟩ := trodAll_cons r0
  obtain ⟨v2, vs2, d2, ds2, p2, q2, rfl, rfl, rfl, h2, r2⟩ := trodAll_cons r1
  obtain ⟨rfl, rfl, rfl⟩ := trodAll_nil r2
  obtain rfl : args = #[v0, v1, v2] := by cases args; simp_all
  obtain ⟨rfl, rfl⟩ := trodVars_none hV
  obtain ⟨a0, rfl, rfl, rfl, w0⟩ := open_int Try.underlying3 (hval 0 3 v0 rfl rfl) h0
  obtain ⟨a1, rfl, rfl, rfl⟩ := open_bool Try.underlying4 (hval 1 4 v1 rfl rfl) h1
  obtain ⟨a2, rfl, rfl, rfl, w2⟩ := open_int Try.underlying3 (hval 2 3 v2 rfl rfl) h2
  clear hA0 hval0
  simp only [List.append_nil] at hW'
  refine (walk a0 a1 a2 w0 w2 W).mono fun e W' ⟨he, bel⟩ => ?_
  subst he
  exact ⟨_, rfl, _, _, _, [], _, [], hW', trodAll_mk1 (shut_bool Try.underlying4 _), (trodAll_cons_mk (shut_int Try.underlying3 w0) (trodAll_cons_mk (shut_bool Try.underlying4 _) (trodAll_cons_mk (shut_int Try.underlying3 w2) trodAll_mk0))), rfl, bel.frame _, fun h => by cases h⟩

theorem over : Rows.documentHoldsRow.holds Try.pinned (OpenSpec.ofChange Rows.documentHoldsSpec) :=
  OpenClaim.holds_of_wide 5 Try.f5 rfl rfl rfl rfl rfl rfl rfl ⟨rfl, rfl, rfl, rfl, rfl⟩ rfl rfl rfl rfl rfl (by kernel_rfl) Try.func5 (by kernel_rfl)
    (of_decide_eq_true (by kernel_rfl)) (by unfold Func.isWrapper; first | (rw [if_pos (by decide +kernel)]; kernel_rfl) | (rw [if_neg (by decide +kernel)]; exact ⟨rfl, rfl⟩))
    (fun os started H enc _ => lifted os started H enc)

/-- ████ THE STATEMENT ████ -/
theorem proved : Rows.DocumentHoldsSaid :=
  over
#print axioms proved
end Go.Proofs.Ytkehgoailhpenaa.documentHolds
