/- LWf, with the texts that only it needs in front of it: LFt, LFr. It has no conditions. -/
import Derived.Test.YtgfhhpodcnohpaaDoorLFu
import Derived.Test.YtgfhhpodcnohpaaDoorLQr
import Derived.Deep.QuietTactic
import Derived.Test.YtgfhhpodcnohpaaDoorLWt
import Derived.Test.YtgfhhpodcnohpaaDoorLLn
import Derived.Test.YtgfhhpodcnohpaaDoorAround
import Derived.Test.YtgfhhpodcnohpaaDoorWf

/- Tokens: Fits of the program and of the reference. Conditions: texts of at most 100000 bytes; the tables and the library's range error lie in memory. -/
namespace Go.Proofs.YtgfhhpodcnohpaaDoor
open Go.RowKit Go.Shelf
set_option linter.unusedVariables false

/-- A token is within its limits. -/
def fitV (k : Int) (s : ByteArray) : Bool :=
  if onlyV (sb s) = (k, true) then (if k = 2 ∨ k = 3 then decide (s.size ≤ 16) else if k = 4 then smV (sb s) else if k = 5 then decide (posV (s.extract 1 (s.size - 1)) = 0) else decide (k ≠ 8)) else false
theorem only_pos {s : ByteArray} {k : Int} (h : onlyV (sb s) = (k, true)) : sb s ≠ [] ∧ 0 < s.size ∧ (fst_ (sb s)).1 = k ∧ (fst_ (sb s)).2 = (sb s).length := by
  unfold onlyV at h
  by_cases h0 : sb s = []
  · rw [if_pos h0] at h; simp at h
  · rw [if_neg h0] at h
    simp only [Prod.mk.injEq, decide_eq_true_eq] at h
    have := List.length_pos_iff.2 h0
    rw [sb_len] at this
    exact ⟨h0, this, h.1, h.2⟩
theorem only_dig {s : ByteArray} (h : onlyV (sb s) = (4, true)) : Dig (sb s) := by
  obtain ⟨h0, _, h1, h2⟩ := only_pos h
  obtain ⟨l, hl⟩ : ∃ l, sb s = l := ⟨_, rfl⟩
  rw [hl] at h0 h1 h2 ⊢
  cases l with
  | nil => exact absurd rfl h0
  | cons c r =>
    unfold fst_ at h1 h2
    by_cases hp : 0 < (prop (c :: r)).2
    · rw [if_pos hp] at h1 h2
      rw [prop] at h1 h2
      repeat' split at h1
      all_goals first | (simp at h1; done) | skip
      rename_i g1 g2 g3 g4 g5
      rw [if_neg g1, if_neg g2, if_neg g3, if_neg g4, if_pos g5] at h2
      simp only at h2
      intro x hx
      obtain ⟨i, hi, rfl⟩ := List.getElem_of_mem hx
      obtain ⟨d, hd, hq⟩ := run_isin isDi (c :: r) i (by omega)
      rw [List.getElem?_eq_getElem hi] at hd
      cases hd
      unfold isDi at hq
      exact of_decide_eq_true hq
    · rw [if_neg hp] at h1; simp at h1

set_option maxRecDepth 100000 in
set_option maxHeartbeats 8000000 in
theorem pfits_any (k : Int) (s : ByteArray) (x : Int) (hs : s.size ≤ 100000) (w : World) (hT : LexW w) (hE : ErrW w) :
    Calls Tryd.prog 20 #[.agg #[.int .i64 k, .string s, .int .i64 x]] w fun e w' => e = .returned (.bool (fitV k s)) ∧ Below w.heap.size w w' := by
  obtain ⟨W1, hW1⟩ : ∃ W, w.alloc (.cells #[.int .i64 k, .string s, .int .i64 x] 31) = W := ⟨_, rfl⟩
  obtain ⟨Z, hZ⟩ : ∃ Z, w.heap.size = Z := ⟨_, rfl⟩
  have hrow : Blk W1 Z 31 #[.int .i64 k, .string s, .int .i64 x] := by rw [← hW1, ← hZ]; exact Blk.new _ _ _
  have hb1 : Below w.heap.size w W1 := by rw [← hW1]; exact (Below.refl _ _).alloc (Nat.le_refl _) _
  have c0 := istoken_any s k hs W1 (hT.t.below hb1)
  have hZ1 : Z < W1.heap.size := hrow.lt
  have p0 : W1.cell? ⟨Z, 0, none⟩ = some (.int .i64 k) := hrow.cell 0
  have p1 : W1.cell? ⟨Z, 1, none⟩ = some (.string s) := hrow.cell 1
  have HCL : Hid (∀ W, Below W1.heap.size W1 W → W.cell? ⟨Z, 0, none⟩ = some (.int .i64 k) ∧ W.cell? ⟨Z, 1, none⟩ = some (.string s)) := Lib.hid fun W hW => ⟨(hW.cell (p := ⟨Z, 0, none⟩) hZ1).trans p0, (hW.cell (p := ⟨Z, 1, none⟩) hZ1).trans p1⟩
  have HT1 := Lib.hid (hT.below hb1)
  have HE1 := Lib.hid (hE.below hb1)
  have HB1 := Lib.hid hb1
  have hz1 := hb1.size
  have HW1 := Lib.hid hW1
  have HZ := Lib.hid hZ
  have hf : fitV k s = if onlyV (sb s) = (k, true) then (if k = 2 ∨ k = 3 then decide (s.size ≤ 16) else if k = 4 then smV (sb s) else if k = 5 then decide (posV (s.extract 1 (s.size - 1)) = 0) else decide (k ≠ 8)) else false := rfl
  obtain ⟨R, hR⟩ : ∃ R, fitV k s = R := ⟨_, rfl⟩
  rw [hR] at hf ⊢
  have HF := Lib.hid hf
  clear hrow hb1 hT hE hW1 hZ hf hR
  by_cases ho : onlyV (sb s) = (k, true)
  · rw [decide_eq_true ho] at c0
    have C0 := Lib.hid c0
    have hpos := only_pos ho
    have HO := Lib.hid ho
    have h0s := hpos.2.1
    clear c0 hpos ho
    by_cases k2 : k = 2
    · subst k2
      have HR : Hid (R = decide (s.size ≤ 16)) := Lib.hid (by rw [HF.out, if_pos HO.out, if_pos (by simp)])
      have hd : decide ((s.size : Int) ≤ 16) = decide (s.size ≤ 16) := by
        by_cases h : s.size ≤ 16
        · rw [decide_eq_true h, decide_eq_true (by omega)]
        · rw [decide_eq_false h, decide_eq_false (by omega)]
      obtain ⟨b, hb⟩ : ∃ b, decide (s.size ≤ 16) = b := ⟨_, rfl⟩
      rw [hb] at hd HR
      have HD := Lib.hid hd
      clear hd hb
      go_enter Tryd.func20, Tryd.ntmps20
      go_wp2_with fail
      rw [HZ.out, show w.alloc (.cells #[.int .i64 2, .string s, .int .i64 x] 31) = W1 from HW1.out]
      refine C0.out.mono ?_
      rintro e w2 ⟨rfl, hb2⟩
      obtain ⟨q0, q1⟩ := HCL.out w2 hb2
      have HT2 := Lib.hid (HT1.out.below hb2)
      have HE2 := Lib.hid (HE1.out.below hb2)
      have HB12 := Lib.hid hb2
      have HB2 := Lib.hid (HB1.out.trans (hb2.mono hz1))
      clear hb2 p0 p1
      go_wp2
      go_ret
      exact ⟨by rw [HR.out, ← HD.out]; first | rfl | simp, HB2.out⟩
    by_cases k3 : k = 3
    · subst k3
      have HR : Hid (R = decide (s.size ≤ 16)) := Lib.hid (by rw [HF.out, if_pos HO.out, if_pos (by simp)])
      have hd : decide ((s.size : Int) ≤ 16) = decide (s.size ≤ 16) := by
        by_cases h : s.size ≤ 16
        · rw [decide_eq_true h, decide_eq_true (by omega)]
        · rw [decide_eq_false h, decide_eq_false (by omega)]
      obtain ⟨b, hb⟩ : ∃ b, decide (s.size ≤ 16) = b := ⟨_, rfl⟩
      rw [hb] at hd HR
      have HD := Lib.hid hd
      clear hd hb
      go_enter Tryd.func20, Tryd.ntmps20
      go_wp2_with fail
      rw [HZ.out, show w.alloc (.cells #[.int .i64 3, .string s, .int .i64 x] 31) = W1 from HW1.out]
      refine C0.out.mono ?_
      rintro e w2 ⟨rfl, hb2⟩
      obtain ⟨q0, q1⟩ := HCL.out w2 hb2
      have HT2 := Lib.hid (HT1.out.below hb2)
      have HE2 := Lib.hid (HE1.out.below hb2)
      have HB12 := Lib.hid hb2
      have HB2 := Lib.hid (HB1.out.trans (hb2.mono hz1))
      clear hb2 p0 p1
      go_wp2
      go_ret
      exact ⟨by rw [HR.out, ← HD.out]; first | rfl | simp, HB2.out⟩
    by_cases k4 : k = 4
    · subst k4
      have HR : Hid (R = smV (sb s)) := Lib.hid (by rw [HF.out, if_pos HO.out, if_neg (by simp), if_pos rfl])
      have hdg := only_dig HO.out
      have HPU := Lib.hid (fun W h => pu_any s hs h0s hdg W h)
      clear hdg
      go_enter Tryd.func20, Tryd.ntmps20
      go_wp2_with fail
      rw [HZ.out, show w.alloc (.cells #[.int .i64 4, .string s, .int .i64 x] 31) = W1 from HW1.out]
      refine C0.out.mono ?_
      rintro e w2 ⟨rfl, hb2⟩
      obtain ⟨q0, q1⟩ := HCL.out w2 hb2
      have HT2 := Lib.hid (HT1.out.below hb2)
      have HE2 := Lib.hid (HE1.out.below hb2)
      have HB12 := Lib.hid hb2
      have HB2 := Lib.hid (HB1.out.trans (hb2.mono hz1))
      clear hb2 p0 p1
      go_wp2_with fail
      refine (HPU.out _ HE2.out).mono ?_
      rintro e w3 ⟨n, ev, rfl, hb3, hcase⟩
      have HB3 := Lib.hid (HB2.out.trans (hb3.mono HB2.out.size))
      clear hb3
      rcases hcase with ⟨rfl, hsm⟩ | ⟨⟨te, pe, rfl⟩, hsm⟩
      · have hd : decide ((n : Int) ≤ 1099511627776) = decide (n ≤ 1099511627776) := by
          by_cases h : n ≤ 1099511627776
          · rw [decide_eq_true h, decide_eq_true (by omega)]
          · rw [decide_eq_false h, decide_eq_false (by omega)]
        rw [← hd] at hsm
        obtain ⟨b, hb⟩ : ∃ b, decide ((n : Int) ≤ 1099511627776) = b := ⟨_, rfl⟩
        rw [hb] at hsm
        have HSM := Lib.hid hsm
        have HBB := Lib.hid hb
        clear hsm hd hb
        go_wp2
        go_ret
        exact ⟨by rw [HR.out, HSM.out, ← HBB.out]; first | rfl | simp, HB3.out⟩
      · have HSM := Lib.hid hsm
        clear hsm
        go_wp2
        go_ret
        exact ⟨by rw [HR.out, HSM.out]; first | rfl | simp, HB3.out⟩
    by_cases k5 : k = 5
    · subst k5
      have HR : Hid (R = decide (posV (s.extract 1 (s.size - 1)) = 0)) := Lib.hid (by rw [HF.out, if_pos HO.out, if_neg (by simp), if_neg (by simp), if_pos rfl])
      have h2 := unq_size HO.out
      have C1 := Lib.hid (fun W => pcontents_any s hs h2 W)
      obtain ⟨u, hu⟩ : ∃ u, s.extract 1 (s.size - 1) = u := ⟨_, rfl⟩
      have huz : u.size ≤ 100000 := by rw [← hu, ByteArray.size_extract]; omega
      rw [hu] at C1 HR
      have c2 := fun W h => possible_any u huz W h
      obtain ⟨p, hp⟩ : ∃ p, posV u = p := ⟨_, rfl⟩
      rw [hp] at c2 HR
      have hpd : (p == 0) = decide (p = 0) := by
        by_cases h : p = 0
        · rw [decide_eq_true h, h]; rfl
        · rw [decide_eq_false h]; exact beq_eq_false_iff_ne.2 h
      obtain ⟨b, hb⟩ : ∃ b, decide (p = 0) = b := ⟨_, rfl⟩
      rw [hb] at hpd HR
      have C2 := Lib.hid c2
      have HPD := Lib.hid hpd
      clear c2 hu hp hb hpd
      go_enter Tryd.func20, Tryd.ntmps20
      go_wp2_with fail
      rw [HZ.out, show w.alloc (.cells #[.int .i64 5, .string s, .int .i64 x] 31) = W1 from HW1.out]
      refine C0.out.mono ?_
      rintro e w2 ⟨rfl, hb2⟩
      obtain ⟨q0, q1⟩ := HCL.out w2 hb2
      have HT2 := Lib.hid (HT1.out.below hb2)
      have HE2 := Lib.hid (HE1.out.below hb2)
      have HB12 := Lib.hid hb2
      have HB2 := Lib.hid (HB1.out.trans (hb2.mono hz1))
      clear hb2 p0 p1
      go_wp2_with fail
      refine (C1.out _).mono ?_
      rintro e w3 ⟨rfl, rfl⟩
      go_wp2_with fail
      refine (C2.out _ HT2.out).mono ?_
      rintro e w4 ⟨rfl, hb4⟩
      have HB4 := Lib.hid (HB2.out.trans (hb4.mono HB2.out.size))
      clear hb4
      go_wp2
      go_ret
      exact ⟨by rw [HR.out, ← HPD.out]; first | rfl | simp, HB4.out⟩
    have HR : Hid (R = decide (k ≠ 8)) := Lib.hid (by rw [HF.out, if_pos HO.out, if_neg (by rintro (h | h); exact k2 h; exact k3 h), if_neg k4, if_neg k5])
    have Q2 : (k == 2) = false := beq_eq_false_iff_ne.2 k2
    have Q3 : (k == 3) = false := beq_eq_false_iff_ne.2 k3
    have Q4 : (k == 4) = false := beq_eq_false_iff_ne.2 k4
    have Q5 : (k == 5) = false := beq_eq_false_iff_ne.2 k5
    have hd : (k != 8) = decide (k ≠ 8) := by
      by_cases h : k = 8
      · rw [decide_eq_false (by simpa using h), h]; rfl
      · rw [decide_eq_true h]; exact bne_iff_ne.2 h
    obtain ⟨b, hb⟩ : ∃ b, decide (k ≠ 8) = b := ⟨_, rfl⟩
    rw [hb] at hd HR
    have HD := Lib.hid hd
    clear hd hb k2 k3 k4 k5
    go_enter Tryd.func20, Tryd.ntmps20
    go_wp2_with fail
    rw [HZ.out, show w.alloc (.cells #[.int .i64 k, .string s, .int .i64 x] 31) = W1 from HW1.out]
    refine C0.out.mono ?_
    rintro e w2 ⟨rfl, hb2⟩
    obtain ⟨q0, q1⟩ := HCL.out w2 hb2
    have HT2 := Lib.hid (HT1.out.below hb2)
    have HE2 := Lib.hid (HE1.out.below hb2)
    have HB12 := Lib.hid hb2
    have HB2 := Lib.hid (HB1.out.trans (hb2.mono hz1))
    clear hb2 p0 p1
    go_wp2
    go_ret
    exact ⟨by rw [HR.out, ← HD.out]; first | rfl | simp, HB2.out⟩
  · rw [decide_eq_false ho] at c0
    have C0 := Lib.hid c0
    have HR : Hid (R = false) := Lib.hid (by rw [HF.out, if_neg ho])
    clear c0 ho
    go_enter Tryd.func20, Tryd.ntmps20
    go_wp2_with fail
    rw [HZ.out, show w.alloc (.cells #[.int .i64 k, .string s, .int .i64 x] 31) = W1 from HW1.out]
    refine C0.out.mono ?_
    rintro e w2 ⟨rfl, hb2⟩
    obtain ⟨q0, q1⟩ := HCL.out w2 hb2
    have HT2 := Lib.hid (HT1.out.below hb2)
    have HE2 := Lib.hid (HE1.out.below hb2)
    have HB12 := Lib.hid hb2
    have HB2 := Lib.hid (HB1.out.trans (hb2.mono hz1))
    clear hb2 p0 p1
    go_wp2
    go_ret
    exact ⟨by rw [HR.out]; rfl, HB2.out⟩

end Go.Proofs.YtgfhhpodcnohpaaDoor

/- Tokens: the reference's Fits. Conditions: texts of at most 100000 bytes. -/
namespace Go.Proofs.YtgfhhpodcnohpaaDoor
open Go.RowKit Go.Shelf
set_option linter.unusedVariables false

set_option maxRecDepth 100000 in
set_option maxHeartbeats 8000000 in
theorem rfits_any (k : Int) (s : ByteArray) (x : Int) (hs : s.size ≤ 100000) (w : World) :
    Calls Tryd.prog 21 #[.agg #[.int .i64 k, .string s, .int .i64 x]] w fun e w' => e = .returned (.bool (fitV k s)) ∧ Below w.heap.size w w' := by
  obtain ⟨W1, hW1⟩ : ∃ W, w.alloc (.cells #[.int .i64 k, .string s, .int .i64 x] 31) = W := ⟨_, rfl⟩
  obtain ⟨Z, hZ⟩ : ∃ Z, w.heap.size = Z := ⟨_, rfl⟩
  have hrow : Blk W1 Z 31 #[.int .i64 k, .string s, .int .i64 x] := by rw [← hW1, ← hZ]; exact Blk.new _ _ _
  have hb1 : Below w.heap.size w W1 := by rw [← hW1]; exact (Below.refl _ _).alloc (Nat.le_refl _) _
  have c0 := rtoks_any s hs W1
  have hol := only_lex (sb s) k
  obtain ⟨L, hL⟩ : ∃ L, lex (sb s) 0 = L := ⟨_, rfl⟩
  rw [hL] at c0 hol
  unfold NewTs at c0
  have C0 := Lib.hid c0
  have hZ1 : Z < W1.heap.size := hrow.lt
  have p0 : W1.cell? ⟨Z, 0, none⟩ = some (.int .i64 k) := hrow.cell 0
  have p1 : W1.cell? ⟨Z, 1, none⟩ = some (.string s) := hrow.cell 1
  have HCL : Hid (∀ W, Below W1.heap.size W1 W → W.cell? ⟨Z, 0, none⟩ = some (.int .i64 k) ∧ W.cell? ⟨Z, 1, none⟩ = some (.string s)) := Lib.hid fun W hW => ⟨(hW.cell (p := ⟨Z, 0, none⟩) hZ1).trans p0, (hW.cell (p := ⟨Z, 1, none⟩) hZ1).trans p1⟩
  have HB1 := Lib.hid hb1
  have hz1 := hb1.size
  have HW1 := Lib.hid hW1
  have HZ := Lib.hid hZ
  have hf : fitV k s = if onlyV (sb s) = (k, true) then (if k = 2 ∨ k = 3 then decide (s.size ≤ 16) else if k = 4 then smV (sb s) else if k = 5 then decide (posV (s.extract 1 (s.size - 1)) = 0) else decide (k ≠ 8)) else false := rfl
  obtain ⟨R, hR⟩ : ∃ R, fitV k s = R := ⟨_, rfl⟩
  rw [hR] at hf ⊢
  have HF := Lib.hid hf
  clear hrow hb1 hW1 hZ hf hR c0 hL
  by_cases ho : onlyV (sb s) = (k, true)
  · obtain ⟨hl1, hk1⟩ := hol.2 ho
    have HO := Lib.hid ho
    have h0s := (only_pos ho).2.1
    clear hol ho
    by_cases k2 : k = 2
    · subst k2
      have HR : Hid (R = decide (s.size ≤ 16)) := Lib.hid (by rw [HF.out, if_pos HO.out, if_pos (by simp)])
      have hd : decide ((s.size : Int) ≤ 16) = decide (s.size ≤ 16) := by
        by_cases h : s.size ≤ 16
        · rw [decide_eq_true h, decide_eq_true (by omega)]
        · rw [decide_eq_false h, decide_eq_false (by omega)]
      obtain ⟨b, hb⟩ : ∃ b, decide (s.size ≤ 16) = b := ⟨_, rfl⟩
      rw [hb] at hd HR
      have HD := Lib.hid hd
      clear hd hb
      go_enter Tryd.func21, Tryd.ntmps21
      go_wp2_with fail
      rw [HZ.out, show w.alloc (.cells #[.int .i64 2, .string s, .int .i64 x] 31) = W1 from HW1.out]
      refine C0.out.mono ?_
      rintro e w2 ⟨u2, rfl, hown, hb2⟩
      rw [hl1] at hown
      obtain ⟨a2, cp2, rfl, hcl⟩ := trow hown hl1
      obtain ⟨g2, rfl, hg2, hcell⟩ := hcl (by omega)
      have d0 := (hcell w2 rfl 0 (by omega)).1
      rw [hk1] at d0
      have d0' : w2.cell? ⟨g2, 0, none⟩ = some (.int .i64 2) := by simpa using d0
      obtain ⟨q0, q1⟩ := HCL.out w2 hb2
      have HB12 := Lib.hid hb2
      have HB2 := Lib.hid (HB1.out.trans (hb2.mono hz1))
      clear hb2 p0 p1 hown hcl hcell d0
      go_wp2_with fail
      go_quiet (fail)
      have r0 : (w2.drewN nq).cell? ⟨Z, 0, none⟩ = some (.int .i64 2) := q0
      have r1 : (w2.drewN nq).cell? ⟨Z, 1, none⟩ = some (.string s) := q1
      have HB3 : Hid (Below w.heap.size w (w2.drewN nq)) := below_drewN HB2.out _
      go_wp2
      go_ret
      exact ⟨by rw [HR.out, ← HD.out]; first | rfl | simp, HB3.out⟩
    by_cases k3 : k = 3
    · subst k3
      have HR : Hid (R = decide (s.size ≤ 16)) := Lib.hid (by rw [HF.out, if_pos HO.out, if_pos (by simp)])
      have hd : decide ((s.size : Int) ≤ 16) = decide (s.size ≤ 16) := by
        by_cases h : s.size ≤ 16
        · rw [decide_eq_true h, decide_eq_true (by omega)]
        · rw [decide_eq_false h, decide_eq_false (by omega)]
      obtain ⟨b, hb⟩ : ∃ b, decide (s.size ≤ 16) = b := ⟨_, rfl⟩
      rw [hb] at hd HR
      have HD := Lib.hid hd
      clear hd hb
      go_enter Tryd.func21, Tryd.ntmps21
      go_wp2_with fail
      rw [HZ.out, show w.alloc (.cells #[.int .i64 3, .string s, .int .i64 x] 31) = W1 from HW1.out]
      refine C0.out.mono ?_
      rintro e w2 ⟨u2, rfl, hown, hb2⟩
      rw [hl1] at hown
      obtain ⟨a2, cp2, rfl, hcl⟩ := trow hown hl1
      obtain ⟨g2, rfl, hg2, hcell⟩ := hcl (by omega)
      have d0 := (hcell w2 rfl 0 (by omega)).1
      rw [hk1] at d0
      have d0' : w2.cell? ⟨g2, 0, none⟩ = some (.int .i64 3) := by simpa using d0
      obtain ⟨q0, q1⟩ := HCL.out w2 hb2
      have HB12 := Lib.hid hb2
      have HB2 := Lib.hid (HB1.out.trans (hb2.mono hz1))
      clear hb2 p0 p1 hown hcl hcell d0
      go_wp2_with fail
      go_quiet (fail)
      have r0 : (w2.drewN nq).cell? ⟨Z, 0, none⟩ = some (.int .i64 3) := q0
      have r1 : (w2.drewN nq).cell? ⟨Z, 1, none⟩ = some (.string s) := q1
      have HB3 : Hid (Below w.heap.size w (w2.drewN nq)) := below_drewN HB2.out _
      go_wp2
      go_ret
      exact ⟨by rw [HR.out, ← HD.out]; first | rfl | simp, HB3.out⟩
    by_cases k4 : k = 4
    · subst k4
      have HR : Hid (R = smV (sb s)) := Lib.hid (by rw [HF.out, if_pos HO.out, if_neg (by simp), if_pos rfl])
      have hdg := only_dig HO.out
      have HSM := Lib.hid (fun W => rsmall_any s hs hdg W)
      clear hdg
      go_enter Tryd.func21, Tryd.ntmps21
      go_wp2_with fail
      rw [HZ.out, show w.alloc (.cells #[.int .i64 4, .string s, .int .i64 x] 31) = W1 from HW1.out]
      refine C0.out.mono ?_
      rintro e w2 ⟨u2, rfl, hown, hb2⟩
      rw [hl1] at hown
      obtain ⟨a2, cp2, rfl, hcl⟩ := trow hown hl1
      obtain ⟨g2, rfl, hg2, hcell⟩ := hcl (by omega)
      have d0 := (hcell w2 rfl 0 (by omega)).1
      rw [hk1] at d0
      have d0' : w2.cell? ⟨g2, 0, none⟩ = some (.int .i64 4) := by simpa using d0
      obtain ⟨q0, q1⟩ := HCL.out w2 hb2
      have HB12 := Lib.hid hb2
      have HB2 := Lib.hid (HB1.out.trans (hb2.mono hz1))
      clear hb2 p0 p1 hown hcl hcell d0
      go_wp2_with fail
      go_quiet (fail)
      have r0 : (w2.drewN nq).cell? ⟨Z, 0, none⟩ = some (.int .i64 4) := q0
      have r1 : (w2.drewN nq).cell? ⟨Z, 1, none⟩ = some (.string s) := q1
      have HB3 : Hid (Below w.heap.size w (w2.drewN nq)) := below_drewN HB2.out _
      go_wp2_with fail
      refine (HSM.out _).mono ?_
      rintro e w3 ⟨rfl, rfl⟩
      go_wp2
      go_ret
      exact ⟨by rw [HR.out]; first | rfl | simp, HB3.out⟩
    by_cases k5 : k = 5
    · subst k5
      have HR : Hid (R = decide (posV (s.extract 1 (s.size - 1)) = 0)) := Lib.hid (by rw [HF.out, if_pos HO.out, if_neg (by simp), if_neg (by simp), if_pos rfl])
      have h2 := unq_size HO.out
      obtain ⟨n, hn⟩ : ∃ n, s.size - 1 = n := ⟨_, rfl⟩
      have e1 : (s.size : Int) - 1 = (n : Int) := by omega
      have e2 : (1 : Int) ≤ (n : Int) := by omega
      have e3 : (n : Int) ≤ (s.size : Int) := by omega
      rw [hn] at HR
      obtain ⟨u, hu⟩ : ∃ u, s.extract 1 n = u := ⟨_, rfl⟩
      have huz : u.size ≤ 100000 := by rw [← hu, ByteArray.size_extract]; omega
      rw [hu] at HR
      have c2 := fun W => rcontents_any u huz W
      obtain ⟨p, hp⟩ : ∃ p, posV u = p := ⟨_, rfl⟩
      rw [hp] at c2 HR
      have hpd : (p == 0) = decide (p = 0) := by
        by_cases h : p = 0
        · rw [decide_eq_true h, h]; rfl
        · rw [decide_eq_false h]; exact beq_eq_false_iff_ne.2 h
      obtain ⟨b, hb⟩ : ∃ b, decide (p = 0) = b := ⟨_, rfl⟩
      rw [hb] at hpd HR
      have C2 := Lib.hid c2
      have HPD := Lib.hid hpd
      clear c2 hp hb hpd hn
      go_enter Tryd.func21, Tryd.ntmps21
      go_wp2_with fail
      rw [HZ.out, show w.alloc (.cells #[.int .i64 5, .string s, .int .i64 x] 31) = W1 from HW1.out]
      refine C0.out.mono ?_
      rintro e w2 ⟨u2, rfl, hown, hb2⟩
      rw [hl1] at hown
      obtain ⟨a2, cp2, rfl, hcl⟩ := trow hown hl1
      obtain ⟨g2, rfl, hg2, hcell⟩ := hcl (by omega)
      have d0 := (hcell w2 rfl 0 (by omega)).1
      rw [hk1] at d0
      have d0' : w2.cell? ⟨g2, 0, none⟩ = some (.int .i64 5) := by simpa using d0
      obtain ⟨q0, q1⟩ := HCL.out w2 hb2
      have HB12 := Lib.hid hb2
      have HB2 := Lib.hid (HB1.out.trans (hb2.mono hz1))
      clear hb2 p0 p1 hown hcl hcell d0
      go_wp2_with fail
      go_quiet (fail)
      have r0 : (w2.drewN nq).cell? ⟨Z, 0, none⟩ = some (.int .i64 5) := q0
      have r1 : (w2.drewN nq).cell? ⟨Z, 1, none⟩ = some (.string s) := q1
      have HB3 : Hid (Below w.heap.size w (w2.drewN nq)) := below_drewN HB2.out _
      go_wp2_with fail
      refine (C2.out _).mono ?_
      rintro e w4 ⟨rfl, rfl⟩
      go_wp2
      go_ret
      exact ⟨by rw [HR.out, ← HPD.out]; first | rfl | simp, HB3.out⟩
    by_cases k8 : k = 8
    · subst k8
      have HR : Hid (R = false) := Lib.hid (by rw [HF.out, if_pos HO.out]; simp)
      go_enter Tryd.func21, Tryd.ntmps21
      go_wp2_with fail
      rw [HZ.out, show w.alloc (.cells #[.int .i64 8, .string s, .int .i64 x] 31) = W1 from HW1.out]
      refine C0.out.mono ?_
      rintro e w2 ⟨u2, rfl, hown, hb2⟩
      rw [hl1] at hown
      obtain ⟨a2, cp2, rfl, hcl⟩ := trow hown hl1
      obtain ⟨g2, rfl, hg2, hcell⟩ := hcl (by omega)
      have d0 := (hcell w2 rfl 0 (by omega)).1
      rw [hk1] at d0
      have d0' : w2.cell? ⟨g2, 0, none⟩ = some (.int .i64 8) := by simpa using d0
      obtain ⟨q0, q1⟩ := HCL.out w2 hb2
      have HB12 := Lib.hid hb2
      have HB2 := Lib.hid (HB1.out.trans (hb2.mono hz1))
      clear hb2 p0 p1 hown hcl hcell d0
      go_wp2_with fail
      go_quiet (fail)
      have r0 : (w2.drewN nq).cell? ⟨Z, 0, none⟩ = some (.int .i64 8) := q0
      have r1 : (w2.drewN nq).cell? ⟨Z, 1, none⟩ = some (.string s) := q1
      have HB3 : Hid (Below w.heap.size w (w2.drewN nq)) := below_drewN HB2.out _
      go_wp2
      go_ret
      exact ⟨by rw [HR.out]; rfl, HB3.out⟩
    have HR : Hid (R = true) := Lib.hid (by rw [HF.out, if_pos HO.out, if_neg (by rintro (h | h); exact k2 h; exact k3 h), if_neg k4, if_neg k5]; exact decide_eq_true k8)
    have Q2 : (k == 2) = false := beq_eq_false_iff_ne.2 k2
    have Q3 : (k == 3) = false := beq_eq_false_iff_ne.2 k3
    have Q4 : (k == 4) = false := beq_eq_false_iff_ne.2 k4
    have Q5 : (k == 5) = false := beq_eq_false_iff_ne.2 k5
    have Q8 : (k == 8) = false := beq_eq_false_iff_ne.2 k8
    clear k2 k3 k4 k5 k8
    go_enter Tryd.func21, Tryd.ntmps21
    go_wp2_with fail
    rw [HZ.out, show w.alloc (.cells #[.int .i64 k, .string s, .int .i64 x] 31) = W1 from HW1.out]
    refine C0.out.mono ?_
    rintro e w2 ⟨u2, rfl, hown, hb2⟩
    rw [hl1] at hown
    obtain ⟨a2, cp2, rfl, hcl⟩ := trow hown hl1
    obtain ⟨g2, rfl, hg2, hcell⟩ := hcl (by omega)
    have d0 := (hcell w2 rfl 0 (by omega)).1
    rw [hk1] at d0
    have d0' : w2.cell? ⟨g2, 0, none⟩ = some (.int .i64 k) := by simpa using d0
    obtain ⟨q0, q1⟩ := HCL.out w2 hb2
    have HB12 := Lib.hid hb2
    have HB2 := Lib.hid (HB1.out.trans (hb2.mono hz1))
    clear hb2 p0 p1 hown hcl hcell d0
    go_wp2_with fail
    go_quiet (fail)
    have r0 : (w2.drewN nq).cell? ⟨Z, 0, none⟩ = some (.int .i64 k) := q0
    have r1 : (w2.drewN nq).cell? ⟨Z, 1, none⟩ = some (.string s) := q1
    have HB3 : Hid (Below w.heap.size w (w2.drewN nq)) := below_drewN HB2.out _
    go_wp2
    go_ret
    exact ⟨by rw [HR.out]; rfl, HB3.out⟩
  · have HR : Hid (R = false) := Lib.hid (by rw [HF.out, if_neg ho])
    obtain ⟨nl, hnl⟩ : ∃ n, L.length = n := ⟨_, rfl⟩
    by_cases h1 : nl = 1
    · have hk5 : ¬ (tg L 0).1 = k := fun e => ho (hol.1 ⟨by omega, e⟩)
      obtain ⟨kd, hkd⟩ : ∃ k, (tg L 0).1 = k := ⟨_, rfl⟩
      rw [hkd] at hk5
      have hkb : (kd != k) = true := bne_iff_ne.2 hk5
      have hl1 : L.length = 1 := by omega
      clear ho hol hk5 hnl h1
      go_enter Tryd.func21, Tryd.ntmps21
      go_wp2_with fail
      rw [HZ.out, show w.alloc (.cells #[.int .i64 k, .string s, .int .i64 x] 31) = W1 from HW1.out]
      refine C0.out.mono ?_
      rintro e w2 ⟨u2, rfl, hown, hb2⟩
      rw [hl1] at hown
      obtain ⟨a2, cp2, rfl, hcl⟩ := trow hown hl1
      obtain ⟨g2, rfl, hg2, hcell⟩ := hcl (by omega)
      have d0 := (hcell w2 rfl 0 (by omega)).1
      rw [hkd] at d0
      have d0' : w2.cell? ⟨g2, 0, none⟩ = some (.int .i64 kd) := by simpa using d0
      obtain ⟨q0, q1⟩ := HCL.out w2 hb2
      have HB12 := Lib.hid hb2
      have HB2 := Lib.hid (HB1.out.trans (hb2.mono hz1))
      clear hb2 p0 p1 hown hcl hcell d0
      go_wp2_with fail
      go_quiet (fail)
      have r0 : (w2.drewN nq).cell? ⟨Z, 0, none⟩ = some (.int .i64 k) := q0
      have r1 : (w2.drewN nq).cell? ⟨Z, 1, none⟩ = some (.string s) := q1
      have HB3 : Hid (Below w.heap.size w (w2.drewN nq)) := below_drewN HB2.out _
      go_wp2
      go_ret
      exact ⟨by rw [HR.out]; rfl, HB3.out⟩
    · have hb1 : ((nl : Int) != 1) = true := by rw [bne_iff_ne]; omega
      have HNL := Lib.hid hnl
      clear ho hol hnl
      go_enter Tryd.func21, Tryd.ntmps21
      go_wp2_with fail
      rw [HZ.out, show w.alloc (.cells #[.int .i64 k, .string s, .int .i64 x] 31) = W1 from HW1.out]
      refine C0.out.mono ?_
      rintro e w2 ⟨u2, rfl, hown, hb2⟩
      rw [HNL.out] at hown
      obtain ⟨a2, cp2, rfl⟩ := own_slice hown
      have HB2 := Lib.hid (HB1.out.trans (hb2.mono hz1))
      clear hb2 p0 p1 hown
      go_wp2_with fail
      go_quiet (fail)
      have HB3 : Hid (Below w.heap.size w (w2.drewN nq)) := below_drewN HB2.out _
      go_wp2
      go_ret
      exact ⟨by rw [HR.out]; rfl, HB3.out⟩

end Go.Proofs.YtgfhhpodcnohpaaDoor

/- Tokens: the walk of LexerFits. Conditions: the tables and the library's range error lie in memory. -/
namespace Go.Proofs.YtgfhhpodcnohpaaDoor
open Go.RowKit Go.Shelf
set_option linter.unusedVariables false

theorem lex_tok : ∀ (N : Nat) (l : List Int) (p : Nat), l.length ≤ N → ∀ t ∈ lex l p, t.2.1 ≠ [] ∧ fst_ t.2.1 = (t.1, t.2.1.length) := by
  intro N
  induction N with
  | zero =>
    intro l p h
    have : l = [] := List.eq_nil_of_length_eq_zero (by omega)
    subst this
    intro t ht
    cases ht
  | succ N ih =>
    intro l p h
    by_cases h0 : l = []
    · subst h0; intro t ht; cases ht
    · have hp := fst_pos h0
      rw [lex_step h0]
      intro t ht
      rcases List.mem_cons.1 ht with rfl | ht
      · have hs := (t_split h0).1
        have hl : (l.take (fst_ l).2).length = (fst_ l).2 := by rw [List.length_take]; omega
        show l.take (fst_ l).2 ≠ [] ∧ fst_ (l.take (fst_ l).2) = ((fst_ l).1, (l.take (fst_ l).2).length)
        refine ⟨fun e => ?_, ?_⟩
        · rw [e] at hl; simp at hl; omega
        · rw [hs, hl]
      · exact ih (l.drop (fst_ l).2) (p + (fst_ l).2) (by rw [List.length_drop]; omega) t ht
theorem kw_fst : ∀ u ∈ KW, (fst_ u).1 = 7 := by decide
theorem kw_only {u : List Int} {k : Int} (h0 : u ≠ []) (h : fst_ u = (k, u.length)) : decide (u ∈ KW) = (k == 7) := by
  by_cases hu : u ∈ KW
  · have h1 := kw_fst u hu
    rw [h] at h1
    rw [decide_eq_true hu]
    simp only at h1
    rw [h1]
    rfl
  · rw [decide_eq_false hu]
    symm
    rw [beq_eq_false_iff_ne]
    intro e
    subst e
    cases u with
    | nil => exact absurd rfl h0
    | cons c r =>
      unfold fst_ at h
      by_cases hp : 0 < (prop (c :: r)).2
      · rw [if_pos hp] at h
        rw [prop] at h
        repeat' split at h
        all_goals first | (simp at h; done) | skip
        rename_i g1 g2 g3 g4
        simp only [Prod.mk.injEq, true_and] at h
        rw [h, List.take_length] at g4
        exact hu g4
      · rw [if_neg hp] at h
        simp at h
theorem Mo.store0 {M : List Tk} {g k : Nat} {w : World} (h : Mo M g k w) (v : Value) : Mo M g (k + 1) (w.setCell ⟨g, k * 3, none⟩ v) := by
  refine ⟨fun o => by rw [World.frozen?_setCell]; exact h.1 o, fun i h1 h2 => ?_⟩
  obtain ⟨a, b, c⟩ := h.2 i (by omega) h2
  exact ⟨mo_cell (by omega) a, mo_cell (by omega) b, mo_cell (by omega) c⟩

set_option maxRecDepth 100000 in
set_option maxHeartbeats 16000000 in
theorem walkFits (s : ByteArray) (kd at_ : Int) (a : Option Addr) (cap : Nat) (ls : List Int) (w : World) (hT : LexW w) (hE : ErrW w) (hs : s.size ≤ 9223372036854775807) (hk : -9223372036854775808 ≤ kd ∧ kd ≤ 9223372036854775807)
    (h : Sli .i64 w a cap ls) (hi : ∀ n ∈ ls, -9223372036854775808 ≤ n ∧ n ≤ 9223372036854775807) :
    Calls Tryd.prog 5 #[.string s, .int .i64 kd, .int .i64 at_, .slice a ls.length cap] w fun e w' => e = .returned (.bool true) ∧ Below w.heap.size w w' := by
  have c1 := fun W (hb : Below w.heap.size w W) => source_any a cap ls W (h.below hb) hi
  have C1 := Lib.hid c1
  have HT := Lib.hid hT
  have HE := Lib.hid hE
  obtain ⟨S, hS⟩ : ∃ S, shS s 100 = S := ⟨_, rfl⟩
  have cS := fun W => short_any s 100 W hs (by omega)
  have hSl : S.size ≤ 100 := by rw [← hS]; exact shS_size s 100
  rw [hS] at cS
  have CS := Lib.hid cS
  obtain ⟨W1, hW1⟩ : ∃ W, w.alloc (.cells #[.int .i64 kd, .string S, .int .i64 at_] 31) = W := ⟨_, rfl⟩
  obtain ⟨Z, hZ⟩ : ∃ Z, w.heap.size = Z := ⟨_, rfl⟩
  have hrow : Blk W1 Z 31 #[.int .i64 kd, .string S, .int .i64 at_] := by rw [← hW1, ← hZ]; exact Blk.new _ _ _
  have hb1 : Below w.heap.size w W1 := by rw [← hW1]; exact (Below.refl _ _).alloc (Nat.le_refl _) _
  have hZ1 : Z < W1.heap.size := hrow.lt
  have t0 : W1.cell? ⟨Z, 0, none⟩ = some (.int .i64 kd) := hrow.cell 0
  have t1 : W1.cell? ⟨Z, 1, none⟩ = some (.string S) := hrow.cell 1
  have t2 : W1.cell? ⟨Z, 2, none⟩ = some (.int .i64 at_) := hrow.cell 2
  obtain ⟨qk, hqk⟩ : ∃ q, decide (sb S ∈ KW) = q := ⟨_, rfl⟩
  obtain ⟨qf, hqf⟩ : ∃ q, fitV kd S = q := ⟨_, rfl⟩
  have HCL : Hid (∀ W, Below W1.heap.size W1 W → W.cell? ⟨Z, 0, none⟩ = some (.int .i64 kd) ∧ W.cell? ⟨Z, 1, none⟩ = some (.string S) ∧ W.cell? ⟨Z, 2, none⟩ = some (.int .i64 at_)) := Lib.hid fun W hW => ⟨(hW.cell (p := ⟨Z, 0, none⟩) hZ1).trans t0, (hW.cell (p := ⟨Z, 1, none⟩) hZ1).trans t1, (hW.cell (p := ⟨Z, 2, none⟩) hZ1).trans t2⟩
  have K1 : Hid (∀ W, Below W1.heap.size W1 W → Calls Tryd.prog 18 #[.string S] W fun e w' => e = .returned (.bool qk) ∧ Below W1.heap.size W1 w') := Lib.hid fun W hW => by
    refine (iskeyword_any S W ((hT.below hb1).t.below hW)).mono ?_
    rintro e w' ⟨rfl, rfl⟩
    exact ⟨by rw [hqk], hW⟩
  have K2 : Hid (∀ W, Below W1.heap.size W1 W → Calls Tryd.prog 19 #[.string S] W fun e w' => e = .returned (.bool qk) ∧ Below W1.heap.size W1 w') := Lib.hid fun W hW => by
    refine (rkeyword_any S W).mono ?_
    rintro e w' ⟨rfl, hb⟩
    exact ⟨by rw [hqk], hW.trans (hb.mono hW.size)⟩
  have K3 : Hid (∀ W, Below W1.heap.size W1 W → Calls Tryd.prog 20 #[.agg #[.int .i64 kd, .string S, .int .i64 at_]] W fun e w' => e = .returned (.bool qf) ∧ Below W1.heap.size W1 w') := Lib.hid fun W hW => by
    refine (pfits_any kd S at_ (by omega) W ((hT.below hb1).below hW) ((hE.below hb1).below hW)).mono ?_
    rintro e w' ⟨rfl, hb⟩
    exact ⟨by rw [hqf], hW.trans (hb.mono hW.size)⟩
  have K4 : Hid (∀ W, Below W1.heap.size W1 W → Calls Tryd.prog 21 #[.agg #[.int .i64 kd, .string S, .int .i64 at_]] W fun e w' => e = .returned (.bool qf) ∧ Below W1.heap.size W1 w') := Lib.hid fun W hW => by
    refine (rfits_any kd S at_ (by omega) W).mono ?_
    rintro e w' ⟨rfl, hb⟩
    exact ⟨by rw [hqf], hW.trans (hb.mono hW.size)⟩
  have HB1 := Lib.hid hb1
  have hz1 := hb1.size
  have HW1 := Lib.hid hW1
  have HZ := Lib.hid hZ
  have b0 : Below W1.heap.size W1 W1.drew := (Below.refl _ _).drew
  have g0 := HCL.out W1.drew b0
  have hne1 : (qk != qk) = false := by simp
  clear c1 h hi hT hE cS hS hrow hb1 hW1 hZ hqk hqf
  go_enter Tryd.func5, Tryd.ntmps5
  go_wp2_with fail
  refine (CS.out _).mono ?_
  rintro e w' ⟨rfl, rfl⟩
  go_wp2_with fail
  rw [HZ.out, show w.alloc (.cells #[.int .i64 kd, .string S, .int .i64 at_] 31) = W1 from HW1.out]
  go_region_held3 (fun w' => w'.cell? ⟨Z, 0, none⟩ = some (.int .i64 kd) ∧ w'.cell? ⟨Z, 1, none⟩ = some (.string S) ∧ w'.cell? ⟨Z, 2, none⟩ = some (.int .i64 at_)) (first | exact gD | exact gC | exact gB | exact gA | exact g0 | exact ⟨t0, t1, t2⟩)
    (first
    | (go_at_call 18; refine (K1.out _ (by first | exact b0 | exact bB | exact bC | exact bD)).mono ?_; rintro e wA ⟨rfl, bA⟩; have gA := HCL.out wA bA)
    | (go_at_call 19; refine (K2.out _ (by first | exact b0 | exact bA | exact bC | exact bD)).mono ?_; rintro e wB ⟨rfl, bB⟩; have gB := HCL.out wB bB)
    | (go_at_call 20; refine (K3.out _ (by first | exact bD | exact bB | exact bA)).mono ?_; rintro e wC ⟨rfl, bC⟩; have gC := HCL.out wC bC; have HBF := Lib.hid bC)
    | (go_at_call 21; refine (K4.out _ (by first | exact bC | exact bB | exact bA)).mono ?_; rintro e wD ⟨rfl, bD⟩; have gD := HCL.out wD bD; have HBF := Lib.hid bD))
  have HB5 : Hid (Below w.heap.size w wD) := HB1.out.trans (HBF.out.mono hz1)
  have hz5 := HB5.out.size
  clear b0 g0 gA gB gC gD bA bB bC bD t0 t1 t2
  go_wp2_with fail
  refine (C1.out _ HB5.out).mono ?_
  rintro e w6 ⟨z, rfl, hzl, hb6⟩
  have k7 := rtoks_any z (by omega) w6
  have hLl := lex_len (sb z).length (sb z) 0
  rw [sb_len] at hLl
  have htok := lex_tok _ (sb z) 0 (Nat.le_refl _)
  have hbyt := lex_byt _ (sb z) 0 (Nat.le_refl _) (sb_byt z)
  obtain ⟨L, hL⟩ : ∃ L, lex (sb z) 0 = L := ⟨_, rfl⟩
  rw [show lexF z.size (sb z) 0 = L by rw [← hL]; unfold lex; rw [sb_len]] at hLl
  rw [hL] at k7 htok hbyt
  unfold NewTs at k7
  have K7 := Lib.hid k7
  have HB6 := Lib.hid (HB5.out.trans (hb6.mono hz5))
  have hz6 := HB6.out.size
  have HTK := Lib.hid htok
  have HBY := Lib.hid hbyt
  clear k7 hL htok hbyt hb6
  go_wp2_with fail
  refine K7.out.mono ?_
  rintro e w7 ⟨u7, rfl, hown7, hb7⟩
  obtain ⟨av, cv, rfl⟩ := own_slice hown7
  obtain ⟨n, hn⟩ : ∃ n, L.length = n := ⟨_, rfl⟩
  obtain ⟨P, hP⟩ : ∃ P, w6.heap.size = P := ⟨_, rfl⟩
  obtain ⟨P7, hP7⟩ : ∃ P, w7.heap.size = P := ⟨_, rfl⟩
  have hgm : ∃ g, 0 < n → (av = some ⟨g, 0, none⟩ ∧ P ≤ g ∧ g < P7 ∧ Mo L g 0 w7) := by
    rcases Nat.eq_zero_or_pos n with h | h
    · exact ⟨0, fun h' => by omega⟩
    · rcases hown7.2 with ⟨_, h0⟩ | ⟨g, cap, cur, hv, hg, _⟩
      · omega
      · simp only [Value.slice.injEq] at hv
        obtain ⟨rfl, _, rfl⟩ := hv
        exact ⟨g, fun _ => ⟨rfl, by omega, by rw [← hP7]; exact (hown7.lt g rfl).2, mo_new hown7 rfl⟩⟩
  obtain ⟨g, hgm⟩ := hgm
  have HGM := Lib.hid hgm
  have hz7 := hb7.size
  have HBW : Hid (∀ W, Below P w7 W → Below w.heap.size w W) := Lib.hid fun W hW => (HB6.out.trans (hb7.mono hz6)).trans (hW.mono (by omega))
  have HN := Lib.hid hn
  have hPP : P ≤ P7 := by omega
  have HP7 := Lib.hid hP7
  rw [hn] at hLl ⊢
  clear hown7 hb7 hgm hn hP hP7
  go_wp2_with fail
  go_loopw [12] (fun v12 wr => ∃ k : Nat, v12 = .int .i64 (k : Int) ∧ k ≤ n ∧ Hid (0 < n → Mo L g k wr) ∧ Hid (Below P w7 wr)) (fun v12 _ => n - (intOf v12).toNat)
  case atStart => exact ⟨0, rfl, Nat.zero_le _, Lib.hid fun h => (HGM.out h).2.2.2, Below.refl _ _⟩
  case round =>
    obtain ⟨k, rfl, hkn, HMo, HBl⟩ := hrel
    by_cases hlt : k < n
    · obtain ⟨hav, hg1, hg2, _⟩ := HGM.out (by omega)
      subst hav
      have hmo := HMo.out (by omega)
      obtain ⟨c0, c1, c2⟩ := hmo.2 k (Nat.le_refl _) (by have := HN.out; omega)
      have hmem := tg_mem (show k < L.length by have := HN.out; omega)
      obtain ⟨u1, u2⟩ := HTK.out _ hmem
      obtain ⟨y1, y2⟩ := HBY.out _ hmem
      have hsbx : sb (tbs (tg L k).2.1) = (tg L k).2.1 := sb_bs y1
      have hkw := kw_only u1 u2
      rw [← hsbx] at hkw
      have hsz1 : (tbs (tg L k).2.1).size ≤ 400 := by rw [← sb_len, hsbx]; rw [sb_len] at y2; omega
      obtain ⟨x0, hx0⟩ : ∃ x, (tg L k).1 = x := ⟨_, rfl⟩
      obtain ⟨x1, hx1⟩ : ∃ x, tbs (tg L k).2.1 = x := ⟨_, rfl⟩
      obtain ⟨x2, hx2⟩ : ∃ x : Int, ((tg L k).2.2 : Int) = x := ⟨_, rfl⟩
      rw [hx0] at c0 hkw
      rw [hx1] at c1 hkw hsz1
      rw [hx2] at c2
      have hgz : g < wr.heap.size := by have := HBl.out.size; have := HP7.out; omega
      have HC9 : Hid (∀ W, Below wr.heap.size wr W → W.cell? ⟨g, k * 3, none⟩ = some (.int .i64 x0) ∧ W.cell? ⟨g, k * 3 + 1, none⟩ = some (.string x1) ∧ W.cell? ⟨g, k * 3 + 2, none⟩ = some (.int .i64 x2)) := Lib.hid fun W hW => ⟨(hW.cell (p := ⟨g, k * 3, none⟩) hgz).trans c0, (hW.cell (p := ⟨g, k * 3 + 1, none⟩) hgz).trans c1, (hW.cell (p := ⟨g, k * 3 + 2, none⟩) hgz).trans c2⟩
      have HTr := Lib.hid (HT.out.below (HBW.out wr HBl.out))
      have HEr := Lib.hid (HE.out.below (HBW.out wr HBl.out))
      obtain ⟨rk, hrk⟩ : ∃ q, decide (sb x1 ∈ KW) = q := ⟨_, rfl⟩
      obtain ⟨rf, hrf⟩ : ∃ q, fitV x0 x1 = q := ⟨_, rfl⟩
      rw [hrk] at hkw
      have hkw' : (x0 == 7) = rk := hkw.symm
      have M1 : Hid (∀ W, Below wr.heap.size wr W → Calls Tryd.prog 18 #[.string x1] W fun e w' => e = .returned (.bool rk) ∧ Below wr.heap.size wr w') := Lib.hid fun W hW => by
        refine (iskeyword_any x1 W (HTr.out.t.below hW)).mono ?_
        rintro e w' ⟨rfl, rfl⟩
        exact ⟨by rw [hrk], hW⟩
      have M3 : Hid (∀ W, Below wr.heap.size wr W → Calls Tryd.prog 20 #[.agg #[.int .i64 x0, .string x1, .int .i64 x2]] W fun e w' => e = .returned (.bool rf) ∧ Below wr.heap.size wr w') := Lib.hid fun W hW => by
        refine (pfits_any x0 x1 x2 (by omega) W (HTr.out.below hW) (HEr.out.below hW)).mono ?_
        rintro e w' ⟨rfl, hb⟩
        exact ⟨by rw [hrf], hW.trans (hb.mono hW.size)⟩
      have M4 : Hid (∀ W, Below wr.heap.size wr W → Calls Tryd.prog 21 #[.agg #[.int .i64 x0, .string x1, .int .i64 x2]] W fun e w' => e = .returned (.bool rf) ∧ Below wr.heap.size wr w') := Lib.hid fun W hW => by
        refine (rfits_any x0 x1 x2 (by omega) W).mono ?_
        rintro e w' ⟨rfl, hb⟩
        exact ⟨by rw [hrf], hW.trans (hb.mono hW.size)⟩
      have HMO := Lib.hid hmo
      have hkk : (k : Int) < (n : Int) := by omega
      have b0 : Below wr.heap.size wr wr.drew := (Below.refl _ _).drew
      have g0 := HC9.out wr.drew b0
      have gg0 := HC9.out wr (Below.refl _ _)
      have hne2 : (rf != rf) = false := by simp
      have hne3 : (rk != rk) = false := by simp
      clear hmo c0 c1 c2 hmem u1 u2 y1 y2 hsbx hx0 hx1 hx2 hkw hrk hrf
      go_wp2_with fail
      go_region_held3 (fun w' => w'.cell? ⟨g, k * 3, none⟩ = some (.int .i64 x0) ∧ w'.cell? ⟨g, k * 3 + 1, none⟩ = some (.string x1) ∧ w'.cell? ⟨g, k * 3 + 2, none⟩ = some (.int .i64 x2)) (first | exact gA | exact gD | exact gC | exact g0 | exact gg0)
        (first
        | (go_at_call 20; refine (M3.out _ (by first | exact bD | exact b0)).mono ?_; rintro e wC ⟨rfl, bC⟩; have gC := HC9.out wC bC)
        | (go_at_call 21; refine (M4.out _ (by first | exact bC | exact b0)).mono ?_; rintro e wE ⟨rfl, bD⟩; have gD := HC9.out wE bD)
        | (go_at_call 18; refine (M1.out _ (by first | exact bD | exact bC)).mono ?_; rintro e wA ⟨rfl, bA⟩; have gA := HC9.out wA bA; have HBA := Lib.hid bA))
      obtain ⟨e0, e1, e2⟩ := gA
      have hMA : Mo L g k wA := HMO.out.keep (HBA.out.block g hgz)
      have f0 := hMA.1 (k * 3)
      have HMA := Lib.hid hMA
      have HAR := Lib.hid (fun W => around_any kd 9 W hk.1 hk.2 (by omega) (by omega))
      have hzA := HBA.out.size
      clear b0 g0 gg0 gC gD bC bD bA hMA
      go_wp2_with fail
      refine (HAR.out _).mono ?_
      rintro e wG ⟨j, hj, rfl, rfl⟩
      go_wp2_with fail
      obtain ⟨V, hV⟩ : ∃ V, wA.setCell ⟨g, k * 3, none⟩ (.int .i64 (j : Int)) = V := ⟨_, rfl⟩
      have v0 : V.cell? ⟨g, k * 3, none⟩ = some (.int .i64 (j : Int)) := by
        rw [← hV]
        exact World.cell?_setCell_same wA ⟨g, k * 3, none⟩ _ (by rw [e0])
      have v1 : V.cell? ⟨g, k * 3 + 1, none⟩ = some (.string x1) := by rw [← hV]; exact mo_cell (by omega) e1
      have v2 : V.cell? ⟨g, k * 3 + 2, none⟩ = some (.int .i64 x2) := by rw [← hV]; exact mo_cell (by omega) e2
      have hMV : Mo L g (k + 1) V := by rw [← hV]; exact HMA.out.store0 _
      have hBV : Below P w7 V := by rw [← hV]; exact (HBl.out.trans (HBA.out.mono (by have := HBl.out.size; have := HP7.out; omega))).setCell (p := ⟨g, k * 3, none⟩) hg1 _
      have hgV : g < V.heap.size := by rw [← hV]; show g < (wA.setCell _ _).heap.size; simp only [World.setCell, Array.size_modify]; omega
      have HCV : Hid (∀ W, Below V.heap.size V W → W.cell? ⟨g, k * 3, none⟩ = some (.int .i64 (j : Int)) ∧ W.cell? ⟨g, k * 3 + 1, none⟩ = some (.string x1) ∧ W.cell? ⟨g, k * 3 + 2, none⟩ = some (.int .i64 x2)) := Lib.hid fun W hW => ⟨(hW.cell (p := ⟨g, k * 3, none⟩) hgV).trans v0, (hW.cell (p := ⟨g, k * 3 + 1, none⟩) hgV).trans v1, (hW.cell (p := ⟨g, k * 3 + 2, none⟩) hgV).trans v2⟩
      have HTV := Lib.hid (HT.out.below (HBW.out V hBV))
      have HEV := Lib.hid (HE.out.below (HBW.out V hBV))
      obtain ⟨rg, hrg⟩ : ∃ q, fitV (j : Int) x1 = q := ⟨_, rfl⟩
      have N3 : Hid (∀ W, Below V.heap.size V W → Calls Tryd.prog 20 #[.agg #[.int .i64 (j : Int), .string x1, .int .i64 x2]] W fun e w' => e = .returned (.bool rg) ∧ Below V.heap.size V w') := Lib.hid fun W hW => by
        refine (pfits_any (j : Int) x1 x2 (by omega) W (HTV.out.below hW) (HEV.out.below hW)).mono ?_
        rintro e w' ⟨rfl, hb⟩
        exact ⟨by rw [hrg], hW.trans (hb.mono hW.size)⟩
      have N4 : Hid (∀ W, Below V.heap.size V W → Calls Tryd.prog 21 #[.agg #[.int .i64 (j : Int), .string x1, .int .i64 x2]] W fun e w' => e = .returned (.bool rg) ∧ Below V.heap.size V w') := Lib.hid fun W hW => by
        refine (rfits_any (j : Int) x1 x2 (by omega) W).mono ?_
        rintro e w' ⟨rfl, hb⟩
        exact ⟨by rw [hrg], hW.trans (hb.mono hW.size)⟩
      have HV := Lib.hid hV
      have HMV := Lib.hid hMV
      have HBV := Lib.hid hBV
      have hzV := hBV.size
      have hP7V : P7 ≤ V.heap.size := by have := HP7.out; omega
      have b0 : Below V.heap.size V V.drew := (Below.refl _ _).drew
      have g0 := HCV.out V.drew b0
      have hne4 : (rg != rg) = false := by simp
      rw [HV.out]
      clear hV hMV hBV hrg e0 e1 e2 f0 HC9 M1 M3 M4 HAR
      go_region_held3 (fun w' => w'.cell? ⟨g, k * 3, none⟩ = some (.int .i64 (j : Int)) ∧ w'.cell? ⟨g, k * 3 + 1, none⟩ = some (.string x1) ∧ w'.cell? ⟨g, k * 3 + 2, none⟩ = some (.int .i64 x2)) (first | exact gD | exact gC | exact g0 | exact ⟨v0, v1, v2⟩)
        (first
        | (go_at_call 20; refine (N3.out _ (by first | exact bD | exact b0)).mono ?_; rintro e wC ⟨rfl, bC⟩; have gC := HCV.out wC bC; have HLA := Lib.hid bC)
        | (go_at_call 21; refine (N4.out _ (by first | exact bC | exact b0)).mono ?_; rintro e wE ⟨rfl, bD⟩; have gD := HCV.out wE bD; have HLA := Lib.hid bD))
      have HBE : Hid (Below P w7 wE) := HBV.out.trans (HLA.out.mono (by omega))
      have HME : Hid (0 < n → Mo L g (k + 1) wE) := Lib.hid fun _ => HMV.out.keep (HLA.out.block g hgV)
      clear b0 g0 gC gD bC bD v0 v1 v2
      go_wp2
      go_roundw
      case rel => exact ⟨k + 1, by go_num, by omega, HME, HBE⟩
      case measure => simp only [RowKit.intOf, Int.toNat_natCast]; omega
    · obtain rfl : n = k := by omega
      have hkk : ¬ (n : Int) < (n : Int) := by omega
      have HBZ := Lib.hid (HBW.out wr HBl.out)
      have HTZ := Lib.hid (HT.out.below HBZ.out)
      have hzz := HBZ.out.size
      go_wp2_with fail
      refine (lives_any _ HTZ.out).mono ?_
      rintro e wf ⟨rfl, hbf⟩
      have HFF : Hid (Below w.heap.size w wf) := HBZ.out.trans (hbf.mono hzz)
      clear hbf
      go_wp2
      go_ret
      exact ⟨rfl, HFF.out⟩

end Go.Proofs.YtgfhhpodcnohpaaDoor
