/- The walk of EditNormal. It has no conditions. -/
import Derived.Test.YtfhpllcdlejfjaaELv
import Derived.Test.YtfhpllcdlejfjaaENr
import Derived.Test.YtfhpllcdlejfjaaEOp
import Derived.Test.YtfhpllcdlejfjaaECq
namespace Go.Proofs.Ytfhpllcdlejfjaa
open Go.RowKit Go.Shelf
set_option linter.unusedVariables false

theorem ees_filter (s : ByteArray) (l : List Er) : ees (l.filter (chE s)) = (ees l).filter (Chg (sb s)) := by
  induction l with
  | nil => rfl
  | cons e l ih =>
    rw [ees_cons, List.filter_cons, List.filter_cons, chE_eq]
    split
    · rw [ees_cons, ih]
    · exact ih
theorem sep_get : ∀ {Y : List Er}, Sep (ees Y) → (∀ e ∈ Y, 0 ≤ e.f ∧ 0 ≤ e.t) → ∀ k, k + 1 < Y.length → (eg Y k).t < (eg Y (k + 1)).f := by
  intro Y
  induction Y with
  | nil => intro _ _ k h; simp at h
  | cons e l ih =>
    intro h hp k hk
    rw [ees_cons] at h
    obtain ⟨h1, h2⟩ := h
    have hk' : k < l.length := by simpa using hk
    cases k with
    | zero =>
      have h3 := h1 ((eg l 0).ee sb) (List.mem_map.2 ⟨_, eg_mem hk', rfl⟩)
      have h4 := hp e (by simp)
      have h5 := hp (eg l 0) (by simp [eg_mem hk'])
      simp only [Er.ee] at h3
      have e1 : eg (e :: l) 0 = e := rfl
      have e2 : eg (e :: l) (0 + 1) = eg l 0 := rfl
      rw [e1, e2]
      omega
    | succ k => exact ih h2 (fun x hx => hp x (by simp [hx])) k hk'
/-- What a normal form is. -/
theorem nm_ok {s : ByteArray} {es : List Er} (hv : vErr (s.size : Int) es = 0) (hl : es.length ≤ 60) :
    vErr (s.size : Int) (nmS s es) = 0 ∧ apS s (nmS s es) = apS s es ∧ nmS s (nmS s es) = nmS s es ∧ (nmS s es).length ≤ es.length + 3 ∧ (∀ e ∈ nmS s es, e.x.size ≤ (apS s es).size) ∧ ∀ k, k + 1 < (nmS s es).length → (eg (nmS s es) k).t < (eg (nmS s es) (k + 1)).f := by
  have h := comp_ok (s := s) (a := es) (b := []) hv rfl (by simp only [List.length_nil]; omega)
  rw [cm_nil.2, apS_nil] at h
  obtain ⟨_, _, h1, h2, h3, h4⟩ := h
  obtain ⟨_, hvld, hpos⟩ := vErr_ok hv
  have hp : ∀ e ∈ es, 0 ≤ e.f ∧ 0 ≤ e.t := fun e he => by have := hpos e he; omega
  have hnm : nmS s es = nrS s es := by unfold nmS; rw [if_pos hv, nrS_eq hp]
  have hee : ees (nmS s es) = norml (sb s) (ees es) := by rw [hnm]; unfold nrS norml; rw [ees_filter, jnS_ees hp]
  have hag := norml_again (s := sb s) (p := 0) (l := ees es) (by rw [sb_len]; exact hvld)
  refine ⟨h1, h2, ?_, h3, h4, ?_⟩
  · have : nmS s (nmS s es) = ers (norml (sb s) (ees (nmS s es))) := if_pos h1
    rw [this, hee, hag.1, hnm, nrS_eq hp]
  · exact sep_get (by rw [hee]; exact hag.2) (fun e he => by have := (vErr_ok h1).2.2 e he; omega)

set_option maxRecDepth 100000 in
set_option maxHeartbeats 8000000 in
theorem walkNormal (s : ByteArray) (hs : s.size ≤ 9223372036854775807) (a1 : Option Addr) (cap1 : Nat) (ls : List Int) (a2 : Option Addr) (cap2 : Nat) (es : List Er) (w : World)
    (h1 : Sli .i64 w a1 cap1 ls) (hi : ∀ n ∈ ls, -9223372036854775808 ≤ n ∧ n ≤ 9223372036854775807) (hbig : ∀ e ∈ es, e.Big) (hE : ES w.heap.size w a2 cap2 es) :
    Calls Try.prog 11 #[.string s, .slice a1 ls.length cap1, .slice a2 es.length cap2] w fun e w' => e = .returned (.bool true) ∧ Below w.heap.size w w' := by
  obtain ⟨t, ht⟩ : ∃ t, shS s 60 = t := ⟨_, rfl⟩
  have htl : t.size ≤ 60 := by rw [← ht]; exact shS_size s 60
  have cS := fun W => short_any s 60 W hs (by omega)
  rw [ht] at cS
  obtain ⟨n1, hn1⟩ : ∃ n, ls.length = n := ⟨_, rfl⟩
  obtain ⟨n2, hn2⟩ : ∃ n, es.length = n := ⟨_, rfl⟩
  have hsl : SlI w.heap.size w a1 n1 := by have := SlI.of h1 hi; rwa [hn1] at this
  have hc1 : n1 ≤ cap1 := by have := h1.le; omega
  have hm1 := h1.mx
  have cR := raw_any t a1 n1 cap1 w (by omega) hsl hc1 hm1
  have cF : Hid (∀ W, Below w.heap.size w W → Calls Try.prog 15 #[.slice a2 n2 cap2, .int .i64 6] W fun e w' => ∃ v, e = .returned v ∧ w'.ownsRow W.heap.size 32 3 v (fewE es 6).length (rv (fewE es 6)) ∧ Below W.heap.size W w') := by
    intro W hW
    have := few_any a2 cap2 6 es W (by omega) hbig (hE.on hW)
    rwa [hn2] at this
  have hfit6 := fewE_fit (m := 6) hbig
  have hl6 : (fewE es 6).length ≤ 6 := by rw [fewE_len]; exact Nat.min_le_left _ _
  obtain ⟨f0, hf0⟩ : ∃ f, fewE es 6 = f := ⟨_, rfl⟩
  rw [hf0] at cF hfit6 hl6
  rw [hn1, hn2]
  have CS := Lib.hid cS; have CR := Lib.hid cR; have HF6 := Lib.hid hfit6
  clear cS cR hE hbig h1 hi hf0 ht hfit6 hsl
  go_enter Try.func11, Try.ntmps11
  go_wp2_with fail
  refine (CS.out _).mono ?_
  rintro e w' ⟨rfl, rfl⟩
  go_wp2_with fail
  refine CR.out.mono ?_
  rintro e w1 ⟨xs, v1, rfl, hx1, hx2, hx3, hown1, hb1⟩
  obtain ⟨_, ax, cx, rfl, hX⟩ := es_of_own hown1
  have hfx := fit_of hx2 (by omega) (fun e he => by have := (hx3 e he).1; omega)
  obtain ⟨o1, o2, o3, o4, o5, o6⟩ := nm_ok hx2 (by omega)
  have hz := apS_size (c := 7) hx2 (fun e he => (hx3 e he).1)
  have hz2 : (apS t xs).size ≤ 1000 := by have := Nat.mul_le_mul_left 7 hx1; omega
  have P1 := fun W (hW : Below w1.heap.size w1 W) => pnormal_any t ax cx xs W (by omega) (by omega) (by omega) hfx (hX.on hW)
  have P2 := fun W (hW : Below w1.heap.size w1 W) => rnormal_any t ax cx xs W (by omega) (by omega) hfx (hX.on hW)
  have P3 := fun W (hW : Below w1.heap.size w1 W) => papply_any t ax cx xs W (by omega) (by omega) hfx (hX.on hW)
  obtain ⟨nx, hnx⟩ : ∃ n, xs.length = n := ⟨_, rfl⟩
  obtain ⟨Y, hY⟩ : ∃ y, nmS t xs = y := ⟨_, rfl⟩
  obtain ⟨z, hzz⟩ : ∃ z, apS t xs = z := ⟨_, rfl⟩
  rw [hx2, hY, hnx] at P1 P2
  rw [hx2, hzz, hnx] at P3
  rw [hY, hzz] at o2
  rw [hY] at o1 o3 o4 o6
  rw [hY, hzz] at o5
  rw [hzz] at hz2
  rw [hnx] at o4 ⊢
  have hfy := fit_of o1 (by omega) (fun e he => by have := o5 e he; omega)
  obtain ⟨ny, hny⟩ : ∃ n, Y.length = n := ⟨_, rfl⟩
  have hny5 : ny ≤ 8 := by omega
  rw [hny] at o6
  have hpos := (vErr_ok o1).2.2
  have H1 := Lib.hid hb1; have HP1 := Lib.hid P1; have HP2 := Lib.hid P2; have HP3 := Lib.hid P3; have HO1 := Lib.hid o1; have HO2 := Lib.hid o2; have HO3 := Lib.hid o3; have HO6 := Lib.hid o6; have HFY := Lib.hid hfy; have HNY := Lib.hid hny; have HPO := Lib.hid hpos
  clear hown1 hX hb1 P1 P2 P3 o1 o2 o3 o4 o5 o6 hfy hz hfx hx2 hx3 hY hzz hny hpos
  go_wp2_with fail
  refine (HP1.out _ (Below.refl _ _)).mono ?_
  rintro e w2 ⟨a2', c2', rfl, hE2, b2⟩
  rw [HNY.out]
  have HE2 := Lib.hid hE2; have K2 := Lib.hid b2
  clear hE2 b2
  go_wp2_with fail
  refine (HP2.out _ K2.out).mono ?_
  rintro e w3 ⟨a3, c3, rfl, hE3, b3⟩
  rw [HNY.out]
  have K23 := Lib.hid b3
  have K3 := Lib.hid (K2.out.trans (b3.mono K2.out.size)); have HE3 := Lib.hid hE3
  have P4 := pnormal_any t a2' c2' Y w3 (by omega) (by rw [HO2.out]; omega) (by have := HNY.out; omega) HFY.out (HE2.out.on b3)
  rw [HO1.out, HO3.out, HNY.out] at P4
  have HP4 := Lib.hid P4
  clear hE3 b3 P4
  go_wp2_with fail
  refine HP4.out.mono ?_
  rintro e w4 ⟨a4, c4, rfl, hE4, b4⟩
  rw [HNY.out]
  have HE4 := Lib.hid hE4
  have K34 := Lib.hid b4
  have K4 := Lib.hid (K3.out.trans (b4.mono K3.out.size))
  have K24 := Lib.hid (K23.out.trans (b4.mono K23.out.size))
  clear b4 hE4
  go_wp2_with fail
  refine (HP3.out _ K4.out).mono ?_
  rintro e w5 ⟨rfl, b5⟩
  have K5 := Lib.hid (K4.out.trans (b5.mono K4.out.size))
  have K25 := Lib.hid (K24.out.trans (b5.mono K24.out.size))
  have K35 := Lib.hid (K34.out.trans (b5.mono K34.out.size))
  have K45 := Lib.hid b5
  clear b5
  have P6 := papply_any t a2' c2' Y w5 (by omega) (by have := HNY.out; omega) HFY.out (HE2.out.on K25.out)
  rw [HO1.out, HO2.out, HNY.out] at P6
  have HP6 := Lib.hid P6
  clear P6
  go_wp2_with fail
  refine HP6.out.mono ?_
  rintro e w6 ⟨rfl, b6⟩
  have K6 := Lib.hid (K5.out.trans (b6.mono K5.out.size))
  have K26 := Lib.hid (K25.out.trans (b6.mono K25.out.size))
  have K36 := Lib.hid (K35.out.trans (b6.mono K35.out.size))
  have K46 := Lib.hid (K45.out.trans (b6.mono K45.out.size))
  clear b6
  have S1 := same_any a2' a3 c2' c3 Y w6 (by have := HNY.out; omega) (HE2.out.on K26.out) (HE3.out.on K36.out)
  rw [HNY.out] at S1
  have HS1 := Lib.hid S1
  clear S1
  have q1 : (z.toList != z.toList) = false := by simp
  have q2 : (z.toList == z.toList) = true := by simp
  go_wp2_with fail
  refine HS1.out.mono ?_
  rintro e w7 ⟨rfl, b7⟩
  have K7 := Lib.hid (K6.out.trans (b7.mono K6.out.size))
  have K27 := Lib.hid (K26.out.trans (b7.mono K26.out.size))
  have K47 := Lib.hid (K46.out.trans (b7.mono K46.out.size))
  have S2 := same_any a2' a4 c2' c4 Y w7 (by have := HNY.out; omega) (HE2.out.on K27.out) (HE4.out.on K47.out)
  rw [HNY.out] at S2
  have HS2 := Lib.hid S2
  clear b7 S2
  go_wp2_with fail
  refine HS2.out.mono ?_
  rintro e w8 ⟨rfl, b8⟩
  have K8 := Lib.hid (K7.out.trans (b8.mono K7.out.size))
  have K28 := Lib.hid (K27.out.trans (b8.mono K27.out.size))
  have hES8 := HE2.out.on K28.out
  obtain ⟨b, addr, hab, hcell⟩ := hES8.cells.core
  have hcapY := hES8.le
  rw [HNY.out] at hab hcell hcapY
  have HAB := Lib.hid hab; have HC := Lib.hid hcell
  clear b8 hab hcell hES8
  go_wp2_with fail
  go_loopw [19] (fun q wr => ∃ (k : Nat), k ≤ 20 ∧ q = .int .i64 ((k : Int) + 1) ∧ Hid (Below w8.heap.size w8 wr)) (fun q _ => 100 - (intOf q).toNat)
  case atStart => exact ⟨0, by omega, rfl, Below.refl _ _⟩
  case round =>
    obtain ⟨k, hk, rfl, HR⟩ := hrel
    by_cases hlt : k + 1 < ny
    · obtain ⟨ha, hbB⟩ := HAB.out.resolve_left (by omega)
      subst ha
      have hB8 := HR.out.block b hbB
      obtain ⟨_, c1, _⟩ := HC.out k (by omega) wr hB8
      obtain ⟨d0, _, _⟩ := HC.out (k + 1) hlt wr hB8
      have hlt2 := HO6.out k hlt
      obtain ⟨p1, p2, p3⟩ := HPO.out (eg Y k) (eg_mem (by rw [HNY.out]; omega))
      obtain ⟨q4, q5, q6⟩ := HPO.out (eg Y (k + 1)) (eg_mem (by rw [HNY.out]; omega))
      obtain ⟨x, hx⟩ : ∃ x, (eg Y (k + 1)).f = x := ⟨_, rfl⟩
      obtain ⟨y, hy⟩ : ∃ y, (eg Y k).t = y := ⟨_, rfl⟩
      rw [hx] at d0 hlt2 q4 q5
      rw [hy] at c1 hlt2 p2 p3
      obtain ⟨j, hj⟩ : ∃ j, k + 1 = j := ⟨_, rfl⟩
      rw [hj] at d0 hlt
      have hji : (k : Int) + 1 = (j : Int) := by omega
      have hj1 : IntKind.i64.wrap ((j : Int) - 1) = (k : Int) := by simp [IntKind.wrap, IntKind.signed, IntKind.bits]; omega
      have hjn : (j : Int) < (ny : Int) := by omega
      have hkn : (k : Int) < (ny : Int) := by omega
      have hdd : decide (x ≤ y) = false := by simp only [decide_eq_false_iff_not]; omega
      have hdd2 : ¬ x ≤ y := by omega
      rw [hji]
      clear hx hy hB8
      go_wp2_with fail
      go_quiet (fail)
      go_wp2
      go_roundw
      case rel => exact ⟨k + 1, by omega, by go_num, below_drewN HR.out _⟩
      case measure => simp [intOf]; omega
    · have hkn : ¬ (k : Int) + 1 < (ny : Int) := by omega
      have K9 := Lib.hid (H1.out.trans ((K8.out.trans (HR.out.mono K8.out.size)).mono H1.out.size))
      clear HC HAB
      go_wp2_with fail
      refine (cF.out _ K9.out).mono ?_
      rintro e u7 ⟨v7, rfl, hown7, b7⟩
      obtain ⟨_, af, cf, rfl, hX7⟩ := es_of_own hown7
      have hff : ∀ e ∈ f0, e.Fit := fun e he => (HF6.out e he).1
      obtain ⟨Z, hZ⟩ : ∃ y, nmS t f0 = y := ⟨_, rfl⟩
      have hzf : (apS t f0).size ≤ 1000000 := by
        by_cases hv : vErr (t.size : Int) f0 = 0
        · have h := apS_size (c := 8) hv (fun e he => (HF6.out e he).2); have := Nat.mul_le_mul_left 8 hl6; omega
        · rw [apS_bad hv]; show 0 ≤ 1000000; omega
      have P7 := fun W (hW : Below u7.heap.size u7 W) => pnormal_any t af cf f0 W (by omega) hzf (by omega) hff (hX7.on hW)
      have P8 := fun W (hW : Below u7.heap.size u7 W) => rnormal_any t af cf f0 W (by omega) (by omega) hff (hX7.on hW)
      have hZl : Z.length ≤ 6 := by
        rw [← hZ]; unfold nmS
        split
        · rw [ers_len]; have := norml_len (sb t) (ees f0); rw [ees_len] at this; omega
        · simp
      obtain ⟨er7, her7⟩ : ∃ y, vErr (t.size : Int) f0 = y := ⟨_, rfl⟩
      obtain ⟨nf, hnf⟩ : ∃ n, f0.length = n := ⟨_, rfl⟩
      rw [hZ, her7, hnf] at P7 P8
      rw [hnf]
      have q3 : (er7 == er7) = true := by simp
      have L7 := Lib.hid (K9.out.trans (b7.mono K9.out.size)); have HP7 := Lib.hid P7; have HP8 := Lib.hid P8
      clear hown7 hX7 b7 P7 P8 hZ her7 hff hzf
      go_wp2_with fail
      refine (HP7.out _ (Below.refl _ _)).mono ?_
      rintro e u8 ⟨a8, c8, rfl, hE8, b8⟩
      have HE8 := Lib.hid hE8; have L8 := Lib.hid b8
      clear hE8 b8
      go_wp2_with fail
      refine (HP8.out _ L8.out).mono ?_
      rintro e u9 ⟨a9, c9, rfl, hE9, b9⟩
      have S3 := same_any a8 a9 c8 c9 Z u9 (by omega) (HE8.out.on b9) hE9
      have L9 := Lib.hid (L7.out.trans ((L8.out.trans (b9.mono L8.out.size)).mono L7.out.size))
      have HS3 := Lib.hid S3
      clear hE9 b9 S3
      go_wp2_with fail
      refine HS3.out.mono ?_
      rintro e u1 ⟨rfl, b10⟩
      have L10 := Lib.hid (L9.out.trans (b10.mono L9.out.size))
      clear b10
      go_wp2_with fail
      refine (lives_any _).mono ?_
      rintro e u2 ⟨rfl, b11⟩
      have L11 := Lib.hid (L10.out.trans (b11.mono L10.out.size))
      clear b11
      go_wp2
      go_ret
      exact ⟨rfl, L11.out⟩

end Go.Proofs.Ytfhpllcdlejfjaa
