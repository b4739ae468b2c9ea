/- The walk of EditMap. It has no conditions. -/
import Derived.Test.YtfhpllcdlejfjaaELv
import Derived.Test.YtfhpllcdlejfjaaEMq
import Derived.Test.YtfhpllcdlejfjaaEFw
import Derived.Test.YtfhpllcdlejfjaaEOp
namespace Go.Proofs.Ytfhpllcdlejfjaa
open Go.RowKit Go.Shelf
set_option linter.unusedVariables false

theorem rv_set_f (fs : List Er) : ∀ (k : Nat) (x : Int), k < fs.length → (rv fs).set (k * 3) (.int .i64 x) = rv (fs.set k ⟨x, (eg fs k).t, (eg fs k).x⟩) := by
  induction fs with
  | nil => intro k x h; simp at h
  | cons e fs ih =>
    intro k x h
    cases k with
    | zero => simp [rv_cons, Er.vals, eg]
    | succ k =>
      have hk : k < fs.length := by simpa using h
      have := ih k x hk
      simp only [rv_cons, List.set_cons_succ]
      rw [show (k + 1) * 3 = e.vals.length + k * 3 by simp [Er.vals]; omega, List.set_append_right _ _ (Nat.le_add_right _ _), Nat.add_sub_cancel_left, this]
      simp [eg]
theorem rv_set_t (fs : List Er) : ∀ (k : Nat) (x : Int), k < fs.length → (rv fs).set (k * 3 + 1) (.int .i64 x) = rv (fs.set k ⟨(eg fs k).f, x, (eg fs k).x⟩) := by
  induction fs with
  | nil => intro k x h; simp at h
  | cons e fs ih =>
    intro k x h
    cases k with
    | zero => simp [rv_cons, Er.vals, eg]
    | succ k =>
      have hk : k < fs.length := by simpa using h
      have := ih k x hk
      simp only [rv_cons, List.set_cons_succ]
      rw [show (k + 1) * 3 + 1 = e.vals.length + (k * 3 + 1) by simp [Er.vals]; omega, List.set_append_right _ _ (Nat.le_add_right _ _), Nat.add_sub_cancel_left, this]
      simp [eg]
theorem eg_set (fs : List Er) (k j : Nat) (e : Er) (hk : k < fs.length) : eg (fs.set k e) j = if j = k then e else eg fs j := by
  unfold eg
  rw [List.getElem?_set]
  by_cases h : k = j
  · subst h; simp [hk]
  · rw [if_neg h, if_neg (fun e => h e.symm)]
/-- The list so far: the first k edits lie near. -/
structure Nr (k : Nat) (fs : List Er) : Prop where
  fit : ∀ j, j < fs.length → (eg fs j).Fit
  near : ∀ j, j < k → Near (eg fs j).f ∧ Near (eg fs j).t
theorem Nr.of {fs : List Er} (h : Nr fs.length fs) : (∀ e ∈ fs, e.Fit) ∧ ∀ e ∈ fs, Near e.f ∧ Near e.t := by
  constructor
  · intro e he
    obtain ⟨k, hk, rfl⟩ := List.mem_iff_getElem.1 he
    have := h.fit k hk
    simpa [eg, List.getElem?_eq_getElem hk] using this
  · intro e he
    obtain ⟨k, hk, rfl⟩ := List.mem_iff_getElem.1 he
    have := h.near k hk
    simpa [eg, List.getElem?_eq_getElem hk] using this
theorem near_of {x : Int} (h1 : -1099511627776 ≤ x) (h2 : x ≤ 1099511627776) : Near x := ⟨by omega, by omega⟩

set_option maxRecDepth 100000 in
set_option maxHeartbeats 4000000 in
theorem walkMap (s : ByteArray) (hs : s.size ≤ 9223372036854775807) (a1 : Option Addr) (cap1 : Nat) (ls : List Int) (a2 : Option Addr) (cap2 : Nat) (es : List Er) (off : Int) (af : Bool) (w : World)
    (h1 : Sli .i64 w a1 cap1 ls) (hi : ∀ n ∈ ls, -9223372036854775808 ≤ n ∧ n ≤ 9223372036854775807) (hbig : ∀ e ∈ es, e.Big) (hE : ES w.heap.size w a2 cap2 es) (ho1 : -9223372036854775808 ≤ off) (ho2 : off ≤ 9223372036854775807) :
    Calls Try.prog 8 #[.string s, .slice a1 ls.length cap1, .slice a2 es.length cap2, .int .i64 off, .bool af] w fun e w' => e = .returned (.bool true) ∧ Below w.heap.size w w' := by
  obtain ⟨B, hB⟩ : ∃ B, w.heap.size = B := ⟨_, rfl⟩
  obtain ⟨t, ht⟩ : ∃ t, shS s 40 = t := ⟨_, rfl⟩
  have htl : t.size ≤ 40 := by rw [← ht]; exact shS_size s 40
  have cS := fun W => short_any s 40 W hs (by omega)
  rw [ht] at cS
  obtain ⟨n1, hn1⟩ : ∃ n, ls.length = n := ⟨_, rfl⟩
  obtain ⟨n2, hn2⟩ : ∃ n, es.length = n := ⟨_, rfl⟩
  have cR := raw_any t a1 n1 cap1 w (by omega) (by have := SlI.of h1 hi; rwa [hn1] at this) (by have := h1.le; omega) h1.mx
  have cF : Hid (∀ W, Below B w W → Calls Try.prog 15 #[.slice a2 n2 cap2, .int .i64 6] W fun e w' => ∃ v, e = .returned v ∧ w'.ownsRow W.heap.size 32 3 v (fewE es 6).length (rv (fewE es 6)) ∧ Below W.heap.size W w') := by
    intro W hW
    have := few_any a2 cap2 6 es W (by omega) hbig ((hE.below (by rw [hB]; exact hW)).mono (by have := hW.size; omega))
    rwa [hn2] at this
  have hfit6 := fewE_fit (m := 6) hbig
  have hl6 : (fewE es 6).length ≤ 6 := by rw [fewE_len]; exact Nat.min_le_left _ _
  obtain ⟨f0, hf0⟩ : ∃ f, fewE es 6 = f := ⟨_, rfl⟩
  rw [hf0] at cF hfit6 hl6
  have CS := Lib.hid cS; have CR := Lib.hid cR; have HB := Lib.hid hB; have HF6 := Lib.hid hfit6
  rw [hn1, hn2]
  clear cS cR hB hE hbig h1 hi hf0 ht hfit6
  go_enter Try.func8, Try.ntmps8
  go_wp2_with fail
  refine (CS.out _).mono ?_
  rintro e w' ⟨rfl, rfl⟩
  go_wp2_with fail
  refine CR.out.mono ?_
  rintro e w1 ⟨xs, v1, rfl, hx1, hx2, hx3, hown1, hb1⟩
  obtain ⟨_, ax, cx, rfl, hX⟩ := es_of_own hown1
  have hxok := vErr_ok hx2
  have hxfit : ∀ e ∈ xs, e.Fit ∧ Near e.f ∧ Near e.t := by
    intro e he
    have h1 := hxok.2.2 e he
    have h2 := (hx3 e he).1
    exact ⟨⟨by omega, by omega, by omega, by omega, by omega⟩, ⟨by omega, by omega⟩, ⟨by omega, by omega⟩⟩
  obtain ⟨nx, hnx⟩ : ∃ n, xs.length = n := ⟨_, rfl⟩
  have b1 : Below B w w1 := by have := HB.out; subst this; exact hb1
  have zB1 : B ≤ w1.heap.size := by have := hb1.size; have := HB.out; omega
  have HX : Hid (∀ W, Below w1.heap.size w1 W → ES W.heap.size W ax cx xs) := fun W hW => hX.on hW
  have hPM := Lib.hid (fun (o : Int) (ho : Near o) W hW => pmap_any ax cx xs o af W (by omega) (fun e he => (hxfit e he).1) (fun e he => (hxfit e he).2) ho (HX.out W hW))
  have hRM := Lib.hid (fun (o : Int) (ho : Near o) W hW => rmap_any ax cx xs o af W (by omega) (fun e he => (hxfit e he).1) (fun e he => (hxfit e he).2) ho (HX.out W hW))
  rw [hnx] at hPM hRM ⊢
  have HB1 := Lib.hid b1
  have D1 := cF.out w1 b1
  clear hown1 hX hxok hxfit hx2 hx3 hb1 b1 cF
  go_wp2_with fail
  refine D1.mono ?_
  rintro e w2 ⟨v2, rfl, hown2, hb2⟩
  obtain ⟨A2, c2, rfl⟩ := own_slice hown2
  obtain ⟨L, hL⟩ : ∃ L, f0.length = L := ⟨_, rfl⟩
  have hc2 : L ≤ c2 := by have := (es_of_own hown2).2; obtain ⟨a, cap, hv, hE⟩ := this; simp only [Value.slice.injEq] at hv; have := hE.le; omega
  have hm2 : c2 ≤ 9223372036854775807 := by have := (es_of_own hown2).2; obtain ⟨a, cap, hv, hE⟩ := this; simp only [Value.slice.injEq] at hv; have := hE.mx; omega
  obtain ⟨lo, hlo⟩ : ∃ lo, w1.heap.size = lo := ⟨_, rfl⟩
  rw [hL, hlo] at hown2
  have hg0 : ∃ g, L = 0 ∨ (A2 = some ⟨g, 0, none⟩ ∧ lo ≤ g ∧ g < w2.heap.size) := by
    rcases hown2.2 with ⟨hv, h0⟩ | ⟨g, cp, cur, hv, h1, h2, _⟩
    · exact ⟨0, .inl h0⟩
    · simp only [Value.slice.injEq] at hv
      obtain ⟨rfl, _, rfl⟩ := hv
      exact ⟨g, .inr ⟨rfl, h1, (Array.getElem?_eq_some_iff.1 h2).1⟩⟩
  obtain ⟨g, hg⟩ := hg0
  rw [hL] at hl6 ⊢
  have b2 : Below B w w2 := HB1.out.trans (hb2.mono zB1)
  have H0 : Hid (f0.length = L ∧ Nr 0 f0 ∧ w2.ownsRow lo 32 3 (.slice A2 L c2) L (rv f0) ∧ Below lo w1 w2) :=
    ⟨hL, ⟨fun j hj => (HF6.out _ (eg_mem hj)).1, fun j hj => by omega⟩, hown2, by rw [← hlo]; exact hb2⟩
  have HLO := Lib.hid hlo
  clear hown2 hb2 b2 hL hlo
  go_wp2_with fail
  refine (around_any off 48 _ ho1 ho2 (by omega) (by omega)).mono ?_
  rintro e w' ⟨m, hm, rfl, rfl⟩
  have hnm : Near ((m : Int) - 2) := ⟨by omega, by omega⟩
  go_wp2_with fail
  refine (bound_any off 1099511627776 _ ho1 ho2 (by omega)).mono ?_
  rintro e w' ⟨far, hfa1, hfa2, rfl, rfl⟩
  have hnf : Near far := near_of (by omega) (by omega)
  have HNM := Lib.hid hnm; have HNF := Lib.hid hnf
  clear hnm hnf
  go_wp2_with fail
  go_loopw [16] (fun q wr => ∃ (k : Nat) (fs : List Er), k ≤ L ∧ q = .int .i64 (k : Int) ∧ Hid (fs.length = L ∧ Nr k fs ∧ wr.ownsRow lo 32 3 (.slice A2 L c2) L (rv fs) ∧ Below lo w1 wr)) (fun q _ => L - (intOf q).toNat)
  case atStart => exact ⟨0, f0, by omega, rfl, H0⟩
  case round =>
    obtain ⟨k, fs, hk, rfl, HR⟩ := hrel
    by_cases hlt : k < L
    · have hkk : (k : Int) < (L : Int) := by omega
      obtain ⟨rfl, hg1, hg2⟩ := hg.resolve_left (by omega)
      obtain ⟨hfl, hnr, hown, hbw⟩ := HR.out
      have hcell : ∀ i, i < 3 → wr.cell? ⟨g, k * 3 + i, none⟩ = (eg fs k).vals[i]? := fun i hi => by
        rw [hown.cellAt (k * 3 + i) (by omega)]; exact rv_get fs k i (by omega) hi
      have fit := hnr.fit k (by omega)
      obtain ⟨x, hx⟩ : ∃ x, (eg fs k).f = x := ⟨_, rfl⟩
      obtain ⟨y, hy⟩ : ∃ y, (eg fs k).t = y := ⟨_, rfl⟩
      obtain ⟨z, hz⟩ : ∃ z, (eg fs k).x = z := ⟨_, rfl⟩
      have k0 : wr.cell? ⟨g, k * 3, none⟩ = some (.int .i64 x) := by rw [← hx]; exact hcell 0 (by omega)
      have k1 : wr.cell? ⟨g, k * 3 + 1, none⟩ = some (.int .i64 y) := by rw [← hy]; exact hcell 1 (by omega)
      have e0 : wr.frozen? ⟨g, k * 3, none⟩ = false := hown.frozenAt (k * 3)
      have e1 : wr.frozen? ⟨g, k * 3 + 1, none⟩ = false := hown.frozenAt (k * 3 + 1)
      have f1 := fit.f1; have f2 := fit.f2; have t1 := fit.t1; have t2 := fit.t2
      rw [hx] at f1 f2
      rw [hy] at t1 t2
      have HXY := Lib.hid (And.intro hx (And.intro hy hz))
      clear hfl hnr hown hbw hcell fit hx hy hz
      go_wp2_with fail
      refine (bound_any x 1099511627776 _ f1 f2 (by omega)).mono ?_
      rintro e w' ⟨x', hxa1, hxa2, rfl, rfl⟩
      go_wp2_with fail
      refine (bound_any y 1099511627776 _ t1 t2 (by omega)).mono ?_
      rintro e w' ⟨y', hya1, hya2, rfl, rfl⟩
      have HR2 : Hid (∃ fs' : List Er, fs'.length = L ∧ Nr (k + 1) fs' ∧ ((wr.setCell ⟨g, k * 3, none⟩ (.int .i64 x')).setCell ⟨g, k * 3 + 1, none⟩ (.int .i64 y')).ownsRow lo 32 3 (.slice (some ⟨g, 0, none⟩) L c2) L (rv fs') ∧ Below lo w1 ((wr.setCell ⟨g, k * 3, none⟩ (.int .i64 x')).setCell ⟨g, k * 3 + 1, none⟩ (.int .i64 y'))) := by
        obtain ⟨hfl, hnr, hown, hbw⟩ := HR.out
        obtain ⟨hx, hy, hz⟩ := HXY.out
        have hk1 : k < fs.length := by omega
        have s1 := (hown.stored (k * 3) (.int .i64 x')).1
        rw [rv_set_f fs k x' hk1] at s1
        have hk2 : k < (fs.set k ⟨x', (eg fs k).t, (eg fs k).x⟩).length := by simpa using hk1
        have s2 := (s1.stored (k * 3 + 1) (.int .i64 y')).1
        rw [rv_set_t _ k y' hk2, eg_set fs k k _ hk1, if_pos rfl, List.set_set] at s2
        refine ⟨_, by simpa using hfl, ⟨fun j hj => ?_, fun j hj => ?_⟩, s2, ?_⟩
        · rw [eg_set fs k j _ hk1]
          have hj2 : j < fs.length := by simpa using hj
          split
          · exact ⟨by show -9223372036854775808 ≤ x'; omega, by show x' ≤ 9223372036854775807; omega, by show -9223372036854775808 ≤ y'; omega, by show y' ≤ 9223372036854775807; omega, (hnr.fit k hk1).x⟩
          · exact hnr.fit j hj2
        · rw [eg_set fs k j _ hk1]
          split
          · exact ⟨near_of (by omega) (by omega), near_of (by omega) (by omega)⟩
          · exact hnr.near j (by omega)
        · exact (hbw.setCell (p := ⟨g, k * 3, none⟩) (by show lo ≤ g; exact hg1) _).setCell (p := ⟨g, k * 3 + 1, none⟩) (by show lo ≤ g; exact hg1) _
      go_wp2
      go_roundw
      case rel =>
        obtain ⟨fs', hfs'⟩ := HR2.out
        exact ⟨k + 1, fs', by omega, by go_num, hfs'⟩
      case measure => simp [intOf]; omega
    · obtain rfl : L = k := by omega
      obtain ⟨hfl, hnr, hown, hbw⟩ := HR.out
      subst hfl
      obtain ⟨hfit, hnear⟩ := hnr.of
      obtain ⟨_, a', c', hv, hES⟩ := es_of_own hown
      simp only [Value.slice.injEq, true_and] at hv
      obtain ⟨rfl, rfl⟩ := hv
      have hbw1 : Below w1.heap.size w1 wr := by rw [HLO.out]; exact hbw
      have hbw0 : Below B w wr := HB1.out.trans (hbw1.mono zB1)
      have P1 := hPM.out _ HNM.out
      have R1 := hRM.out _ HNM.out
      have P2 := hPM.out _ HNF.out
      have R2 := hRM.out _ HNF.out
      have HE : Hid (∀ W, Below wr.heap.size wr W → ES W.heap.size W A2 c2 fs) := fun W hW => hES.on hW
      have P3 := fun W hW => pmap_any A2 c2 fs far af W (by omega) hfit hnear HNF.out (HE.out W hW)
      have R3 := fun W hW => rmap_any A2 c2 fs far af W (by omega) hfit hnear HNF.out (HE.out W hW)
      have P4 := fun W hW => pmap_any A2 c2 fs ((m : Int) - 2) af W (by omega) hfit hnear HNM.out (HE.out W hW)
      have R4 := fun W hW => rmap_any A2 c2 fs ((m : Int) - 2) af W (by omega) hfit hnear HNM.out (HE.out W hW)
      obtain ⟨y1, hy1⟩ : ∃ y, mpV xs ((m : Int) - 2) af = y := ⟨_, rfl⟩
      obtain ⟨y2, hy2⟩ : ∃ y, mpV xs far af = y := ⟨_, rfl⟩
      obtain ⟨y3, hy3⟩ : ∃ y, mpV fs far af = y := ⟨_, rfl⟩
      obtain ⟨y4, hy4⟩ : ∃ y, mpV fs ((m : Int) - 2) af = y := ⟨_, rfl⟩
      rw [hy1] at P1 R1
      rw [hy2] at P2 R2
      rw [hy3] at P3 R3
      rw [hy4] at P4 R4
      have q1 : (y1 != y1) = false := by simp
      have q2 : (y2 != y2) = false := by simp
      have q3 : (y3 == y3) = true := by simp
      have q4 : (y4 == y4) = true := by simp
      have HP1 := Lib.hid P1; have HP2 := Lib.hid P2; have HP3 := Lib.hid P3; have HP4 := Lib.hid P4; have HR1 := Lib.hid R1; have HR2 := Lib.hid R2; have HR3 := Lib.hid R3; have HR4 := Lib.hid R4
      have HBW1 := Lib.hid hbw1; have HBW0 := Lib.hid hbw0
      have zB : B ≤ wr.heap.size := by have := hbw1.size; omega
      clear hnr hown hbw hfit hnear hES hbw1 hbw0 P1 P2 P3 P4 R1 R2 R3 R4 hy1 hy2 hy3 hy4
      go_wp2_with fail
      refine (HP1.out _ HBW1.out).mono ?_
      rintro e u1 ⟨rfl, b1⟩
      have K1 := Lib.hid b1
      have N1 := Lib.hid (HBW1.out.trans (b1.mono HBW1.out.size))
      clear b1
      go_wp2_with fail
      refine (HR1.out _ N1.out).mono ?_
      rintro e u2 ⟨rfl, b2⟩
      have K2 := Lib.hid (K1.out.trans (b2.mono K1.out.size))
      have N2 := Lib.hid (N1.out.trans (b2.mono N1.out.size))
      clear b2
      go_wp2_with fail
      refine (HP2.out _ N2.out).mono ?_
      rintro e u3 ⟨rfl, b3⟩
      have K3 := Lib.hid (K2.out.trans (b3.mono K2.out.size))
      have N3 := Lib.hid (N2.out.trans (b3.mono N2.out.size))
      clear b3
      go_wp2_with fail
      refine (HR2.out _ N3.out).mono ?_
      rintro e u4 ⟨rfl, b4⟩
      have K4 := Lib.hid (K3.out.trans (b4.mono K3.out.size))
      clear b4
      go_wp2_with fail
      refine (HP3.out _ K4.out).mono ?_
      rintro e u5 ⟨rfl, b5⟩
      have K5 := Lib.hid (K4.out.trans (b5.mono K4.out.size))
      clear b5
      go_wp2_with fail
      refine (HR3.out _ K5.out).mono ?_
      rintro e u6 ⟨rfl, b6⟩
      have K6 := Lib.hid (K5.out.trans (b6.mono K5.out.size))
      clear b6
      go_wp2_with fail
      refine (HP4.out _ K6.out).mono ?_
      rintro e u7 ⟨rfl, b7⟩
      have K7 := Lib.hid (K6.out.trans (b7.mono K6.out.size))
      clear b7
      go_wp2_with fail
      refine (HR4.out _ K7.out).mono ?_
      rintro e u8 ⟨rfl, b8⟩
      have K8 := Lib.hid (K7.out.trans (b8.mono K7.out.size))
      clear b8
      go_wp2_with fail
      refine (lives_any _).mono ?_
      rintro e u9 ⟨rfl, b9⟩
      have K9 := Lib.hid (K8.out.trans (b9.mono K8.out.size))
      clear b9
      go_wp2
      go_ret
      exact ⟨rfl, by rw [HB.out]; exact HBW0.out.trans (K9.out.mono zB)⟩

end Go.Proofs.Ytfhpllcdlejfjaa
