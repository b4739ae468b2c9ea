/- Texts of one claim, put together: DEdt, DFm, DSf, DFw. Each part says what it proves and under which conditions. -/
import Derived.Test.YtkehgoailhpenaaGreatPE09
import Derived.Deep.RegionHeld3

/- The contract of Edit. It has no condition on how many states are remembered. -/
namespace Go.Proofs.YtkehgoailhpenaaGreat
open Go.RowKit Go.Shelf Go.Maps
set_option linter.unusedVariables false

/-- The error of an edit of the server. -/
def edtE (s : DS) (es : List Er) : Int := if 0 < s.hs.length then 23 else if s.v = 1099511627776 then 5 else advE s es

set_option maxRecDepth 100000 in
set_option maxHeartbeats 4000000 in
theorem edit_any (T G : Nat → Prop) (p : Nat) (s : DS) (w : World) (h : DocI T G w p s) (a : Option Addr) (cap : Nat) (es : List Er) (hE : ES w.heap.size w a cap es) (hn : es.length ≤ 1000) (hf : ∀ e ∈ es, e.Fit) :
    Calls Tryz.prog 14 #[.pointer (some ⟨p, 0, none⟩), .slice a es.length cap] w fun e w' =>
      (edtE s es ≠ 0 ∧ e = .returned (.tuple #[.int .i64 0, .int .i64 (edtE s es)]) ∧ Below w.heap.size w w') ∨
      (edtE s es = 0 ∧ e = .returned (.tuple #[.int .i64 (s.v + 1), .int .i64 0]) ∧ ∃ T' G', DocI T' G' w' p (advS s es) ∧ Stp T G T' G' w w') := by
  have hv0 := h.ok.v0
  have hv1 := h.ok.v1
  obtain ⟨g, cp, m, n', D, _, _, c0, _, c2, hm, hh, hTm, hpW⟩ := h.full
  have hlen := hm.len Tryz.underlying70 3
  rw [hh.size] at hlen
  obtain ⟨R, hR⟩ : ∃ r, edtE s es = r := ⟨_, rfl⟩
  have hRE : R = if 0 < s.hs.length then 23 else if s.v = 1099511627776 then 5 else advE s es := by rw [← hR]; rfl
  rw [hR]
  have HAD : Hid (s.v + 1 ≤ 1099511627776 → ∀ W, Below w.heap.size w W → ∀ a' c', ES W.heap.size W a' c' es → (∀ b, blkOf a' b → ¬ T b) → _) := Lib.hid (fun hv W hW a' c' hEs hT => advance_any T G p s W (h.below hW) hv a' c' es hEs hn hf hT)
  have HCL := Lib.hid (clonee_any a cap es w (by omega) hE)
  have HTL : Hid (∀ b, T b → b < w.heap.size) := h.lt
  obtain ⟨n, hn'⟩ : ∃ n, es.length = n := ⟨_, rfl⟩
  rw [hn'] at HAD HCL ⊢
  obtain ⟨H, hH⟩ : ∃ n, s.hs.length = n := ⟨_, rfl⟩
  rw [hH] at hlen hRE
  obtain ⟨S2, hS2⟩ : ∃ q, advS s es = q := ⟨_, rfl⟩
  obtain ⟨A, hA⟩ : ∃ q, advE s es = q := ⟨_, rfl⟩
  have hS2v : S2.v = s.v + 1 := by rw [← hS2]; rfl
  rw [hS2, hA] at HAD
  rw [hA] at hRE
  rw [hS2]
  obtain ⟨v, hv⟩ : ∃ v, s.v = v := ⟨_, rfl⟩
  rw [hv] at hv0 hv1 c0 hRE hS2v HAD ⊢
  have HRE := Lib.hid hRE; have HSV := Lib.hid hS2v
  clear h hm hh hE hf hR hRE hn' hH hS2 hA hv hS2v
  by_cases h1 : 0 < H
  · have h2 : (0 : Int) < (H : Int) := by omega
    have hr := HRE.out
    rw [if_pos h1] at hr
    subst hr
    go_enter Tryz.func14, Tryz.ntmps14
    go_wp2_with fail
    go_ret2
    first | exact .inl ⟨by decide, rfl, Below.refl _ _⟩ | exact ⟨rfl, Below.refl _ _⟩
  obtain rfl : H = 0 := by omega
  by_cases h3 : v = 1099511627776
  · have hr := HRE.out
    rw [if_neg (by omega), if_pos h3] at hr
    subst hr
    subst h3
    go_enter Tryz.func14, Tryz.ntmps14
    go_wp2_with fail
    go_ret2
    first | exact .inl ⟨by decide, rfl, Below.refl _ _⟩ | exact ⟨rfl, Below.refl _ _⟩
  have hr := HRE.out
  rw [if_neg (by omega), if_neg h3] at hr
  subst hr
  have hvb : (v == 1099511627776) = false := by simp [h3]
  have HA := HAD.out (by omega)
  have HAD2 := Lib.hid HA
  clear HA HAD h3
  go_enter Tryz.func14, Tryz.ntmps14
  go_wp2_with fail
  refine HCL.out.mono ?_
  rintro e w1 ⟨a1, c1, rfl, hE1, hf1, b1⟩
  have B1 := Lib.hid b1; have HF1 := Lib.hid hf1
  have HC := Lib.hid (HAD2.out w1 b1 a1 c1 hE1 (fun b hb hT => by have := hf1 b hb; have := HTL.out b hT; omega))
  clear b1 hf1 hE1
  go_wp2_with fail
  refine HC.out.mono ?_
  rintro e w2 ⟨rfl, hw⟩
  have HW := Lib.hid hw
  clear hw
  by_cases h5 : R = 0
  · subst h5
    have hX : ∃ T' G', DocI T' G' w2 p S2 ∧ Stp T G T' G' w w2 := by
      rcases HW.out with ⟨q, _⟩ | ⟨_, q2, q3⟩
      · exact absurd rfl q
      · have hz := B1.out.size
        refine ⟨_, _, q2, (Only.of_below B1.out).trans q3, fun b hb => hb.imp id (fun h => by omega), fun b hb => hb.imp id (fun h => HF1.out b h.2)⟩
    obtain ⟨T2, G2, hd2, hs2⟩ := hX
    obtain ⟨g2, cp2, m2, n2, D2, _, _, d0, _⟩ := hd2.full
    rw [HSV.out] at d0
    have HD2 := Lib.hid hd2; have HS2 := Lib.hid hs2
    clear hd2 hs2
    go_wp2_with fail
    go_ret2
    first | exact .inr ⟨trivial, rfl, T2, G2, HD2.out, HS2.out⟩ | exact ⟨rfl, T2, G2, HD2.out, HS2.out⟩ | exact .inr ⟨rfl, rfl, T2, G2, HD2.out, HS2.out⟩
  · have hq : (R != 0) = true := by simp [h5]
    have H5 := Lib.hid h5
    have hX : Below w.heap.size w w2 := by
      rcases HW.out with ⟨_, q2⟩ | ⟨q, _⟩
      · exact B1.out.trans (q2.mono B1.out.size)
      · exact absurd q h5
    have HX := Lib.hid hX
    clear hX h5
    go_wp2_with fail
    go_ret2
    exact .inl ⟨H5.out, rfl, HX.out⟩

end Go.Proofs.YtkehgoailhpenaaGreat

/- What a document shows behind a change or an edit: mathematics, no conditions. -/
namespace Go.Proofs.YtkehgoailhpenaaGreat
open Go.RowKit Go.Shelf Go.Maps
set_option linter.unusedVariables false

theorem hldF_v : ∀ (f : Nat) (s : DS), (hldF f s).2.v = s.v + ((hldF f s).1 : Int) := by
  intro f
  induction f with
  | zero => intro s; simp [hldF]
  | succ f ih =>
    intro s
    simp only [hldF]
    split
    · split
      · have h1 := ih (aplS (dropH s) (lookH s.hs (s.v + 1)))
        rw [aplS_v] at h1
        have h2 : (dropH s).v = s.v := rfl
        show (hldF f (aplS (dropH s) (lookH s.hs (s.v + 1)))).2.v = s.v + (((hldF f (aplS (dropH s) (lookH s.hs (s.v + 1)))).1 + 1 : Nat) : Int)
        omega
      · simp [dropH]
    · simp
/-- A change that is refused changes nothing; one that is taken makes as many versions as it says. -/
theorem rcv_cases (s : DS) (cv : Int) (ps : List PE) : ∃ r1 r2 s2, rcvF s cv ps = ((r1, r2), s2) ∧ ((r2 ≠ 0 ∧ r1 = 0 ∧ s2 = s) ∨ (r2 = 0 ∧ 0 ≤ r1 ∧ s2.v = s.v + r1)) := by
  unfold rcvF
  by_cases h1 : chkE s cv ps.length = 0
  · rw [if_neg (by simpa using h1)]
    by_cases h2 : s.v + 1 < cv
    · rw [if_pos h2]
      exact ⟨0, 0, _, rfl, .inr ⟨rfl, by omega, by show s.v = _; omega⟩⟩
    · rw [if_neg h2]
      by_cases h3 : aplE s ps = 0
      · rw [if_neg (by simpa using h3)]
        exact ⟨_, 0, _, rfl, .inr ⟨rfl, by omega, by rw [hldF_v, aplS_v]; omega⟩⟩
      · rw [if_pos h3]
        exact ⟨0, _, _, rfl, .inl ⟨h3, rfl, rfl⟩⟩
  · rw [if_pos h1]
    exact ⟨0, _, _, rfl, .inl ⟨h1, rfl, rfl⟩⟩
theorem edt_zero {s : DS} {es : List Er} (h : edtE s es = 0) : vErr (s.text.size : Int) es = 0 := by
  unfold edtE at h
  split at h
  · omega
  · split at h
    · omega
    · unfold advE at h
      split at h
      · assumption
      · exact h
theorem advS_text (s : DS) (es : List Er) : (advS s es).text = apS s.text es := by
  show (((remS (s.ss.set (s.ss.length - 1) (s.text, es)) (apS s.text es)).getLast?).getD (⟨#[]⟩, [])).1 = _
  rw [remS_text]; rfl
theorem Only.step {N T G T' G' : Nat → Prop} {A W W' : World} (h : Only N A W) (k : Stp T G T' G' W W') (hT : ∀ b, T b → N b ∨ A.heap.size ≤ b) : Only N A W' := by
  have hz := h.size
  exact ⟨k.only.os.trans h.os, k.only.tape.trans h.tape, k.only.output.trans h.output, Nat.le_trans h.size k.only.size, fun b hb hn => (k.only.block b (by omega) (fun hT' => (hT b hT').elim hn (fun e => by omega))).trans (h.block b hb hn)⟩

end Go.Proofs.YtkehgoailhpenaaGreat

/- The contract of Shuffled. Conditions: at most 16 changes. -/
namespace Go.Proofs.YtkehgoailhpenaaGreat
open Go.RowKit Go.Shelf Go.Maps
set_option linter.unusedVariables false

set_option maxRecDepth 100000 in
set_option maxHeartbeats 8000000 in
theorem shuffled_any (a : Option Addr) (cap : Nat) (vs : List (Int × Value)) (al : Option Addr) (nl cl : Nat) (w : World) (hV : VS w.heap.size w a cap vs) (hn : vs.length ≤ 16) (hok : VOk vs) (hL : SlI w.heap.size w al nl) (hcl : nl ≤ cl) (hcl2 : cl ≤ 9223372036854775807) :
    Calls Tryz.prog 10 #[.slice a vs.length cap, .slice al nl cl] w fun e w' => ∃ v ks, e = .returned v ∧ Arr vs.length ks ∧ ks.length ≤ vs.length + 3 ∧ w'.ownsRow w.heap.size 47 2 v ks.length (cv (pickL vs ks)) ∧ Below w.heap.size w w' := by
  obtain ⟨i5, hi5, jy0, jy1, jy2⟩ := info_parts infoCh
  have hvl := hV.le
  have hvm := hV.mx
  obtain ⟨n, hn'⟩ : ∃ n, vs.length = n := ⟨_, rfl⟩
  obtain ⟨lo, hlo⟩ : ∃ l, w.heap.size = l := ⟨_, rfl⟩
  have HPK : Hid (∀ (W : World) (j m : Nat), Below lo w W → j ≤ 1000 → 1 ≤ m → m ≤ 1000 → Calls Tryz.prog 35 #[.slice al nl cl, .int .i64 (j : Int), .int .i64 (m : Int)] W (Index m W)) := fun W j m hW h1 h2 h3 => by
    have hW' : Below w.heap.size w W := by rw [hlo]; exact hW
    exact pick_any w.heap.size al nl cl j m W (hL.below hW') hcl hcl2 h1 h2 (by omega)
  have hcells := hV.cells
  have hnil := hV.nil
  rw [hn'] at hn hvl hcells ⊢
  rw [hlo] at hcells ⊢
  by_cases h0 : n = 0
  · subst h0
    have hvs : vs = [] := List.eq_nil_of_length_eq_zero hn'
    have HFIN : Hid (∀ W v, W.ownsRow lo 47 2 v 0 [] → Below lo w W → ∃ v' ks, Ending.returned v = .returned v' ∧ Arr 0 ks ∧ ks.length ≤ 0 + 3 ∧ W.ownsRow lo 47 2 v' ks.length (cv (pickL vs ks)) ∧ Below lo w W) := fun W v h1 h2 => ⟨v, [], rfl, ⟨fun k h => by simp at h, fun k h => by omega⟩, by simp, h1, h2⟩
    have HLO := Lib.hid hlo
    clear hV hok hL hcl hcl2 hn' hcells hlo hvs HPK
    cases a with
    | none =>
      obtain rfl : cap = 0 := hnil rfl
      go_enter Tryz.func10, Tryz.ntmps10
      go_wp2_with (at_builtin; refine wpList_append_own_none rfl _ _ 25 rfl lo 47 i5 2 Tryz.underlying25 hi5 (.slice none 0 0) 0 [] rfl (World.ownsRow_nil _ _ _ _) rfl ?_)
      have HQ := Lib.hid (HFIN.out w (.slice none 0 0) (World.ownsRow_nil _ _ _ _) (by rw [← HLO.out]; exact Below.refl _ _))
      go_loopw [6] (fun q wr => q = .int .i64 0 ∧ wr = w) (fun _ _ => 0)
      case atStart => exact ⟨rfl, rfl⟩
      case round =>
        obtain ⟨rfl, rfl⟩ := hrel
        go_wp2_with fail
        go_loopw [5, 9] (fun o q wr2 => o = .slice none 0 0 ∧ q = .int .i64 0 ∧ wr2 = wr) (fun _ _ _ => 0)
        case atStart => exact ⟨rfl, rfl, rfl⟩
        case round =>
          obtain ⟨rfl, rfl, rfl⟩ := hrel
          go_wp2_with fail
          go_ret
          exact HQ.out
    | some ad =>
      go_enter Tryz.func10, Tryz.ntmps10
      go_wp2_with (at_builtin; refine wpList_append_own_at _ rfl _ _ 25 rfl lo 47 i5 (.agg #[.int .i64 0, .slice none 0 0]) 2 32 Tryz.underlying25 hi5 jy0 jy1 jy2 rfl (by decide) (.slice none 0 0) 0 [] rfl (World.ownsRow_nil _ _ _ _) ad 0 cap [] rfl rfl (fun j u h => by simp at h) (fun x hx => by simp at hx) (by unfold maxLen; omega) (by omega) (by rw [HLO.out]; exact Nat.le_refl _) ?_; intro v' w6 hown6 hgrow6 hn6 hat6; obtain rfl := hn6.2 ⟨rfl, rfl⟩)
      have hb6 : Below lo w w6 := by rw [← HLO.out]; exact (Below.refl _ _).grown hgrow6 (Nat.le_refl _) (fun g hg => by cases hg)
      have HQ := Lib.hid (HFIN.out w6 (.slice none 0 0) (World.ownsRow_nil _ _ _ _) hb6)
      clear hown6 hgrow6 hn6 hat6 hb6
      go_loopw [6] (fun q wr => q = .int .i64 0 ∧ wr = w6) (fun _ _ => 0)
      case atStart => exact ⟨rfl, rfl⟩
      case round =>
        obtain ⟨rfl, rfl⟩ := hrel
        go_wp2_with fail
        go_loopw [5, 9] (fun o q wr2 => o = .slice none 0 0 ∧ q = .int .i64 0 ∧ wr2 = wr) (fun _ _ _ => 0)
        case atStart => exact ⟨rfl, rfl, rfl⟩
        case round =>
          obtain ⟨rfl, rfl, rfl⟩ := hrel
          go_wp2_with fail
          go_ret
          exact HQ.out
  · obtain ⟨b, off, rfl, hb, hc⟩ := hcells.resolve_left h0
    have hnews : ∀ j u, (cv vs)[j]? = some u → w.cell? ((⟨b, off, none⟩ : Addr).add j) = some u := vscells_at (by rw [hn']; exact hc)
    have hlen2 : (cv vs).length = n * 2 := by rw [cv_len, hn']
    have HC : Hid (∀ W, Below lo w W → ∀ k, k < n → W.cell? ⟨b, off + k * 2, none⟩ = some (.int .i64 (cG vs k).1) ∧ W.cell? ⟨b, off + k * 2 + 1, none⟩ = some (cG vs k).2) := fun W hW k hk => by
      obtain ⟨q1, q2⟩ := hc k hk
      exact ⟨(hW.cell (p := ⟨b, off + k * 2, none⟩) hb).trans q1, (hW.cell (p := ⟨b, off + k * 2 + 1, none⟩) hb).trans q2⟩
    have HNW := Lib.hid hnews; have HL2 := Lib.hid hlen2; have HOK := Lib.hid hok; have HLO := Lib.hid hlo; have HN := Lib.hid hn'
    have hnpos : 0 < n := by omega
    clear hV hok hL hcl hcl2 hn' hcells hlo hc hnews hlen2 hnil h0
    go_enter Tryz.func10, Tryz.ntmps10
    go_wp2_with (at_builtin; refine wpList_append_own_at _ rfl _ _ 25 rfl lo 47 i5 (.agg #[.int .i64 0, .slice none 0 0]) 2 32 Tryz.underlying25 hi5 jy0 jy1 jy2 rfl (by decide) (.slice none 0 0) 0 [] rfl (World.ownsRow_nil _ _ _ _) ⟨b, off, none⟩ n cap (cv vs) rfl HL2.out HNW.out HOK.out.one (by unfold maxLen; omega) (by omega) (by rw [HLO.out]; exact Nat.le_refl _) ?_; intro v' w1 hown hgrow _ _)
    have hb1 : Below lo w w1 := by rw [← HLO.out]; exact (Below.refl _ _).grown hgrow (Nat.le_refl _) (fun g hg => by cases hg)
    rw [Nat.zero_add, List.nil_append] at hown
    obtain ⟨g, cp, hvv⟩ : ∃ g cp, v' = .slice (some ⟨g, 0, none⟩) n cp := by
      obtain ⟨m, hm⟩ : ∃ m, n = m + 1 := ⟨n - 1, by omega⟩
      have h1 := hown
      rw [hm] at h1
      obtain ⟨g, cp, h2⟩ := ownsRow_succ h1
      exact ⟨g, cp, by rw [h2, hm]⟩
    subst hvv
    have HO1 : Hid (w1.ownsRow lo 47 2 (.slice (some ⟨g, 0, none⟩) n cp) n (cv (pickL vs (List.range n)))) := by
      rw [← HN.out, pickL_range, HN.out]; exact hown
    have HB1 := Lib.hid hb1
    clear hown hgrow hb1
    go_loopw [6] (fun q wr => ∃ (ks : List Nat) (i : Nat), q = .int .i64 (i : Int) ∧ i ≤ n ∧ Hid (Arr n ks ∧ ks.length = n) ∧ Hid (wr.ownsRow lo 47 2 (.slice (some ⟨g, 0, none⟩) n cp) n (cv (pickL vs ks))) ∧ Hid (Below lo w wr)) (fun q _ => n - (intOf q).toNat)
    case atStart => exact ⟨List.range n, 0, rfl, by omega, Lib.hid ⟨Arr.range n, by simp⟩, HO1, HB1⟩
    case round =>
      obtain ⟨ks, i, rfl, hi, HA, HO, HR⟩ := hrel
      by_cases hlt : i < n
      · have hlt2 : (i : Int) < (n : Int) := by omega
        have m1 : IntKind.i64.wrap ((n : Int) - (i : Int)) = (n : Int) - (i : Int) := by simp [IntKind.wrap, IntKind.signed, IntKind.bits]; omega
        have HP := HPK.out wr i (n - i) HR.out (by omega) (by omega) (by omega)
        rw [show ((n - i : Nat) : Int) = (n : Int) - (i : Int) by omega] at HP
        have HP1 := Lib.hid HP
        clear HP
        go_wp2_with fail
        refine HP1.out.mono ?_
        rintro e w' ⟨r, hr, rfl, rfl⟩
        obtain ⟨k, hk⟩ : ∃ k : Nat, (i : Int) + (r : Int) = (k : Int) := ⟨i + r, by omega⟩
        have m2 : IntKind.i64.wrap (k : Int) = (k : Int) := by simp [IntKind.wrap, IntKind.signed, IntKind.bits]; omega
        have hkn : k < n := by omega
        have hkn2 : (k : Int) < (n : Int) := by omega
        have hlks : ks.length = n := HA.out.2
        obtain ⟨us, hus⟩ : ∃ us, pickL vs ks = us := ⟨_, rfl⟩
        have hul : us.length = n := by rw [← hus, pickL_len]; exact hlks
        have hown : wr.ownsRow lo 47 2 (.slice (some ⟨g, 0, none⟩) n cp) n (cv us) := by rw [← hus]; exact HO.out
        obtain ⟨x1, x2⟩ := cv_get us i (by omega)
        obtain ⟨y1, y2⟩ := cv_get us k (by omega)
        have hcl := cv_len us
        have c1 := hown.cellAt (i * 2) (by omega)
        have c2 := hown.cellAt (i * 2 + 1) (by omega)
        have c3 := hown.cellAt (k * 2) (by omega)
        have c4 := hown.cellAt (k * 2 + 1) (by omega)
        rw [x1] at c1; rw [x2] at c2; rw [y1] at c3; rw [y2] at c4
        have hok2 : VOk us := by rw [← hus]; exact pickL_ok HOK.out (by rw [HN.out]; exact HA.out.1.lt)
        obtain ⟨ai, ni, ci, ei⟩ := hok2 _ (cG_mem (vs := us) (k := i) (by omega))
        obtain ⟨ak, nk, ck, ek⟩ := hok2 _ (cG_mem (vs := us) (k := k) (by omega))
        obtain ⟨vi, hvi⟩ : ∃ x, (cG us i).1 = x := ⟨_, rfl⟩
        obtain ⟨vk, hvk⟩ : ∃ x, (cG us k).1 = x := ⟨_, rfl⟩
        rw [hvi] at c1; rw [hvk] at c3; rw [ei] at c2; rw [ek] at c4
        obtain ⟨W1, hW1⟩ : ∃ W, wr.alloc (.cells #[.int .i64 vi, .slice ai ni ci] 47) = W := ⟨_, rfl⟩
        have b1 : Below wr.heap.size wr W1 := by rw [← hW1]; exact (Below.refl _ _).alloc (Nat.le_refl _) _
        have hgl := (hown.lt g rfl).2
        have hlg := (hown.lt g rfl).1
        have hlr : lo ≤ wr.heap.size := by omega
        have kp : Blk W1 wr.heap.size 47 #[.int .i64 vi, .slice ai ni ci] := by rw [← hW1]; exact Blk.new _ _ _
        have hO1 : W1.ownsRow lo 47 2 (.slice (some ⟨g, 0, none⟩) n cp) n (cv us) := own_same hown (fun g' hg => b1.block g' (hown.lt g' hg).2)
        have d3 := hO1.cellAt (k * 2) (by omega)
        have d4 := hO1.cellAt (k * 2 + 1) (by omega)
        rw [y1, hvk] at d3; rw [y2, ek] at d4
        have f1 : W1.frozen? ⟨g, i * 2, none⟩ = false := hO1.frozenAt _
        obtain ⟨z1, e1⟩ := own_some hO1 (i * 2) (by omega)
        obtain ⟨z2, e2⟩ := own_some (hO1.stored (i * 2) (.int .i64 vk)).1 (i * 2 + 1) (by omega)
        have f2 : (W1.setCell ⟨g, i * 2, none⟩ (.int .i64 vk)).frozen? ⟨g, i * 2 + 1, none⟩ = false := ((hO1.stored (i * 2) (.int .i64 vk)).1).frozenAt _
        obtain ⟨W2, hW2⟩ : ∃ W, (W1.setCell ⟨g, i * 2, none⟩ (.int .i64 vk)).setCell ⟨g, i * 2 + 1, none⟩ (.slice ak nk ck) = W := ⟨_, rfl⟩
        have hO2 : W2.ownsRow lo 47 2 (.slice (some ⟨g, 0, none⟩) n cp) n (cv (us.set i (vk, .slice ak nk ck))) := by rw [← hW2]; exact row_put hO1 (by omega) _ _
        have b2 : Below lo wr W2 := by
          rw [← hW2]
          exact ((b1.mono hlr).setCell (p := ⟨g, i * 2, none⟩) hlg _).setCell (p := ⟨g, i * 2 + 1, none⟩) hlg _
        have kp2 : Blk W2 wr.heap.size 47 #[.int .i64 vi, .slice ai ni ci] := by
          rw [← hW2]
          exact kp.same ((Below.heap_setCell _ _ _ _ (fun e => by simp at e; omega)).trans (Below.heap_setCell _ _ _ _ (fun e => by simp at e; omega)))
        have p0 := kp2.cell 0
        have p1 := kp2.cell 1
        simp only [List.getElem?_toArray, List.getElem?_cons_zero, List.getElem?_cons_succ] at p0 p1
        have f3 : W2.frozen? ⟨g, k * 2, none⟩ = false := hO2.frozenAt _
        obtain ⟨z3, e3⟩ := own_some hO2 (k * 2) (by omega)
        obtain ⟨z4, e4⟩ := own_some (hO2.stored (k * 2) (.int .i64 vi)).1 (k * 2 + 1) (by omega)
        have f4 : (W2.setCell ⟨g, k * 2, none⟩ (.int .i64 vi)).frozen? ⟨g, k * 2 + 1, none⟩ = false := ((hO2.stored (k * 2) (.int .i64 vi)).1).frozenAt _
        obtain ⟨W3, hW3⟩ : ∃ W, (W2.setCell ⟨g, k * 2, none⟩ (.int .i64 vi)).setCell ⟨g, k * 2 + 1, none⟩ (.slice ai ni ci) = W := ⟨_, rfl⟩
        have hO3 : W3.ownsRow lo 47 2 (.slice (some ⟨g, 0, none⟩) n cp) n (cv ((us.set i (vk, .slice ak nk ck)).set k (vi, .slice ai ni ci))) := by rw [← hW3]; exact row_put hO2 (by simp; omega) _ _
        have hui : cG us i = (vi, .slice ai ni ci) := Prod.ext hvi ei
        have huk : cG us k = (vk, .slice ak nk ck) := Prod.ext hvk ek
        have hsw := pickL_swap vs (ks := ks) (i := i) (k := k) (by omega) (by omega)
        rw [hus, hui, huk] at hsw
        rw [hsw] at hO3
        have hA3 : Arr n ((ks.set i ks[k]).set k ks[i]) ∧ ((ks.set i ks[k]).set k ks[i]).length = n := ⟨HA.out.1.swap (by omega) (by omega), by simp [hlks]⟩
        obtain ⟨kz, hkz⟩ : ∃ x, (ks.set i ks[k]).set k ks[i] = x := ⟨_, rfl⟩
        rw [hkz] at hO3 hA3
        have HO3 := Lib.hid hO3; have HA3 := Lib.hid hA3
        have hb3 : Below lo wr W3 := by
          rw [← hW3]
          exact (b2.setCell (p := ⟨g, k * 2, none⟩) hlg _).setCell (p := ⟨g, k * 2 + 1, none⟩) hlg _
        have HB3 : Hid (Below lo w W3) := HR.out.trans hb3
        clear x1 x2 y1 y2 hO1 hO2 hO3 kp kp2 b1 b2 hb3 hown ei ek hvi hvk hok2 hgl hlg hlr hsw hui huk hcl
        subst hW3
        subst hW2
        subst hW1
        go_wp2
        go_roundw
        case rel => exact ⟨_, i + 1, by go_num, by omega, HA3, HO3, HB3⟩
        case measure => simp [intOf]; omega
      · have hlt2 : ¬ ((i : Int) < (n : Int)) := by omega
        clear hi hlt
        go_wp2_with fail
        go_loopw [5, 9] (fun o q wx => ∃ (ks : List Nat) (j M g' cp' : Nat), o = .slice (some ⟨g', 0, none⟩) M cp' ∧ q = .int .i64 (j : Int) ∧ j ≤ 3 ∧ Hid (M = n + j) ∧ M ≤ 19 ∧ M ≤ cp' ∧ cp' ≤ 9223372036854775807 ∧ Hid (Arr n ks ∧ ks.length = M) ∧ Hid (wx.ownsRow lo 47 2 (.slice (some ⟨g', 0, none⟩) M cp') M (cv (pickL vs ks))) ∧ Hid (Below lo w wx)) (fun _ q _ => 3 - (intOf q).toNat)
        case atStart =>
          obtain ⟨h1, h2⟩ : n ≤ cp ∧ cp ≤ 9223372036854775807 := by
            obtain ⟨_, a', c', hv, hs, _⟩ := vs_of_own HO.out
            have := hs.le; have := hs.mx
            simp only [Value.slice.injEq] at hv
            omega
          exact ⟨ks, 0, n, g, cp, rfl, rfl, by omega, Lib.hid rfl, by omega, h1, h2, HA, HO, HR⟩
        case round =>
          obtain ⟨ks, j, M, g', cp', rfl, rfl, hj, HM, hM, hMc, hcm, HA, HO, HR⟩ := hrel
          have hlr : lo ≤ wr.heap.size := by have := HR.out.size; have := HLO.out; omega
          by_cases hgo : j < n ∧ j < 3
          · have g1 : (j : Int) < (n : Int) := by omega
            have g2 : (j : Int) < 3 := by omega
            have m1 : IntKind.i64.wrap ((n : Int) + (j : Int)) = (n : Int) + (j : Int) := by simp [IntKind.wrap, IntKind.signed, IntKind.bits]; omega
            have m2 : IntKind.i64.wrap ((M : Int) + 1) = (M : Int) + 1 := by simp [IntKind.wrap, IntKind.signed, IntKind.bits]; omega
            have m3 : IntKind.i64.wrap ((n : Int) + 3) = (n : Int) + 3 := by simp [IntKind.wrap, IntKind.signed, IntKind.bits]; omega
            have m4 : IntKind.i64.wrap ((n : Int) + 3 + (j : Int)) = (n : Int) + 3 + (j : Int) := by simp [IntKind.wrap, IntKind.signed, IntKind.bits]; omega
            have m5 : IntKind.i64.wrap ((j : Int) + 1) = (j : Int) + 1 := by simp [IntKind.wrap, IntKind.signed, IntKind.bits]; omega
            have HP := HPK.out wr (n + j) (M + 1) HR.out (by omega) (by omega) (by omega)
            rw [show ((n + j : Nat) : Int) = (n : Int) + (j : Int) by omega, show ((M + 1 : Nat) : Int) = (M : Int) + 1 by omega] at HP
            have HP1 := Lib.hid HP
            have HP2 : Hid (∀ W, Below lo w W → Calls Tryz.prog 35 #[.slice al nl cl, .int .i64 ((n : Int) + 3 + (j : Int)), .int .i64 (n : Int)] W (Index n W)) := fun W hW => by
              have := HPK.out W (n + 3 + j) n hW (by omega) (by omega) (by omega)
              rwa [show ((n + 3 + j : Nat) : Int) = (n : Int) + 3 + (j : Int) by omega] at this
            clear HP hgo
            go_wp2_with fail
            refine HP1.out.mono ?_
            rintro e w' ⟨r, hr, rfl, rfl⟩
            have hrM : r ≤ M := by omega
            have hr1 : (r : Int) ≤ (cp' : Int) := by omega
            have hr2 : (r : Int) ≤ (M : Int) := by omega
            have hr3 : (0 : Int) ≤ (r : Int) := by omega
            have hr4 : (M : Int) ≤ (cp' : Int) := by omega
            obtain ⟨us, hus⟩ : ∃ us, pickL vs ks = us := ⟨_, rfl⟩
            have hul : us.length = M := by rw [← hus, pickL_len]; exact HA.out.2
            have hown : wr.ownsRow lo 47 2 (.slice (some ⟨g', 0, none⟩) M cp') M (cv us) := by rw [← hus]; exact HO.out
            have hok2 : VOk us := by rw [← hus]; exact pickL_ok HOK.out (by rw [HN.out]; exact HA.out.1.lt)
            have HN1 := Lib.hid (row_news hown hul).1
            have hltk : (cv (us.take r)).length = r * 2 := by rw [cv_len, List.length_take]; omega
            have hok3 : ∀ u ∈ cv (us.take r), u.oneCell' = true := VOk.one (fun x hx => hok2 x (List.mem_of_mem_take hx))
            have HLT := Lib.hid hltk; have HK3 := Lib.hid hok3; have HK2 := Lib.hid hok2; have HOW := Lib.hid hown; have HUL := Lib.hid hul; have HUS := Lib.hid hus
            clear hltk hok3 hok2 hown hul hus
            go_wp2_with (at_builtin; refine wpList_append_own_at _ rfl _ _ 25 rfl lo 47 i5 (.agg #[.int .i64 0, .slice none 0 0]) 2 32 Tryz.underlying25 hi5 jy0 jy1 jy2 rfl (by decide) (.slice none 0 0) 0 [] rfl (World.ownsRow_nil _ _ _ _) ⟨g', 0, none⟩ r cp' (cv (us.take r)) rfl HLT.out (HN1.out r) HK3.out (by unfold maxLen; omega) (by omega) hlr ?_; intro v3 w3 hown3 hgrow3 _ hat3)
            rw [Nat.zero_add, List.nil_append] at hown3
            have b3 : Below wr.heap.size wr w3 := (Below.refl _ _).grown hgrow3 (Nat.le_refl _) (fun g hg => by cases hg)
            have hB3 : Below lo w w3 := HR.out.trans (b3.mono hlr)
            have hg' := HOW.out.lt g' rfl
            have hv3 : ∀ q, v3.ownBlock = some q → wr.heap.size ≤ q := fun q hq => by
              rcases hat3 with h | h
              · rw [h] at hq; cases hq
              · rw [h] at hq; cases hq; exact Nat.le_refl _
            have HO3 := Lib.hid hown3; have B3 := Lib.hid b3; have HB3 := Lib.hid hB3; have HV3 := Lib.hid hv3
            have z3 : wr.heap.size ≤ w3.heap.size := b3.size
            clear hown3 hgrow3 hat3 b3 hB3 hv3
            refine (HP2.out w3 HB3.out).mono ?_
            rintro e w' ⟨x, hx, rfl, rfl⟩
            have hx2 : (x : Int) < (n : Int) := by omega
            obtain ⟨c1, c2⟩ := HC.out w3 HB3.out x hx
            obtain ⟨ax, nx, cx, ex⟩ := HOK.out _ (cG_mem (vs := vs) (k := x) (by rw [HN.out]; exact hx))
            obtain ⟨vx, hvx⟩ : ∃ y, (cG vs x).1 = y := ⟨_, rfl⟩
            rw [hvx] at c1; rw [ex] at c2
            have HX : Hid (cG vs x = (vx, .slice ax nx cx)) := Prod.ext hvx ex
            obtain ⟨W4, hW4⟩ : ∃ W, w3.alloc (.cells #[.int .i64 vx, .slice ax nx cx] 47) = W := ⟨_, rfl⟩
            have b4 : Below w3.heap.size w3 W4 := by rw [← hW4]; exact (Below.refl _ _).alloc (Nat.le_refl _) _
            have hcn : ∀ j y, ([.int .i64 vx, .slice ax nx cx] : List Value)[j]? = some y → W4.cell? ((⟨w3.heap.size, 0, none⟩ : Addr).add j) = some y := by rw [← hW4]; exact cells_two w3 _ _ _
            have ho4 : W4.ownsRow lo 47 2 v3 r (cv (us.take r)) := own_same HO3.out (fun q hq => b4.block q (HO3.out.lt q hq).2)
            have z4 : lo ≤ W4.heap.size := by have := b4.size; omega
            have HO4 := Lib.hid ho4; have HCN := Lib.hid hcn; have B4 : Hid (Below w3.heap.size w3 W4) := b4; have HW4 := Lib.hid hW4
            clear ho4 hcn b4 hW4 ex hvx
            have HKEY : Hid (∀ v5 w5, w5.ownsRow lo 47 2 v5 (r + 1) (cv (us.take r) ++ [.int .i64 vx, .slice ax nx cx]) → W4.grownBy w5 v3.ownBlock → (v5.ownBlock = v3.ownBlock ∨ v5.ownBlock = some W4.heap.size) →
                Hid (w5.ownsRow lo 47 2 v5 (r + 1) (cv (us.take r) ++ [.int .i64 vx, .slice ax nx cx])) ∧ Hid (Below lo w w5) ∧ Hid (∀ j u, (cv (us.drop r))[j]? = some u → w5.cell? ((⟨g', r * 2, none⟩ : Addr).add j) = some u) ∧ lo ≤ w5.heap.size) := fun v5 w5 h1 h2 h3 => by
              have hz := h2.size
              have hz4 := B4.out.size
              have hb4 : Below lo w W4 := HB3.out.trans (B4.out.mono (by omega))
              have hb5 : Below lo w w5 := hb4.grown h2 z4 (fun g hg => (HO4.out.lt g hg).1)
              have hgg : w5.heap[g']? = wr.heap[g']? := ((h2.block g' (by omega) (fun e => by have := HV3.out g' e.symm; omega)).trans (B4.out.block g' (by omega))).trans (B3.out.block g' hg'.2)
              have hrow : w5.ownsRow lo 47 2 (.slice (some ⟨g', 0, none⟩) M cp') M (cv us) := own_same HOW.out (fun q hq => by cases hq; exact hgg)
              exact ⟨h1, hb5, (row_news hrow HUL.out).2 r, by omega⟩
            have hld : (cv (us.drop r)).length = (M - r) * 2 := by rw [cv_len, List.length_drop, HUL.out]
            have hokd : ∀ u ∈ cv (us.drop r), u.oneCell' = true := VOk.one (fun x hx => HK2.out x (List.mem_of_mem_drop hx))
            have HLD := Lib.hid hld; have HKD := Lib.hid hokd
            have hmr : r + 1 + (M - r) = M + 1 := by omega
            have HMR := Lib.hid hmr
            clear hld hokd hmr
            have HREL : Hid (∀ v6 w6, w6.ownsRow lo 47 2 v6 (r + 1 + (M - r)) (cv (us.take r) ++ [.int .i64 vx, .slice ax nx cx] ++ cv (us.drop r)) → Below lo w w6 → ∃ (ks : List Nat) (j_1 M g' cp' : Nat), v6 = .slice (some ⟨g', 0, none⟩) M cp' ∧ Value.int .i64 ((j : Int) + 1) = .int .i64 (j_1 : Int) ∧ j_1 ≤ 3 ∧ Hid (M = n + j_1) ∧ M ≤ 19 ∧ M ≤ cp' ∧ cp' ≤ 9223372036854775807 ∧ Hid (Arr n ks ∧ ks.length = M) ∧ Hid (w6.ownsRow lo 47 2 (.slice (some ⟨g', 0, none⟩) M cp') M (cv (pickL vs ks))) ∧ Hid (Below lo w w6)) := fun v6 w6 h1 h2 => by
              have hM9 := HM.out
              have hlk := HA.out.2
              have h3 : cv (us.take r) ++ [.int .i64 vx, .slice ax nx cx] ++ cv (us.drop r) = cv (pickL vs (ks.take r ++ [x] ++ ks.drop r)) := by
                rw [← pickL_put, HUS.out, HX.out, cv_app, cv_app]; rfl
              rw [h3, HMR.out] at h1
              obtain ⟨g6, c6, rfl⟩ := ownsRow_succ h1
              obtain ⟨_, a', c', hv, hs, _⟩ := vs_of_own h1
              have q1 := hs.le; have q2 := hs.mx
              simp only [Value.slice.injEq] at hv
              have hl6 : (ks.take r ++ [x] ++ ks.drop r).length = M + 1 := by simp; omega
              rw [pickL_len] at q1
              exact ⟨_, j + 1, M + 1, g6, c6, rfl, by go_num, by omega, Lib.hid (by omega), by omega, by omega, by omega, Lib.hid ⟨HA.out.1.put hx r, hl6⟩, Lib.hid h1, Lib.hid h2⟩
            by_cases hcr : cp' = r
            · have hMr : M - r = 0 := by omega
              have HMr := Lib.hid hMr
              clear hMr
              go_wp2_with (first
                | (at_builtin; rw [show w3.alloc (.cells #[.int .i64 vx, .slice ax nx cx] 47) = W4 from HW4.out]; refine wpList_append_own_at _ rfl _ _ 25 rfl lo 47 i5 (.agg #[.int .i64 0, .slice none 0 0]) 2 32 Tryz.underlying25 hi5 jy0 jy1 jy2 rfl (by decide) v3 r (cv (us.take r)) rfl HO4.out ⟨w3.heap.size, 0, none⟩ 1 1 [.int .i64 vx, .slice ax nx cx] rfl rfl HCN.out (fun x hx => by simp at hx; rcases hx with rfl | rfl <;> rfl) (by unfold maxLen; omega) (by omega) z4 ?_; intro v5 w5 hown5 hgrow5 hnn5 hat5; obtain ⟨HO5, HB5, HN5, z5⟩ := HKEY.out v5 w5 hown5 hgrow5 hat5; clear hown5 hgrow5 hnn5 hat5; obtain ⟨a5, c5, rfl⟩ := own_slice HO5.out)
                | (at_builtin; refine wpList_append_own_at _ rfl _ _ 25 rfl lo 47 i5 (.agg #[.int .i64 0, .slice none 0 0]) 2 32 Tryz.underlying25 hi5 jy0 jy1 jy2 rfl (by decide) (.slice a5 (r + 1) c5) (r + 1) (cv (us.take r) ++ [.int .i64 vx, .slice ax nx cx]) rfl HO5.out _ (M - r) _ (cv (us.drop r)) rfl HLD.out (fun j u h => by have := (List.getElem?_eq_some_iff.1 h).1; have := HLD.out; have := HMr.out; omega) HKD.out (by unfold maxLen; omega) (by omega) z5 ?_; intro v6 w6 hown6 hgrow6 hnn6 hat6))
              have hb6 := HB5.out.grown hgrow6 z5 (fun g hg => (HO5.out.lt g hg).1)
              exact ⟨HREL.out v6 w6 hown6 hb6, by simp [intOf]; omega⟩
            · have hcr2 : ¬ (cp' : Int) = (r : Int) := by omega
              go_wp2_with (first
                | (at_builtin; rw [show w3.alloc (.cells #[.int .i64 vx, .slice ax nx cx] 47) = W4 from HW4.out]; refine wpList_append_own_at _ rfl _ _ 25 rfl lo 47 i5 (.agg #[.int .i64 0, .slice none 0 0]) 2 32 Tryz.underlying25 hi5 jy0 jy1 jy2 rfl (by decide) v3 r (cv (us.take r)) rfl HO4.out ⟨w3.heap.size, 0, none⟩ 1 1 [.int .i64 vx, .slice ax nx cx] rfl rfl HCN.out (fun x hx => by simp at hx; rcases hx with rfl | rfl <;> rfl) (by unfold maxLen; omega) (by omega) z4 ?_; intro v5 w5 hown5 hgrow5 hnn5 hat5; obtain ⟨HO5, HB5, HN5, z5⟩ := HKEY.out v5 w5 hown5 hgrow5 hat5; clear hown5 hgrow5 hnn5 hat5; obtain ⟨a5, c5, rfl⟩ := own_slice HO5.out)
                | (at_builtin; refine wpList_append_own_at _ rfl _ _ 25 rfl lo 47 i5 (.agg #[.int .i64 0, .slice none 0 0]) 2 32 Tryz.underlying25 hi5 jy0 jy1 jy2 rfl (by decide) (.slice a5 (r + 1) c5) (r + 1) (cv (us.take r) ++ [.int .i64 vx, .slice ax nx cx]) rfl HO5.out ⟨g', r * 2, none⟩ (M - r) (cp' - r) (cv (us.drop r)) rfl HLD.out HN5.out HKD.out (by unfold maxLen; omega) (by omega) z5 ?_; intro v6 w6 hown6 hgrow6 hnn6 hat6))
              have hb6 := HB5.out.grown hgrow6 z5 (fun g hg => (HO5.out.lt g hg).1)
              exact ⟨HREL.out v6 w6 hown6 hb6, by simp [intOf]; omega⟩
          · have hways : ¬ ((j : Int) < (n : Int)) ∨ ((j : Int) < (n : Int) ∧ ¬ ((j : Int) < 3)) := by omega
            have HQ : Hid (Arr n ks ∧ ks.length ≤ n + 3 ∧ wr.ownsRow lo 47 2 (.slice (some ⟨g', 0, none⟩) M cp') ks.length (cv (pickL vs ks)) ∧ Below lo w wr) := ⟨HA.out.1, by have := HM.out; rw [HA.out.2]; omega, by rw [HA.out.2]; exact HO.out, HR.out⟩
            clear hgo
            rcases hways with g1 | ⟨g1, g2⟩
            all_goals
              go_wp2_with fail
              go_ret
              exact ⟨_, rfl, ks, HQ.out⟩

end Go.Proofs.YtkehgoailhpenaaGreat

/- The walk of DocumentRefuses. It has no conditions. -/
namespace Go.Proofs.YtkehgoailhpenaaGreat
open Go.RowKit Go.Shelf Go.Maps
set_option linter.unusedVariables false

def mkA (cs : List (List PE)) (ks : List Nat) : List (Int × List PE) := ks.map (fun (k : Nat) => ((k : Int) + 1, cs[k]?.getD []))
theorem heldA_pick {G : Nat → Prop} {w : World} {vs : List (Int × Value)} {cs : List (List PE)} {ks : List Nat} (h : Held1 G w vs cs) (hk : ∀ k ∈ ks, k < cs.length) : HeldA G w (pickL vs ks) (mkA cs ks) := by
  refine ⟨by simp [pickL, mkA], fun i x hi => ?_⟩
  have hlt : i < ks.length := by have := (List.getElem?_eq_some_iff.1 hi).1; simpa [mkA] using this
  rw [cG_pickL hlt]
  have hx : x = ((ks[i] : Int) + 1, cs[ks[i]]?.getD []) := by
    unfold mkA at hi
    rw [List.getElem?_map, List.getElem?_eq_getElem hlt] at hi
    exact (Option.some.inj hi).symm
  rw [hx]
  exact h.2 _ (hk _ (List.getElem_mem hlt))
theorem chSm_pick {S : ByteArray} {cs : List (List PE)} {ks : List Nat} (hF : Fits S cs) (hn : cs.length ≤ 16) (hk : ∀ k ∈ ks, k < cs.length) : ChSm (mkA cs ks) := by
  intro x hx
  obtain ⟨k, h1, rfl⟩ := List.mem_map.1 hx
  have h2 := hk k h1
  have h3 := hF.mem h2
  have h4 : cs[k]?.getD [] = cs[k] := by rw [List.getElem?_eq_getElem h2]; rfl
  exact ⟨⟨by show 1 ≤ (k : Int) + 1; omega, by show (k : Int) + 1 ≤ 100; omega⟩, by show (cs[k]?.getD []).length ≤ 5; rw [h4]; exact h3.1, by show ∀ q ∈ cs[k]?.getD [], _; rw [h4]; exact h3.2⟩
theorem vs_cells2 {B : Nat} {W : World} {a : Option Addr} {cap : Nat} {vs : List (Int × Value)} (h : VS B W a cap vs) {i : Nat} (hi : i < vs.length) {x : Int} {u : Value} (hx : cG vs i = (x, u)) : ∃ b off, a = some ⟨b, off, none⟩ ∧ W.cell? ⟨b, off + i * 2, none⟩ = some (.int .i64 x) ∧ W.cell? ⟨b, off + i * 2 + 1, none⟩ = some u := by
  obtain ⟨b, off, h1, h2, h3⟩ := h.cells.resolve_left (by omega)
  have := h3 i hi
  rw [hx] at this
  exact ⟨b, off, h1, this.1, this.2⟩
theorem es_keep {A W : World} {a : Option Addr} {cap : Nat} {xs : List Er} {G : Nat → Prop} (h : ES A.heap.size A a cap xs) (hz : A.heap.size ≤ W.heap.size) (hG : ∀ b, blkOf a b → G b) (hk : ∀ b, G b → b < A.heap.size → W.heap[b]? = A.heap[b]?) : ES W.heap.size W a cap xs := by
  obtain ⟨a', c', e, hE⟩ := ((EsG.of (G := G) h (fun _ b hb => hG b hb)).keep (G' := G) hz hk (fun _ h => h)).es
  simp only [Value.slice.injEq] at e
  obtain ⟨rfl, -, rfl⟩ := e
  exact hE

theorem sli_keep {k : IntKind} {w w' : World} {a : Option Addr} {c : Nat} {L : List Int} (h : Sli k w a c L) (hz : w.heap.size ≤ w'.heap.size) (hb : ∀ b, blkOf a b → b < w.heap.size → w'.heap[b]? = w.heap[b]?) : Sli k w' a c L := by
  refine ⟨h.le, h.mx, h.nil, ?_⟩
  rcases h.cells with h0 | ⟨b, off, h1, h2, h3⟩
  · exact .inl h0
  · exact .inr ⟨b, off, h1, by omega, fun j hj => (World.cell?_of_block (w := w) (a := ⟨b, off + j, none⟩) (hb b ⟨off, h1⟩ h2)).trans (h3 j hj)⟩

set_option maxRecDepth 100000 in
set_option maxHeartbeats 8000000 in
theorem walkDRef (a0 : Option Addr) (cap0 : Nat) (ls : List Int) (a1 : Option Addr) (cap1 : Nat) (ns : List Int) (at_ how pl pu : Int) (a5 : Option Addr) (cap5 : Nat) (es : List Er) (w : World)
    (h0 : Sli .i64 w a0 cap0 ls) (hi0 : ∀ n ∈ ls, -9223372036854775808 ≤ n ∧ n ≤ 9223372036854775807) (h1 : Sli .i64 w a1 cap1 ns) (hi1 : ∀ n ∈ ns, -9223372036854775808 ≤ n ∧ n ≤ 9223372036854775807) (h2 : I64n at_) (h3 : I64n how) (h4 : I64n pl) (h5 : I64n pu) (hE : ES w.heap.size w a5 cap5 es) (hbig : ∀ e ∈ es, e.Big) :
    Calls Tryz.prog 4 #[.slice a0 ls.length cap0, .slice a1 ns.length cap1, .int .i64 at_, .int .i64 how, .agg #[.int .i64 pl, .int .i64 pu], .slice a5 es.length cap5] w fun e w' => e = .returned (.bool true) ∧ Below w.heap.size w w' := by
  obtain ⟨W0, hW0⟩ : ∃ W, w.alloc (.cells #[.int .i64 pl, .int .i64 pu] 24) = W := ⟨_, rfl⟩
  have b0 : Below w.heap.size w W0 := by rw [← hW0]; exact (Below.refl _ _).alloc (Nat.le_refl _) _
  have k0 : Blk W0 w.heap.size 24 #[.int .i64 pl, .int .i64 pu] := by rw [← hW0]; exact Blk.new _ _ _
  obtain ⟨B0, hB0⟩ : ∃ b, w.heap.size = b := ⟨_, rfl⟩
  have HPP : Hid (∀ W, Below W0.heap.size W0 W → W.cell? ⟨B0, 0, none⟩ = some (.int .i64 pl) ∧ W.cell? ⟨B0, 1, none⟩ = some (.int .i64 pu)) := fun W hW => by
    have hk := k0.same (hW.block _ k0.lt)
    have c0 := hk.cell 0
    have c1 := hk.cell 1
    simp only [List.getElem?_toArray, List.getElem?_cons_zero, List.getElem?_cons_succ] at c0 c1
    rw [hB0] at c0 c1
    exact ⟨c0, c1⟩
  have cC := chain_any a0 cap0 ls 6 W0 (h0.below b0) hi0 (by omega)
  obtain ⟨n0, hn0⟩ : ∃ n, ls.length = n := ⟨_, rfl⟩
  obtain ⟨n1, hn1⟩ : ∃ n, ns.length = n := ⟨_, rfl⟩
  obtain ⟨n5, hn5⟩ : ∃ n, es.length = n := ⟨_, rfl⟩
  have hsl : SlI W0.heap.size W0 a1 n1 := by have := SlI.of (h1.below b0) hi1; rwa [hn1] at this
  have hc1 : n1 ≤ cap1 := by have := h1.le; omega
  have hm1 := h1.mx
  have HE0 := Lib.hid (hE.on b0); have HBG := Lib.hid hbig; have HN5 := Lib.hid hn5
  rw [hn0] at cC ⊢
  rw [hn1, hn5]
  have CC := Lib.hid cC; have HSL := Lib.hid hsl; have HW0 := Lib.hid hW0; have HB0 := Lib.hid b0; have HBB := Lib.hid hB0
  clear cC h0 hi0 h1 hi1 hsl hn0 hn1 hn5 hE hbig hW0 b0 k0
  go_enter Tryz.func4, Tryz.ntmps4
  go_wp2_with fail
  rw [show w.alloc (.cells #[.int .i64 pl, .int .i64 pu] 24) = W0 from HW0.out]
  refine CC.out.mono ?_
  rintro e w1 ⟨S, cs, vs, v, rfl, hSz, _, hcl, hF, hown, hV, hb1⟩
  obtain ⟨n, hn⟩ : ∃ n, cs.length = n := ⟨_, rfl⟩
  have hvn : vs.length = n := by rw [hV.1, hn]
  obtain ⟨_, ac, cc, rfl, hVS, _, _⟩ := vs_of_own hown
  rw [hvn]
  rw [hn] at hcl
  have HV1 := Lib.hid hV; have HVS := Lib.hid hVS
  have H1 := Lib.hid hb1; have HF := Lib.hid hF; have HN := Lib.hid hn; have HVN := Lib.hid hvn
  have hE0 : newE S 0 = 0 := by unfold newE; rw [if_neg (by omega), if_neg (by omega)]
  have HNW : Hid (∀ W, Calls Tryz.prog 7 #[.string S, .int .i64 0] W fun e w' => ∃ p, e = .returned (.tuple #[.pointer (some ⟨p, 0, none⟩), .int .i64 0]) ∧ DocI (newB W w') (fun _ => False) w' p (newS S 0) ∧ Below W.heap.size W w') := fun W => (new_any S 0 W).mono (by
    rintro e w' hw
    rcases hw with ⟨h, _⟩ | ⟨_, p, h1, h2, h3⟩
    · exact absurd hE0 h
    · exact ⟨p, by rw [h1], h2, h3⟩)
  clear hVS hV hown hb1 hF hn hvn hE0 CC
  go_wp2_with fail
  refine (HNW.out w1).mono ?_
  rintro e w2 ⟨pd, rfl, hd, b2⟩
  have HD2 := Lib.hid hd
  have HB2 : Hid (Below w1.heap.size w1 w2) := b2
  have HB02 : Hid (Below W0.heap.size W0 w2) := H1.out.trans (b2.mono H1.out.size)
  have CS := fun W (hW : Below w2.heap.size w2 W) => shuffled_any ac cc vs a1 n1 cap1 W ((HVS.out.on HB2.out).on hW) (by rw [HVN.out]; omega) HV1.out.ok ((HSL.out.on HB02.out).on hW) hc1 hm1
  simp only [HVN.out] at CS
  have HCS := Lib.hid CS
  have HSPO : Hid (∀ w3 v9 ks, Below w2.heap.size w2 w3 → Arr n ks → ks.length ≤ n + 3 → w3.ownsRow w2.heap.size 47 2 v9 ks.length (cv (pickL vs ks)) → ∃ a9 N9 c9, v9 = .slice a9 N9 c9 ∧ w3.cell? ⟨B0, 0, none⟩ = some (.int .i64 pl) ∧ w3.cell? ⟨B0, 1, none⟩ = some (.int .i64 pu) ∧ Hid (Calls Tryz.prog 9 #[.slice a9 N9 c9, .int .i64 at_, .int .i64 how, .agg #[.int .i64 pl, .int .i64 pu]] w3 fun e w' => ∃ a' c' vs' As' NA, e = .returned (.slice a' NA c') ∧ As'.length = NA ∧ VS w'.heap.size w' a' c' vs' ∧ (∀ b, blkOf a' b → w3.heap.size ≤ b) ∧ HeldA (fun b => b < w1.heap.size ∨ w3.heap.size ≤ b) w' vs' As' ∧ ChOk As' ∧ NA ≤ 21 ∧ Below w3.heap.size w3 w')) := fun w3 v9 ks hb3 hA hkl hown9 => by
    obtain ⟨hl9, a9, c9, rfl, hV9, _, _⟩ := vs_of_own hown9
    have hpl : (pickL vs ks).length = ks.length := pickL_len _ _
    have hks : ∀ k ∈ ks, k < cs.length := fun k hk => by rw [HN.out]; exact hA.lt k hk
    have hH1 : Held1 (fun b => b < w1.heap.size) w1 vs cs := HV1.out.keep (Nat.le_refl _) (fun _ _ _ => rfl) (fun b _ hlt => hlt)
    have b13 : Below w1.heap.size w1 w3 := HB2.out.trans (hb3.mono HB2.out.size)
    have hH3 : Held1 (fun b => b < w1.heap.size) w3 vs cs := hH1.keep b13.size (fun b hb _ => b13.block b hb) (fun b hb _ => hb)
    have hsp := spoilt_any a9 c9 (pickL vs ks) (mkA cs ks) at_ how pl pu w3 hV9 (fun b => b < w1.heap.size) (heldA_pick hH3 hks) (by rw [hpl]; omega) (chSm_pick HF.out (by have := HN.out; omega) hks) h2 h3 h4 h5
    obtain ⟨q0, q1⟩ := HPP.out w3 (HB02.out.trans (hb3.mono HB02.out.size))
    refine ⟨a9, (pickL vs ks).length, c9, rfl, q0, q1, ?_⟩
    exact hsp.mono (fun e w' ⟨a', c', vs', As', g1, g2, g3, g4, g5, g6, g7⟩ => ⟨a', c', vs', As', As'.length, g1, rfl, g2, g3, g4, g5, g6, g7⟩)
  obtain ⟨p0, p1⟩ := HPP.out w2.drew HB02.out.drew
  clear hd b2 HNW CS
  go_wp2_with fail
  go_region_with (first
    | (go_at_call 10; refine (HCS.out _ (Below.refl _ w2).drew).mono ?_; rintro e w3 ⟨v9, ks, rfl, hA, hkl, hown9, hb3⟩; have HB3 : Below w2.heap.size w2 w3 := (Below.refl _ w2).drew.trans hb3; obtain ⟨a9, N9, c9, rfl, q0, q1, HSP⟩ := HSPO.out w3 _ ks HB3 hA hkl hown9; clear hA hkl hown9 hb3)
    | (go_at_call 9; refine HSP.out.mono ?_; rintro e w4 ⟨a', c', vs', As', NA, rfl, hNA, hV4, hblk4, hA4, hok4, hna, hb4⟩))
  all_goals
    have HB4 : Hid (Below w2.heap.size w2 w4) := HB3.trans (hb4.mono HB3.size)
    have HZ34 : Hid (w2.heap.size ≤ w3.heap.size ∧ w3.heap.size ≤ w4.heap.size) := ⟨HB3.size, hb4.size⟩
    have HNA := Lib.hid hNA; have HV4 := Lib.hid hV4; have HBK4 := Lib.hid hblk4; have HA4 := Lib.hid hA4; have HOK4 := Lib.hid hok4
    have HD4 : Hid (DocI (newB w1 w2) (fun _ => False) w4 pd (newS S 0)) := HD2.out.below HB4.out
    have CF := few_any a5 cap5 3 es w4 (by omega) HBG.out ((HE0.out.on HB02.out).on HB4.out)
    rw [HN5.out] at CF
    have HCF := Lib.hid CF
    clear hNA hV4 hblk4 hA4 hok4 hb4 HB3 HSP CF q0 q1 p0 p1
    go_wp2_with fail
    refine HCF.out.mono ?_
    rintro e w5 ⟨v5, rfl, hown5, hb5⟩
    obtain ⟨xs, hxs⟩ : ∃ x, fewE es 3 = x := ⟨_, rfl⟩
    have hfx := fewE_fit (m := 3) HBG.out
    have hxl := fewE_len es 3
    rw [hxs] at hown5 hfx hxl
    obtain ⟨_, ax, cx, rfl, hX5, hbx⟩ := es_of_own2 hown5
    obtain ⟨nx, hnx⟩ : ∃ n, xs.length = n := ⟨_, rfl⟩
    rw [hnx]
    have hnx3 : nx ≤ 3 := by omega
    have HB5 := Lib.hid hb5
    have HFX : Hid (∀ e ∈ xs, e.Fit) := fun e he => (hfx e he).1
    have HNX := Lib.hid hnx
    have HD5 : Hid (DocI (newB w1 w2) (fun _ => False) w5 pd (newS S 0)) := HD4.out.below hb5
    have HKP : Hid (∀ W, Only (newB w1 w2) w5 W → VS w4.heap.size W a' c' vs' ∧ HeldA (fun _ => True) W vs' As' ∧ ES W.heap.size W ax cx xs) := fun W hW => by
      have z12 := HB2.out.size
      have z34 := HZ34.out
      have z45 := HB5.out.size
      have hk : ∀ b, b < w4.heap.size → (b < w1.heap.size ∨ w2.heap.size ≤ b) → W.heap[b]? = w4.heap[b]? := fun b hb ho => (hW.block b (by omega) (fun h => by have := h.1; have := h.2; omega)).trans (HB5.out.block b hb)
      refine ⟨HV4.out.keep (fun b hb hlt => hk b hlt (.inr (by have := HBK4.out b hb; omega))), HA4.out.keep (by have := hW.size; omega) (fun b hb hlt => hk b hlt (hb.elim .inl (fun h => .inr (by omega)))) (fun _ _ => trivial), ?_⟩
      exact es_keep (G := fun b => w4.heap.size ≤ b) hX5 hW.size (fun b hb => hbx b hb) (fun b hb hlt => hW.block b hlt (fun h => by have := h.2; omega))
    have HW5 : Hid (Below w.heap.size w w5) := HB0.out.trans (((HB02.out.trans (HB4.out.mono HB02.out.size)).trans (hb5.mono (HB02.out.trans (HB4.out.mono HB02.out.size)).size)).mono HB0.out.size)
    have HZ5 : Hid (w.heap.size ≤ w1.heap.size ∧ w1.heap.size ≤ w5.heap.size) := ⟨by have := HB0.out.size; have := H1.out.size; omega, by have := HB2.out.size; have := HZ34.out; have := hb5.size; omega⟩
    clear hown5 hb5 hxs hfx hxl hX5 hbx hnx HCF
    go_wp2_with fail
    go_loopw [19] (fun q wr => ∃ (i : Nat) (s : DS) (T G : Nat → Prop), q = .int .i64 (i : Int) ∧ i ≤ NA ∧ Hid (DocI T G wr pd s) ∧ Hid (Only (newB w1 w2) w5 wr) ∧ Hid (∀ b, T b → newB w1 w2 b ∨ w5.heap.size ≤ b)) (fun q _ => NA - (intOf q).toNat)
    case atStart => exact ⟨0, newS S 0, _, _, rfl, by omega, HD5, Lib.hid (Only.refl _ _), Lib.hid (fun b h => .inl h)⟩
    case round =>
      obtain ⟨i, s, T, G, rfl, hi, HD, HO, HT⟩ := hrel
      by_cases hin : i < NA
      · have hin2 : (i : Int) < (NA : Int) := by omega
        have m1 : IntKind.i64.wrap ((i : Int) + 1) = (i : Int) + 1 := by simp [IntKind.wrap, IntKind.signed, IntKind.bits]; omega
        obtain ⟨t1, ht1⟩ : ∃ t, s.text = t := ⟨_, rfl⟩
        obtain ⟨sv, hsv⟩ : ∃ t, s.v = t := ⟨_, rfl⟩
        obtain ⟨L, hL⟩ : ∃ l, heldL s = l := ⟨_, rfl⟩
        obtain ⟨nh, hnh⟩ : ∃ l, s.hs.length = l := ⟨_, rfl⟩
        have hLn : L.length = nh := by rw [← hL, heldL_len, hnh]
        have hnh16 : nh ≤ 16 := by rw [← hnh]; exact HD.out.ok.hlen
        have hsv0 : 0 ≤ sv := by rw [← hsv]; exact HD.out.ok.v0
        have hsv1 : sv ≤ 1099511627776 := by rw [← hsv]; exact HD.out.ok.v1
        have HTXT : Hid (∀ (T G : Nat → Prop) W, DocI T G W pd s → Calls Tryz.prog 13 #[.pointer (some ⟨pd, 0, none⟩)] W fun e w' => e = .returned (.string t1) ∧ Below W.heap.size W w') := fun T G W h => by
          have := text_any T G pd s W h
          rwa [ht1] at this
        have HVER : Hid (∀ (T G : Nat → Prop) W, DocI T G W pd s → Calls Tryz.prog 20 #[.pointer (some ⟨pd, 0, none⟩)] W fun e w' => e = .returned (.int .i64 sv) ∧ W = w') := fun T G W h => by
          have := version_any T G pd s W h
          rwa [hsv] at this
        have HHLD : Hid (∀ (T G : Nat → Prop) W, DocI T G W pd s → Calls Tryz.prog 21 #[.pointer (some ⟨pd, 0, none⟩)] W fun e w' => ∃ a c, e = .returned (.slice a nh c) ∧ Sli .i64 w' a c L ∧ (∀ b, blkOf a b → W.heap.size ≤ b) ∧ Below W.heap.size W w') := fun T G W h => by
          have := held_all T G pd s W h
          rw [hnh, hL] at this
          refine this.mono ?_
          rintro e w' ⟨a, c, rfl, hrow, hb⟩
          obtain ⟨_, a', c', hv, hs⟩ := sli_of_own (k := .i64) (zs := L) hrow
          rw [hLn] at hv
          simp only [Value.slice.injEq] at hv
          obtain ⟨rfl, -, rfl⟩ := hv
          exact ⟨a, c, rfl, hs, fun b hb' => by obtain ⟨off, rfl⟩ := hb'; exact (hrow.lt b rfl).1, hb⟩
        have HSI : Hid (∀ W a c a' c', Sli .i64 W a c L → Sli .i64 W a' c' L → Calls Tryz.prog 24 #[.slice a nh c, .slice a' nh c'] W fun e w' => e = .returned (.bool true) ∧ Below W.heap.size W w') := fun W a c a' c' h h' => by
          have := sameInts_any a a' c c' L L W h h' (by omega) (by omega)
          rwa [hLn, show decide (L = L) = true by simp] at this
        have HSV := Lib.hid hsv
        clear ht1 hL hnh hLn hsv
        go_wp2_with fail
        refine (HTXT.out T G wr HD.out).mono ?_
        rintro e w6 ⟨rfl, b6⟩
        have HD6 : Hid (DocI T G w6 pd s) := HD.out.below b6
        have HO6 : Hid (Only (newB w1 w2) w5 w6) := HO.out.trans (Only.of_below b6)
        clear b6
        go_wp2_with fail
        refine (HVER.out T G w6 HD6.out).mono ?_
        rintro e w7 ⟨rfl, rfl⟩
        go_wp2_with fail
        refine (HHLD.out T G w6 HD6.out).mono ?_
        rintro e w8 ⟨ah, ch, rfl, hsl8, hbk8, b8⟩
        have HD8 : Hid (DocI T G w8 pd s) := HD6.out.below b8
        have HO8 : Hid (Only (newB w1 w2) w5 w8) := HO6.out.trans (Only.of_below b8)
        obtain ⟨hvs, hha, _⟩ := HKP.out w8 HO8.out
        have hal : i < As'.length := by rw [HNA.out]; exact hin
        obtain ⟨cv0, ps, hAs⟩ : ∃ c p, As'[i]? = some (c, p) := ⟨_, _, List.getElem?_eq_getElem hal⟩
        obtain ⟨hcv, hpsG⟩ := hha.2 i _ hAs
        obtain ⟨ap, cp, hev, hps⟩ := hpsG.ps
        obtain ⟨⟨z1, z2⟩, z3, z4⟩ := HOK4.out _ (List.mem_of_getElem? hAs)
        obtain ⟨b, off, rfl, q1, q2⟩ := vs_cells2 hvs (i := i) (by rw [hha.1]; exact hal) (x := cv0) (u := .slice ap ps.length cp) (Prod.ext hcv hev)
        obtain ⟨r1, r2, s2, hr, hcase⟩ := rcv_cases s cv0 ps
        have CR := receive_any T G pd s w8 HD8.out cv0 z1 z2 ap cp ps hps (by simp only at z3; omega) z4
        rw [hr] at CR
        have HCR := Lib.hid CR
        obtain ⟨np, hnp⟩ : ∃ x, ps.length = x := ⟨_, rfl⟩
        rw [hnp] at q2 HCR
        have HSL8 := Lib.hid (And.intro hsl8 (And.intro hbk8 b8))
        clear hvs hha hal hAs hcv hpsG hev hps z1 z2 z3 z4 hr CR hnp hsl8 hbk8 b8
        go_wp2_with fail
        refine HCR.out.mono ?_
        rintro e w9 ⟨rfl, T2, G2, hd, hs⟩
        have HD9 : Hid (DocI T2 G2 w9 pd s2) := hd
        have HO9 : Hid (Only (newB w1 w2) w5 w9) := HO8.out.step hs HT.out
        have hzw := HO8.out.size
        have HT9 : Hid (∀ b, T2 b → newB w1 w2 b ∨ w5.heap.size ≤ b) := fun b hb => by
          rcases hs.t b hb with h | h
          · exact HT.out b h
          · exact .inr (by omega)
        have HSL9 : Hid (Sli .i64 w9 ah ch L) := sli_keep HSL8.out.1 hs.only.size (fun b hb hlt => hs.only.block b hlt (fun hT => by
          have h1 := HD6.out.lt b hT
          have h2 := HSL8.out.2.1 b hb
          omega))
        clear hd hs hzw HCR q1 q2 HD8 HO8
        have HFIN : Hid (∀ T3 G3 W s3, DocI T3 G3 W pd s3 → Only (newB w1 w2) w5 W → (∀ b, T3 b → newB w1 w2 b ∨ w5.heap.size ≤ b) → ∃ (j : Nat) (s' : DS) (T' G' : Nat → Prop), Value.int .i64 ((i : Int) + 1) = .int .i64 (j : Int) ∧ j ≤ NA ∧ Hid (DocI T' G' W pd s') ∧ Hid (Only (newB w1 w2) w5 W) ∧ Hid (∀ b, T' b → newB w1 w2 b ∨ w5.heap.size ≤ b)) := fun T3 G3 W s3 h1 h2 h3 => ⟨i + 1, s3, T3, G3, by go_num, by omega, h1, h2, h3⟩
        have qtt : (t1.toList != t1.toList) = false := by simp
        have qvv : (sv != sv) = false := by simp
        rcases hcase with ⟨hr2, rfl, hss⟩ | ⟨rfl, hr1, hss⟩
        case' inl =>
          have qA : (r2 != 0) = true := by simp [hr2]
          have qB : (r2 == 0) = false := by simp [hr2]
          have HDs : Hid (DocI T2 G2 w9 pd s) := by rw [← hss]; exact HD9.out
          have HSS := Lib.hid hss
          clear hr2 hss
          go_wp2_with fail
          refine (HTXT.out T2 G2 w9 HDs.out).mono ?_
          rintro e w10 ⟨rfl, b10⟩
          have HD10 : Hid (DocI T2 G2 w10 pd s) := HDs.out.below b10
          have HO10 : Hid (Only (newB w1 w2) w5 w10) := HO9.out.trans (Only.of_below b10)
          have HSL10 : Hid (Sli .i64 w10 ah ch L) := Sli.below HSL9.out b10
          clear b10
          go_wp2_with fail
          refine (HVER.out T2 G2 w10 HD10.out).mono ?_
          rintro e w11 ⟨rfl, rfl⟩
          go_wp2_with fail
          refine (HHLD.out T2 G2 w10 HD10.out).mono ?_
          rintro e w11 ⟨a11, c11, rfl, hsl11, _, b11⟩
          have HD11 : Hid (DocI T2 G2 w11 pd s) := HD10.out.below b11
          have HO11 : Hid (Only (newB w1 w2) w5 w11) := HO10.out.trans (Only.of_below b11)
          have HSI11 := Lib.hid (HSI.out w11 a11 c11 ah ch hsl11 (Sli.below HSL10.out b11))
          clear hsl11 b11
          go_wp2_with fail
          refine HSI11.out.mono ?_
          rintro e wz ⟨rfl, bz⟩
          have HDz : Hid (DocI T2 G2 wz pd s2) := by rw [HSS.out]; exact HD11.out.below bz
          have HOz : Hid (Only (newB w1 w2) w5 wz) := HO11.out.trans (Only.of_below bz)
          clear bz
        case' inr =>
          have CV := version_any T2 G2 pd s2 w9 HD9.out
          rw [hss, HSV.out] at CV
          have HCV := Lib.hid CV
          have hb2 := HD9.out.ok.v1
          rw [hss, HSV.out] at hb2
          have m2 : IntKind.i64.wrap (sv + r1) = sv + r1 := by simp [IntKind.wrap, IntKind.signed, IntKind.bits]; omega
          have qn : (sv + r1 != sv + r1) = false := by simp
          clear CV hss
          go_wp2_with fail
          refine HCV.out.mono ?_
          rintro e wz ⟨rfl, hz⟩
          have hz' := hz.symm
          subst hz'
          have HDz : Hid (DocI T2 G2 wz pd s2) := HD9
          have HOz : Hid (Only (newB w1 w2) w5 wz) := HO9
          clear hr1
        all_goals
          obtain ⟨t2, ht2⟩ : ∃ t, s2.text = t := ⟨_, rfl⟩
          obtain ⟨v2, hv2⟩ : ∃ t, s2.v = t := ⟨_, rfl⟩
          have hv20 : 0 ≤ v2 := by rw [← hv2]; exact HDz.out.ok.v0
          have hv21 : v2 ≤ 1099511627776 := by rw [← hv2]; exact HDz.out.ok.v1
          have ht2z : t2.size ≤ 4096 := by rw [← ht2]; exact HDz.out.tsize
          have m3 : IntKind.i64.wrap (v2 + 1) = v2 + 1 := by simp [IntKind.wrap, IntKind.signed, IntKind.bits]; omega
          have HTX2 : Hid (∀ W, DocI T2 G2 W pd s2 → Calls Tryz.prog 13 #[.pointer (some ⟨pd, 0, none⟩)] W fun e w' => e = .returned (.string t2) ∧ Below W.heap.size W w') := fun W h => by
            have := text_any T2 G2 pd s2 W h
            rwa [ht2] at this
          have HVE2 : Hid (∀ W, DocI T2 G2 W pd s2 → Calls Tryz.prog 20 #[.pointer (some ⟨pd, 0, none⟩)] W fun e w' => e = .returned (.int .i64 v2) ∧ W = w') := fun W h => by
            have := version_any T2 G2 pd s2 W h
            rwa [hv2] at this
          have HT2' := Lib.hid ht2; have HV2' := Lib.hid hv2
          clear ht2 hv2
          go_wp2_with fail
          refine (HTX2.out wz HDz.out).mono ?_
          rintro e w14 ⟨rfl, b14⟩
          have HD14 : Hid (DocI T2 G2 w14 pd s2) := HDz.out.below b14
          have HO14 : Hid (Only (newB w1 w2) w5 w14) := HOz.out.trans (Only.of_below b14)
          clear b14
          go_wp2_with fail
          refine (HVE2.out w14 HD14.out).mono ?_
          rintro e w15 ⟨rfl, rfl⟩
          have CE := edit_any T2 G2 pd s2 w14 HD14.out ax cx xs (HKP.out w14 HO14.out).2.2 (by have := HNX.out; omega) HFX.out
          obtain ⟨E, hE⟩ : ∃ e, edtE s2 xs = e := ⟨_, rfl⟩
          rw [HNX.out, HV2'.out] at CE
          simp only [hE] at CE
          have HCE := Lib.hid CE
          have HEE := Lib.hid hE
          obtain ⟨R, hR⟩ : ∃ r, apS t2 xs = r := ⟨_, rfl⟩
          obtain ⟨V, hV⟩ : ∃ r, vErr (t2.size : Int) xs = r := ⟨_, rfl⟩
          have HAP : Hid (∀ W, Only (newB w1 w2) w5 W → Calls Tryz.prog 25 #[.string t2, .slice ax nx cx] W fun e w' => e = .returned (.tuple #[.string R, .int .i64 V]) ∧ Below W.heap.size W w') := fun W hW => by
            have := papply_any t2 ax cx xs W (by omega) (by have := HNX.out; omega) HFX.out (HKP.out W hW).2.2
            rwa [HNX.out, hR, hV] at this
          have HRR := Lib.hid hR; have HVV := Lib.hid hV
          have qt2 : (t2.toList != t2.toList) = false := by simp
          have qR : (R.toList != R.toList) = false := by simp
          have qv2 : (v2 != v2) = false := by simp
          have qv3 : (v2 + 1 != v2 + 1) = false := by simp
          clear CE hE hR hV
          go_wp2_with fail
          refine HCE.out.mono ?_
          rintro e w15 hw
          rcases hw with ⟨hE0, rfl, b15⟩ | ⟨hE0, rfl, T3, G3, hd3, hs3⟩
          · have qE : (E != 0) = true := by simp [hE0]
            have qE2 : (E == 0) = false := by simp [hE0]
            have HD15 : Hid (DocI T2 G2 w15 pd s2) := HD14.out.below b15
            have HO15 : Hid (Only (newB w1 w2) w5 w15) := HO14.out.trans (Only.of_below b15)
            clear b15 hE0 HCE
            go_wp2_with fail
            refine (HAP.out w15 HO15.out).mono ?_
            rintro e w16 ⟨rfl, b16⟩
            have HD16 : Hid (DocI T2 G2 w16 pd s2) := HD15.out.below b16
            have HO16 : Hid (Only (newB w1 w2) w5 w16) := HO15.out.trans (Only.of_below b16)
            clear b16
            go_wp2_with fail
            refine (HTX2.out w16 HD16.out).mono ?_
            rintro e w17 ⟨rfl, b17⟩
            have HD17 : Hid (DocI T2 G2 w17 pd s2) := HD16.out.below b17
            have HO17 : Hid (Only (newB w1 w2) w5 w17) := HO16.out.trans (Only.of_below b17)
            clear b17
            go_wp2_with fail
            refine (HVE2.out w17 HD17.out).mono ?_
            rintro e w18 ⟨rfl, rfl⟩
            go_wp2
            go_roundw
            case rel => exact HFIN.out T2 G2 w17 s2 HD17.out HO17.out HT9.out
            case measure => simp [intOf]; omega
          · have hzw := HO14.out.size
            have HD15 : Hid (DocI T3 G3 w15 pd (advS s2 xs)) := hd3
            have HO15 : Hid (Only (newB w1 w2) w5 w15) := HO14.out.step hs3 HT9.out
            have HT15 : Hid (∀ b, T3 b → newB w1 w2 b ∨ w5.heap.size ≤ b) := fun b hb => by
              rcases hs3.t b hb with h | h
              · exact HT9.out b h
              · exact .inr (by omega)
            have hV0 : V = 0 := by rw [← HVV.out, ← HT2'.out]; exact edt_zero (HEE.out.trans hE0)
            have HTX3 : Hid (∀ W, DocI T3 G3 W pd (advS s2 xs) → Calls Tryz.prog 13 #[.pointer (some ⟨pd, 0, none⟩)] W fun e w' => e = .returned (.string R) ∧ Below W.heap.size W w') := fun W h => by
              have := text_any T3 G3 pd _ W h
              rwa [advS_text, HT2'.out, HRR.out] at this
            have HVE3 : Hid (∀ W, DocI T3 G3 W pd (advS s2 xs) → Calls Tryz.prog 20 #[.pointer (some ⟨pd, 0, none⟩)] W fun e w' => e = .returned (.int .i64 (v2 + 1)) ∧ W = w') := fun W h => by
              have := version_any T3 G3 pd _ W h
              rwa [show (advS s2 xs).v = s2.v + 1 from rfl, HV2'.out] at this
            subst hV0
            clear hd3 hs3 hzw HCE hE0
            go_wp2_with fail
            refine (HAP.out w15 HO15.out).mono ?_
            rintro e w16 ⟨rfl, b16⟩
            have HD16 : Hid (DocI T3 G3 w16 pd (advS s2 xs)) := HD15.out.below b16
            have HO16 : Hid (Only (newB w1 w2) w5 w16) := HO15.out.trans (Only.of_below b16)
            clear b16
            go_wp2_with fail
            refine (HTX3.out w16 HD16.out).mono ?_
            rintro e w17 ⟨rfl, b17⟩
            have HD17 : Hid (DocI T3 G3 w17 pd (advS s2 xs)) := HD16.out.below b17
            have HO17 : Hid (Only (newB w1 w2) w5 w17) := HO16.out.trans (Only.of_below b17)
            clear b17
            go_wp2_with fail
            refine (HVE3.out w17 HD17.out).mono ?_
            rintro e w18 ⟨rfl, rfl⟩
            go_wp2
            go_roundw
            case rel => exact HFIN.out T3 G3 w17 _ HD17.out HO17.out HT15.out
            case measure => simp [intOf]; omega
      · have hin2 : ¬ ((i : Int) < (NA : Int)) := by omega
        go_wp2_with fail
        refine (lives_any _).mono ?_
        rintro e w6 ⟨rfl, b6⟩
        have HB6 : Hid (Below w.heap.size w w6) := by
          have h1 : Below w.heap.size w5 wr := HO.out.below (by have := HZ5.out; omega) (fun b hb => by have := hb.1; have := HZ5.out; omega)
          have h2 := HW5.out.trans h1
          exact h2.trans (b6.mono h2.size)
        clear b6
        go_wp2
        go_ret
        exact ⟨rfl, HB6.out⟩

end Go.Proofs.YtkehgoailhpenaaGreat
