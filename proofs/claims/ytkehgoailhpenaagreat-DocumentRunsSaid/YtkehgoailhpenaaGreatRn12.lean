/- Texts of one claim, put together: DSf, DFw, RDj. Each part says what it proves and under which conditions. -/
import Derived.Test.YtkehgoailhpenaaGreatRn11
import Derived.Deep.RegionHeld3

/- The contract of Shuffled. Conditions: at most 16 changes. -/
namespace Go.Proofs.YtkehgoailhpenaaGreat
open Go.RowKit Go.Shelf Go.Maps
set_option linter.unusedVariables false

set_option maxRecDepth 100000 in
set_option maxHeartbeats 8000000 in
theorem shuffled_any (a : Option Addr) (cap : Nat) (vs : List (Int × Value)) (al : Option Addr) (nl cl : Nat) (w : World) (hV : VS w.heap.size w a cap vs) (hn : vs.length ≤ 16) (hok : VOk vs) (hL : SlI w.heap.size w al nl) (hcl : nl ≤ cl) (hcl2 : cl ≤ 9223372036854775807) :
    Calls Tryz.prog 10 #[.slice a vs.length cap, .slice al nl cl] w fun e w' => ∃ v ks, e = .returned v ∧ Arr vs.length ks ∧ ks.length ≤ vs.length + 3 ∧ w'.ownsRow w.heap.size 47 2 v ks.length (cv (pickL vs ks)) ∧ Below w.heap.size w w' := by
  obtain ⟨i5, hi5, jy0, jy1, jy2⟩ := info_parts infoCh
  have hvl := hV.le
  have hvm := hV.mx
  obtain ⟨n, hn'⟩ : ∃ n, vs.length = n := ⟨_, rfl⟩
  obtain ⟨lo, hlo⟩ : ∃ l, w.heap.size = l := ⟨_, rfl⟩
  have HPK : Hid (∀ (W : World) (j m : Nat), Below lo w W → j ≤ 1000 → 1 ≤ m → m ≤ 1000 → Calls Tryz.prog 35 #[.slice al nl cl, .int .i64 (j : Int), .int .i64 (m : Int)] W (Index m W)) := fun W j m hW h1 h2 h3 => by
    have hW' : Below w.heap.size w W := by rw [hlo]; exact hW
    exact pick_any w.heap.size al nl cl j m W (hL.below hW') hcl hcl2 h1 h2 (by omega)
  have hcells := hV.cells
  have hnil := hV.nil
  rw [hn'] at hn hvl hcells ⊢
  rw [hlo] at hcells ⊢
  by_cases h0 : n = 0
  · subst h0
    have hvs : vs = [] := List.eq_nil_of_length_eq_zero hn'
    have HFIN : Hid (∀ W v, W.ownsRow lo 47 2 v 0 [] → Below lo w W → ∃ v' ks, Ending.returned v = .returned v' ∧ Arr 0 ks ∧ ks.length ≤ 0 + 3 ∧ W.ownsRow lo 47 2 v' ks.length (cv (pickL vs ks)) ∧ Below lo w W) := fun W v h1 h2 => ⟨v, [], rfl, ⟨fun k h => by simp at h, fun k h => by omega⟩, by simp, h1, h2⟩
    have HLO := Lib.hid hlo
    clear hV hok hL hcl hcl2 hn' hcells hlo hvs HPK
    cases a with
    | none =>
      obtain rfl : cap = 0 := hnil rfl
      go_enter Tryz.func10, Tryz.ntmps10
      go_wp2_with (at_builtin; refine wpList_append_own_none rfl _ _ 25 rfl lo 47 i5 2 Tryz.underlying25 hi5 (.slice none 0 0) 0 [] rfl (World.ownsRow_nil _ _ _ _) rfl ?_)
      have HQ := Lib.hid (HFIN.out w (.slice none 0 0) (World.ownsRow_nil _ _ _ _) (by rw [← HLO.out]; exact Below.refl _ _))
      go_loopw [6] (fun q wr => q = .int .i64 0 ∧ wr = w) (fun _ _ => 0)
      case atStart => exact ⟨rfl, rfl⟩
      case round =>
        obtain ⟨rfl, rfl⟩ := hrel
        go_wp2_with fail
        go_loopw [5, 9] (fun o q wr2 => o = .slice none 0 0 ∧ q = .int .i64 0 ∧ wr2 = wr) (fun _ _ _ => 0)
        case atStart => exact ⟨rfl, rfl, rfl⟩
        case round =>
          obtain ⟨rfl, rfl, rfl⟩ := hrel
          go_wp2_with fail
          go_ret
          exact HQ.out
    | some ad =>
      go_enter Tryz.func10, Tryz.ntmps10
      go_wp2_with (at_builtin; refine wpList_append_own_at _ rfl _ _ 25 rfl lo 47 i5 (.agg #[.int .i64 0, .slice none 0 0]) 2 32 Tryz.underlying25 hi5 jy0 jy1 jy2 rfl (by decide) (.slice none 0 0) 0 [] rfl (World.ownsRow_nil _ _ _ _) ad 0 cap [] rfl rfl (fun j u h => by simp at h) (fun x hx => by simp at hx) (by unfold maxLen; omega) (by omega) (by rw [HLO.out]; exact Nat.le_refl _) ?_; intro v' w6 hown6 hgrow6 hn6 hat6; obtain rfl := hn6.2 ⟨rfl, rfl⟩)
      have hb6 : Below lo w w6 := by rw [← HLO.out]; exact (Below.refl _ _).grown hgrow6 (Nat.le_refl _) (fun g hg => by cases hg)
      have HQ := Lib.hid (HFIN.out w6 (.slice none 0 0) (World.ownsRow_nil _ _ _ _) hb6)
      clear hown6 hgrow6 hn6 hat6 hb6
      go_loopw [6] (fun q wr => q = .int .i64 0 ∧ wr = w6) (fun _ _ => 0)
      case atStart => exact ⟨rfl, rfl⟩
      case round =>
        obtain ⟨rfl, rfl⟩ := hrel
        go_wp2_with fail
        go_loopw [5, 9] (fun o q wr2 => o = .slice none 0 0 ∧ q = .int .i64 0 ∧ wr2 = wr) (fun _ _ _ => 0)
        case atStart => exact ⟨rfl, rfl, rfl⟩
        case round =>
          obtain ⟨rfl, rfl, rfl⟩ := hrel
          go_wp2_with fail
          go_ret
          exact HQ.out
  · obtain ⟨b, off, rfl, hb, hc⟩ := hcells.resolve_left h0
    have hnews : ∀ j u, (cv vs)[j]? = some u → w.cell? ((⟨b, off, none⟩ : Addr).add j) = some u := vscells_at (by rw [hn']; exact hc)
    have hlen2 : (cv vs).length = n * 2 := by rw [cv_len, hn']
    have HC : Hid (∀ W, Below lo w W → ∀ k, k < n → W.cell? ⟨b, off + k * 2, none⟩ = some (.int .i64 (cG vs k).1) ∧ W.cell? ⟨b, off + k * 2 + 1, none⟩ = some (cG vs k).2) := fun W hW k hk => by
      obtain ⟨q1, q2⟩ := hc k hk
      exact ⟨(hW.cell (p := ⟨b, off + k * 2, none⟩) hb).trans q1, (hW.cell (p := ⟨b, off + k * 2 + 1, none⟩) hb).trans q2⟩
    have HNW := Lib.hid hnews; have HL2 := Lib.hid hlen2; have HOK := Lib.hid hok; have HLO := Lib.hid hlo; have HN := Lib.hid hn'
    have hnpos : 0 < n := by omega
    clear hV hok hL hcl hcl2 hn' hcells hlo hc hnews hlen2 hnil h0
    go_enter Tryz.func10, Tryz.ntmps10
    go_wp2_with (at_builtin; refine wpList_append_own_at _ rfl _ _ 25 rfl lo 47 i5 (.agg #[.int .i64 0, .slice none 0 0]) 2 32 Tryz.underlying25 hi5 jy0 jy1 jy2 rfl (by decide) (.slice none 0 0) 0 [] rfl (World.ownsRow_nil _ _ _ _) ⟨b, off, none⟩ n cap (cv vs) rfl HL2.out HNW.out HOK.out.one (by unfold maxLen; omega) (by omega) (by rw [HLO.out]; exact Nat.le_refl _) ?_; intro v' w1 hown hgrow _ _)
    have hb1 : Below lo w w1 := by rw [← HLO.out]; exact (Below.refl _ _).grown hgrow (Nat.le_refl _) (fun g hg => by cases hg)
    rw [Nat.zero_add, List.nil_append] at hown
    obtain ⟨g, cp, hvv⟩ : ∃ g cp, v' = .slice (some ⟨g, 0, none⟩) n cp := by
      obtain ⟨m, hm⟩ : ∃ m, n = m + 1 := ⟨n - 1, by omega⟩
      have h1 := hown
      rw [hm] at h1
      obtain ⟨g, cp, h2⟩ := ownsRow_succ h1
      exact ⟨g, cp, by rw [h2, hm]⟩
    subst hvv
    have HO1 : Hid (w1.ownsRow lo 47 2 (.slice (some ⟨g, 0, none⟩) n cp) n (cv (pickL vs (List.range n)))) := by
      rw [← HN.out, pickL_range, HN.out]; exact hown
    have HB1 := Lib.hid hb1
    clear hown hgrow hb1
    go_loopw [6] (fun q wr => ∃ (ks : List Nat) (i : Nat), q = .int .i64 (i : Int) ∧ i ≤ n ∧ Hid (Arr n ks ∧ ks.length = n) ∧ Hid (wr.ownsRow lo 47 2 (.slice (some ⟨g, 0, none⟩) n cp) n (cv (pickL vs ks))) ∧ Hid (Below lo w wr)) (fun q _ => n - (intOf q).toNat)
    case atStart => exact ⟨List.range n, 0, rfl, by omega, Lib.hid ⟨Arr.range n, by simp⟩, HO1, HB1⟩
    case round =>
      obtain ⟨ks, i, rfl, hi, HA, HO, HR⟩ := hrel
      by_cases hlt : i < n
      · have hlt2 : (i : Int) < (n : Int) := by omega
        have m1 : IntKind.i64.wrap ((n : Int) - (i : Int)) = (n : Int) - (i : Int) := by simp [IntKind.wrap, IntKind.signed, IntKind.bits]; omega
        have HP := HPK.out wr i (n - i) HR.out (by omega) (by omega) (by omega)
        rw [show ((n - i : Nat) : Int) = (n : Int) - (i : Int) by omega] at HP
        have HP1 := Lib.hid HP
        clear HP
        go_wp2_with fail
        refine HP1.out.mono ?_
        rintro e w' ⟨r, hr, rfl, rfl⟩
        obtain ⟨k, hk⟩ : ∃ k : Nat, (i : Int) + (r : Int) = (k : Int) := ⟨i + r, by omega⟩
        have m2 : IntKind.i64.wrap (k : Int) = (k : Int) := by simp [IntKind.wrap, IntKind.signed, IntKind.bits]; omega
        have hkn : k < n := by omega
        have hkn2 : (k : Int) < (n : Int) := by omega
        have hlks : ks.length = n := HA.out.2
        obtain ⟨us, hus⟩ : ∃ us, pickL vs ks = us := ⟨_, rfl⟩
        have hul : us.length = n := by rw [← hus, pickL_len]; exact hlks
        have hown : wr.ownsRow lo 47 2 (.slice (some ⟨g, 0, none⟩) n cp) n (cv us) := by rw [← hus]; exact HO.out
        obtain ⟨x1, x2⟩ := cv_get us i (by omega)
        obtain ⟨y1, y2⟩ := cv_get us k (by omega)
        have hcl := cv_len us
        have c1 := hown.cellAt (i * 2) (by omega)
        have c2 := hown.cellAt (i * 2 + 1) (by omega)
        have c3 := hown.cellAt (k * 2) (by omega)
        have c4 := hown.cellAt (k * 2 + 1) (by omega)
        rw [x1] at c1; rw [x2] at c2; rw [y1] at c3; rw [y2] at c4
        have hok2 : VOk us := by rw [← hus]; exact pickL_ok HOK.out (by rw [HN.out]; exact HA.out.1.lt)
        obtain ⟨ai, ni, ci, ei⟩ := hok2 _ (cG_mem (vs := us) (k := i) (by omega))
        obtain ⟨ak, nk, ck, ek⟩ := hok2 _ (cG_mem (vs := us) (k := k) (by omega))
        obtain ⟨vi, hvi⟩ : ∃ x, (cG us i).1 = x := ⟨_, rfl⟩
        obtain ⟨vk, hvk⟩ : ∃ x, (cG us k).1 = x := ⟨_, rfl⟩
        rw [hvi] at c1; rw [hvk] at c3; rw [ei] at c2; rw [ek] at c4
        obtain ⟨W1, hW1⟩ : ∃ W, wr.alloc (.cells #[.int .i64 vi, .slice ai ni ci] 47) = W := ⟨_, rfl⟩
        have b1 : Below wr.heap.size wr W1 := by rw [← hW1]; exact (Below.refl _ _).alloc (Nat.le_refl _) _
        have hgl := (hown.lt g rfl).2
        have hlg := (hown.lt g rfl).1
        have hlr : lo ≤ wr.heap.size := by omega
        have kp : Blk W1 wr.heap.size 47 #[.int .i64 vi, .slice ai ni ci] := by rw [← hW1]; exact Blk.new _ _ _
        have hO1 : W1.ownsRow lo 47 2 (.slice (some ⟨g, 0, none⟩) n cp) n (cv us) := own_same hown (fun g' hg => b1.block g' (hown.lt g' hg).2)
        have d3 := hO1.cellAt (k * 2) (by omega)
        have d4 := hO1.cellAt (k * 2 + 1) (by omega)
        rw [y1, hvk] at d3; rw [y2, ek] at d4
        have f1 : W1.frozen? ⟨g, i * 2, none⟩ = false := hO1.frozenAt _
        obtain ⟨z1, e1⟩ := own_some hO1 (i * 2) (by omega)
        obtain ⟨z2, e2⟩ := own_some (hO1.stored (i * 2) (.int .i64 vk)).1 (i * 2 + 1) (by omega)
        have f2 : (W1.setCell ⟨g, i * 2, none⟩ (.int .i64 vk)).frozen? ⟨g, i * 2 + 1, none⟩ = false := ((hO1.stored (i * 2) (.int .i64 vk)).1).frozenAt _
        obtain ⟨W2, hW2⟩ : ∃ W, (W1.setCell ⟨g, i * 2, none⟩ (.int .i64 vk)).setCell ⟨g, i * 2 + 1, none⟩ (.slice ak nk ck) = W := ⟨_, rfl⟩
        have hO2 : W2.ownsRow lo 47 2 (.slice (some ⟨g, 0, none⟩) n cp) n (cv (us.set i (vk, .slice ak nk ck))) := by rw [← hW2]; exact row_put hO1 (by omega) _ _
        have b2 : Below lo wr W2 := by
          rw [← hW2]
          exact ((b1.mono hlr).setCell (p := ⟨g, i * 2, none⟩) hlg _).setCell (p := ⟨g, i * 2 + 1, none⟩) hlg _
        have kp2 : Blk W2 wr.heap.size 47 #[.int .i64 vi, .slice ai ni ci] := by
          rw [← hW2]
          exact kp.same ((Below.heap_setCell _ _ _ _ (fun e => by simp at e; omega)).trans (Below.heap_setCell _ _ _ _ (fun e => by simp at e; omega)))
        have p0 := kp2.cell 0
        have p1 := kp2.cell 1
        simp only [List.getElem?_toArray, List.getElem?_cons_zero, List.getElem?_cons_succ] at p0 p1
        have f3 : W2.frozen? ⟨g, k * 2, none⟩ = false := hO2.frozenAt _
        obtain ⟨z3, e3⟩ := own_some hO2 (k * 2) (by omega)
        obtain ⟨z4, e4⟩ := own_some (hO2.stored (k * 2) (.int .i64 vi)).1 (k * 2 + 1) (by omega)
        have f4 : (W2.setCell ⟨g, k * 2, none⟩ (.int .i64 vi)).frozen? ⟨g, k * 2 + 1, none⟩ = false := ((hO2.stored (k * 2) (.int .i64 vi)).1).frozenAt _
        obtain ⟨W3, hW3⟩ : ∃ W, (W2.setCell ⟨g, k * 2, none⟩ (.int .i64 vi)).setCell ⟨g, k * 2 + 1, none⟩ (.slice ai ni ci) = W := ⟨_, rfl⟩
        have hO3 : W3.ownsRow lo 47 2 (.slice (some ⟨g, 0, none⟩) n cp) n (cv ((us.set i (vk, .slice ak nk ck)).set k (vi, .slice ai ni ci))) := by rw [← hW3]; exact row_put hO2 (by simp; omega) _ _
        have hui : cG us i = (vi, .slice ai ni ci) := Prod.ext hvi ei
        have huk : cG us k = (vk, .slice ak nk ck) := Prod.ext hvk ek
        have hsw := pickL_swap vs (ks := ks) (i := i) (k := k) (by omega) (by omega)
        rw [hus, hui, huk] at hsw
        rw [hsw] at hO3
        have hA3 : Arr n ((ks.set i ks[k]).set k ks[i]) ∧ ((ks.set i ks[k]).set k ks[i]).length = n := ⟨HA.out.1.swap (by omega) (by omega), by simp [hlks]⟩
        obtain ⟨kz, hkz⟩ : ∃ x, (ks.set i ks[k]).set k ks[i] = x := ⟨_, rfl⟩
        rw [hkz] at hO3 hA3
        have HO3 := Lib.hid hO3; have HA3 := Lib.hid hA3
        have hb3 : Below lo wr W3 := by
          rw [← hW3]
          exact (b2.setCell (p := ⟨g, k * 2, none⟩) hlg _).setCell (p := ⟨g, k * 2 + 1, none⟩) hlg _
        have HB3 : Hid (Below lo w W3) := HR.out.trans hb3
        clear x1 x2 y1 y2 hO1 hO2 hO3 kp kp2 b1 b2 hb3 hown ei ek hvi hvk hok2 hgl hlg hlr hsw hui huk hcl
        subst hW3
        subst hW2
        subst hW1
        go_wp2
        go_roundw
        case rel => exact ⟨_, i + 1, by go_num, by omega, HA3, HO3, HB3⟩
        case measure => simp [intOf]; omega
      · have hlt2 : ¬ ((i : Int) < (n : Int)) := by omega
        clear hi hlt
        go_wp2_with fail
        go_loopw [5, 9] (fun o q wx => ∃ (ks : List Nat) (j M g' cp' : Nat), o = .slice (some ⟨g', 0, none⟩) M cp' ∧ q = .int .i64 (j : Int) ∧ j ≤ 3 ∧ Hid (M = n + j) ∧ M ≤ 19 ∧ M ≤ cp' ∧ cp' ≤ 9223372036854775807 ∧ Hid (Arr n ks ∧ ks.length = M) ∧ Hid (wx.ownsRow lo 47 2 (.slice (some ⟨g', 0, none⟩) M cp') M (cv (pickL vs ks))) ∧ Hid (Below lo w wx)) (fun _ q _ => 3 - (intOf q).toNat)
        case atStart =>
          obtain ⟨h1, h2⟩ : n ≤ cp ∧ cp ≤ 9223372036854775807 := by
            obtain ⟨_, a', c', hv, hs, _⟩ := vs_of_own HO.out
            have := hs.le; have := hs.mx
            simp only [Value.slice.injEq] at hv
            omega
          exact ⟨ks, 0, n, g, cp, rfl, rfl, by omega, Lib.hid rfl, by omega, h1, h2, HA, HO, HR⟩
        case round =>
          obtain ⟨ks, j, M, g', cp', rfl, rfl, hj, HM, hM, hMc, hcm, HA, HO, HR⟩ := hrel
          have hlr : lo ≤ wr.heap.size := by have := HR.out.size; have := HLO.out; omega
          by_cases hgo : j < n ∧ j < 3
          · have g1 : (j : Int) < (n : Int) := by omega
            have g2 : (j : Int) < 3 := by omega
            have m1 : IntKind.i64.wrap ((n : Int) + (j : Int)) = (n : Int) + (j : Int) := by simp [IntKind.wrap, IntKind.signed, IntKind.bits]; omega
            have m2 : IntKind.i64.wrap ((M : Int) + 1) = (M : Int) + 1 := by simp [IntKind.wrap, IntKind.signed, IntKind.bits]; omega
            have m3 : IntKind.i64.wrap ((n : Int) + 3) = (n : Int) + 3 := by simp [IntKind.wrap, IntKind.signed, IntKind.bits]; omega
            have m4 : IntKind.i64.wrap ((n : Int) + 3 + (j : Int)) = (n : Int) + 3 + (j : Int) := by simp [IntKind.wrap, IntKind.signed, IntKind.bits]; omega
            have m5 : IntKind.i64.wrap ((j : Int) + 1) = (j : Int) + 1 := by simp [IntKind.wrap, IntKind.signed, IntKind.bits]; omega
            have HP := HPK.out wr (n + j) (M + 1) HR.out (by omega) (by omega) (by omega)
            rw [show ((n + j : Nat) : Int) = (n : Int) + (j : Int) by omega, show ((M + 1 : Nat) : Int) = (M : Int) + 1 by omega] at HP
            have HP1 := Lib.hid HP
            have HP2 : Hid (∀ W, Below lo w W → Calls Tryz.prog 35 #[.slice al nl cl, .int .i64 ((n : Int) + 3 + (j : Int)), .int .i64 (n : Int)] W (Index n W)) := fun W hW => by
              have := HPK.out W (n + 3 + j) n hW (by omega) (by omega) (by omega)
              rwa [show ((n + 3 + j : Nat) : Int) = (n : Int) + 3 + (j : Int) by omega] at this
            clear HP hgo
            go_wp2_with fail
            refine HP1.out.mono ?_
            rintro e w' ⟨r, hr, rfl, rfl⟩
            have hrM : r ≤ M := by omega
            have hr1 : (r : Int) ≤ (cp' : Int) := by omega
            have hr2 : (r : Int) ≤ (M : Int) := by omega
            have hr3 : (0 : Int) ≤ (r : Int) := by omega
            have hr4 : (M : Int) ≤ (cp' : Int) := by omega
            obtain ⟨us, hus⟩ : ∃ us, pickL vs ks = us := ⟨_, rfl⟩
            have hul : us.length = M := by rw [← hus, pickL_len]; exact HA.out.2
            have hown : wr.ownsRow lo 47 2 (.slice (some ⟨g', 0, none⟩) M cp') M (cv us) := by rw [← hus]; exact HO.out
            have hok2 : VOk us := by rw [← hus]; exact pickL_ok HOK.out (by rw [HN.out]; exact HA.out.1.lt)
            have HN1 := Lib.hid (row_news hown hul).1
            have hltk : (cv (us.take r)).length = r * 2 := by rw [cv_len, List.length_take]; omega
            have hok3 : ∀ u ∈ cv (us.take r), u.oneCell' = true := VOk.one (fun x hx => hok2 x (List.mem_of_mem_take hx))
            have HLT := Lib.hid hltk; have HK3 := Lib.hid hok3; have HK2 := Lib.hid hok2; have HOW := Lib.hid hown; have HUL := Lib.hid hul; have HUS := Lib.hid hus
            clear hltk hok3 hok2 hown hul hus
            go_wp2_with (at_builtin; refine wpList_append_own_at _ rfl _ _ 25 rfl lo 47 i5 (.agg #[.int .i64 0, .slice none 0 0]) 2 32 Tryz.underlying25 hi5 jy0 jy1 jy2 rfl (by decide) (.slice none 0 0) 0 [] rfl (World.ownsRow_nil _ _ _ _) ⟨g', 0, none⟩ r cp' (cv (us.take r)) rfl HLT.out (HN1.out r) HK3.out (by unfold maxLen; omega) (by omega) hlr ?_; intro v3 w3 hown3 hgrow3 _ hat3)
            rw [Nat.zero_add, List.nil_append] at hown3
            have b3 : Below wr.heap.size wr w3 := (Below.refl _ _).grown hgrow3 (Nat.le_refl _) (fun g hg => by cases hg)
            have hB3 : Below lo w w3 := HR.out.trans (b3.mono hlr)
            have hg' := HOW.out.lt g' rfl
            have hv3 : ∀ q, v3.ownBlock = some q → wr.heap.size ≤ q := fun q hq => by
              rcases hat3 with h | h
              · rw [h] at hq; cases hq
              · rw [h] at hq; cases hq; exact Nat.le_refl _
            have HO3 := Lib.hid hown3; have B3 := Lib.hid b3; have HB3 := Lib.hid hB3; have HV3 := Lib.hid hv3
            have z3 : wr.heap.size ≤ w3.heap.size := b3.size
            clear hown3 hgrow3 hat3 b3 hB3 hv3
            refine (HP2.out w3 HB3.out).mono ?_
            rintro e w' ⟨x, hx, rfl, rfl⟩
            have hx2 : (x : Int) < (n : Int) := by omega
            obtain ⟨c1, c2⟩ := HC.out w3 HB3.out x hx
            obtain ⟨ax, nx, cx, ex⟩ := HOK.out _ (cG_mem (vs := vs) (k := x) (by rw [HN.out]; exact hx))
            obtain ⟨vx, hvx⟩ : ∃ y, (cG vs x).1 = y := ⟨_, rfl⟩
            rw [hvx] at c1; rw [ex] at c2
            have HX : Hid (cG vs x = (vx, .slice ax nx cx)) := Prod.ext hvx ex
            obtain ⟨W4, hW4⟩ : ∃ W, w3.alloc (.cells #[.int .i64 vx, .slice ax nx cx] 47) = W := ⟨_, rfl⟩
            have b4 : Below w3.heap.size w3 W4 := by rw [← hW4]; exact (Below.refl _ _).alloc (Nat.le_refl _) _
            have hcn : ∀ j y, ([.int .i64 vx, .slice ax nx cx] : List Value)[j]? = some y → W4.cell? ((⟨w3.heap.size, 0, none⟩ : Addr).add j) = some y := by rw [← hW4]; exact cells_two w3 _ _ _
            have ho4 : W4.ownsRow lo 47 2 v3 r (cv (us.take r)) := own_same HO3.out (fun q hq => b4.block q (HO3.out.lt q hq).2)
            have z4 : lo ≤ W4.heap.size := by have := b4.size; omega
            have HO4 := Lib.hid ho4; have HCN := Lib.hid hcn; have B4 : Hid (Below w3.heap.size w3 W4) := b4; have HW4 := Lib.hid hW4
            clear ho4 hcn b4 hW4 ex hvx
            have HKEY : Hid (∀ v5 w5, w5.ownsRow lo 47 2 v5 (r + 1) (cv (us.take r) ++ [.int .i64 vx, .slice ax nx cx]) → W4.grownBy w5 v3.ownBlock → (v5.ownBlock = v3.ownBlock ∨ v5.ownBlock = some W4.heap.size) →
                Hid (w5.ownsRow lo 47 2 v5 (r + 1) (cv (us.take r) ++ [.int .i64 vx, .slice ax nx cx])) ∧ Hid (Below lo w w5) ∧ Hid (∀ j u, (cv (us.drop r))[j]? = some u → w5.cell? ((⟨g', r * 2, none⟩ : Addr).add j) = some u) ∧ lo ≤ w5.heap.size) := fun v5 w5 h1 h2 h3 => by
              have hz := h2.size
              have hz4 := B4.out.size
              have hb4 : Below lo w W4 := HB3.out.trans (B4.out.mono (by omega))
              have hb5 : Below lo w w5 := hb4.grown h2 z4 (fun g hg => (HO4.out.lt g hg).1)
              have hgg : w5.heap[g']? = wr.heap[g']? := ((h2.block g' (by omega) (fun e => by have := HV3.out g' e.symm; omega)).trans (B4.out.block g' (by omega))).trans (B3.out.block g' hg'.2)
              have hrow : w5.ownsRow lo 47 2 (.slice (some ⟨g', 0, none⟩) M cp') M (cv us) := own_same HOW.out (fun q hq => by cases hq; exact hgg)
              exact ⟨h1, hb5, (row_news hrow HUL.out).2 r, by omega⟩
            have hld : (cv (us.drop r)).length = (M - r) * 2 := by rw [cv_len, List.length_drop, HUL.out]
            have hokd : ∀ u ∈ cv (us.drop r), u.oneCell' = true := VOk.one (fun x hx => HK2.out x (List.mem_of_mem_drop hx))
            have HLD := Lib.hid hld; have HKD := Lib.hid hokd
            have hmr : r + 1 + (M - r) = M + 1 := by omega
            have HMR := Lib.hid hmr
            clear hld hokd hmr
            have HREL : Hid (∀ v6 w6, w6.ownsRow lo 47 2 v6 (r + 1 + (M - r)) (cv (us.take r) ++ [.int .i64 vx, .slice ax nx cx] ++ cv (us.drop r)) → Below lo w w6 → ∃ (ks : List Nat) (j_1 M g' cp' : Nat), v6 = .slice (some ⟨g', 0, none⟩) M cp' ∧ Value.int .i64 ((j : Int) + 1) = .int .i64 (j_1 : Int) ∧ j_1 ≤ 3 ∧ Hid (M = n + j_1) ∧ M ≤ 19 ∧ M ≤ cp' ∧ cp' ≤ 9223372036854775807 ∧ Hid (Arr n ks ∧ ks.length = M) ∧ Hid (w6.ownsRow lo 47 2 (.slice (some ⟨g', 0, none⟩) M cp') M (cv (pickL vs ks))) ∧ Hid (Below lo w w6)) := fun v6 w6 h1 h2 => by
              have hM9 := HM.out
              have hlk := HA.out.2
              have h3 : cv (us.take r) ++ [.int .i64 vx, .slice ax nx cx] ++ cv (us.drop r) = cv (pickL vs (ks.take r ++ [x] ++ ks.drop r)) := by
                rw [← pickL_put, HUS.out, HX.out, cv_app, cv_app]; rfl
              rw [h3, HMR.out] at h1
              obtain ⟨g6, c6, rfl⟩ := ownsRow_succ h1
              obtain ⟨_, a', c', hv, hs, _⟩ := vs_of_own h1
              have q1 := hs.le; have q2 := hs.mx
              simp only [Value.slice.injEq] at hv
              have hl6 : (ks.take r ++ [x] ++ ks.drop r).length = M + 1 := by simp; omega
              rw [pickL_len] at q1
              exact ⟨_, j + 1, M + 1, g6, c6, rfl, by go_num, by omega, Lib.hid (by omega), by omega, by omega, by omega, Lib.hid ⟨HA.out.1.put hx r, hl6⟩, Lib.hid h1, Lib.hid h2⟩
            by_cases hcr : cp' = r
            · have hMr : M - r = 0 := by omega
              have HMr := Lib.hid hMr
              clear hMr
              go_wp2_with (first
                | (at_builtin; rw [show w3.alloc (.cells #[.int .i64 vx, .slice ax nx cx] 47) = W4 from HW4.out]; refine wpList_append_own_at _ rfl _ _ 25 rfl lo 47 i5 (.agg #[.int .i64 0, .slice none 0 0]) 2 32 Tryz.underlying25 hi5 jy0 jy1 jy2 rfl (by decide) v3 r (cv (us.take r)) rfl HO4.out ⟨w3.heap.size, 0, none⟩ 1 1 [.int .i64 vx, .slice ax nx cx] rfl rfl HCN.out (fun x hx => by simp at hx; rcases hx with rfl | rfl <;> rfl) (by unfold maxLen; omega) (by omega) z4 ?_; intro v5 w5 hown5 hgrow5 hnn5 hat5; obtain ⟨HO5, HB5, HN5, z5⟩ := HKEY.out v5 w5 hown5 hgrow5 hat5; clear hown5 hgrow5 hnn5 hat5; obtain ⟨a5, c5, rfl⟩ := own_slice HO5.out)
                | (at_builtin; refine wpList_append_own_at _ rfl _ _ 25 rfl lo 47 i5 (.agg #[.int .i64 0, .slice none 0 0]) 2 32 Tryz.underlying25 hi5 jy0 jy1 jy2 rfl (by decide) (.slice a5 (r + 1) c5) (r + 1) (cv (us.take r) ++ [.int .i64 vx, .slice ax nx cx]) rfl HO5.out _ (M - r) _ (cv (us.drop r)) rfl HLD.out (fun j u h => by have := (List.getElem?_eq_some_iff.1 h).1; have := HLD.out; have := HMr.out; omega) HKD.out (by unfold maxLen; omega) (by omega) z5 ?_; intro v6 w6 hown6 hgrow6 hnn6 hat6))
              have hb6 := HB5.out.grown hgrow6 z5 (fun g hg => (HO5.out.lt g hg).1)
              exact ⟨HREL.out v6 w6 hown6 hb6, by simp [intOf]; omega⟩
            · have hcr2 : ¬ (cp' : Int) = (r : Int) := by omega
              go_wp2_with (first
                | (at_builtin; rw [show w3.alloc (.cells #[.int .i64 vx, .slice ax nx cx] 47) = W4 from HW4.out]; refine wpList_append_own_at _ rfl _ _ 25 rfl lo 47 i5 (.agg #[.int .i64 0, .slice none 0 0]) 2 32 Tryz.underlying25 hi5 jy0 jy1 jy2 rfl (by decide) v3 r (cv (us.take r)) rfl HO4.out ⟨w3.heap.size, 0, none⟩ 1 1 [.int .i64 vx, .slice ax nx cx] rfl rfl HCN.out (fun x hx => by simp at hx; rcases hx with rfl | rfl <;> rfl) (by unfold maxLen; omega) (by omega) z4 ?_; intro v5 w5 hown5 hgrow5 hnn5 hat5; obtain ⟨HO5, HB5, HN5, z5⟩ := HKEY.out v5 w5 hown5 hgrow5 hat5; clear hown5 hgrow5 hnn5 hat5; obtain ⟨a5, c5, rfl⟩ := own_slice HO5.out)
                | (at_builtin; refine wpList_append_own_at _ rfl _ _ 25 rfl lo 47 i5 (.agg #[.int .i64 0, .slice none 0 0]) 2 32 Tryz.underlying25 hi5 jy0 jy1 jy2 rfl (by decide) (.slice a5 (r + 1) c5) (r + 1) (cv (us.take r) ++ [.int .i64 vx, .slice ax nx cx]) rfl HO5.out ⟨g', r * 2, none⟩ (M - r) (cp' - r) (cv (us.drop r)) rfl HLD.out HN5.out HKD.out (by unfold maxLen; omega) (by omega) z5 ?_; intro v6 w6 hown6 hgrow6 hnn6 hat6))
              have hb6 := HB5.out.grown hgrow6 z5 (fun g hg => (HO5.out.lt g hg).1)
              exact ⟨HREL.out v6 w6 hown6 hb6, by simp [intOf]; omega⟩
          · have hways : ¬ ((j : Int) < (n : Int)) ∨ ((j : Int) < (n : Int) ∧ ¬ ((j : Int) < 3)) := by omega
            have HQ : Hid (Arr n ks ∧ ks.length ≤ n + 3 ∧ wr.ownsRow lo 47 2 (.slice (some ⟨g', 0, none⟩) M cp') ks.length (cv (pickL vs ks)) ∧ Below lo w wr) := ⟨HA.out.1, by have := HM.out; rw [HA.out.2]; omega, by rw [HA.out.2]; exact HO.out, HR.out⟩
            clear hgo
            rcases hways with g1 | ⟨g1, g2⟩
            all_goals
              go_wp2_with fail
              go_ret
              exact ⟨_, rfl, ks, HQ.out⟩

end Go.Proofs.YtkehgoailhpenaaGreat

/- The walk of DocumentRefuses. It has no conditions. -/
namespace Go.Proofs.YtkehgoailhpenaaGreat
open Go.RowKit Go.Shelf Go.Maps
set_option linter.unusedVariables false

def mkA (cs : List (List PE)) (ks : List Nat) : List (Int × List PE) := ks.map (fun (k : Nat) => ((k : Int) + 1, cs[k]?.getD []))
theorem heldA_pick {G : Nat → Prop} {w : World} {vs : List (Int × Value)} {cs : List (List PE)} {ks : List Nat} (h : Held1 G w vs cs) (hk : ∀ k ∈ ks, k < cs.length) : HeldA G w (pickL vs ks) (mkA cs ks) := by
  refine ⟨by simp [pickL, mkA], fun i x hi => ?_⟩
  have hlt : i < ks.length := by have := (List.getElem?_eq_some_iff.1 hi).1; simpa [mkA] using this
  rw [cG_pickL hlt]
  have hx : x = ((ks[i] : Int) + 1, cs[ks[i]]?.getD []) := by
    unfold mkA at hi
    rw [List.getElem?_map, List.getElem?_eq_getElem hlt] at hi
    exact (Option.some.inj hi).symm
  rw [hx]
  exact h.2 _ (hk _ (List.getElem_mem hlt))
theorem chSm_pick {S : ByteArray} {cs : List (List PE)} {ks : List Nat} (hF : Fits S cs) (hn : cs.length ≤ 16) (hk : ∀ k ∈ ks, k < cs.length) : ChSm (mkA cs ks) := by
  intro x hx
  obtain ⟨k, h1, rfl⟩ := List.mem_map.1 hx
  have h2 := hk k h1
  have h3 := hF.mem h2
  have h4 : cs[k]?.getD [] = cs[k] := by rw [List.getElem?_eq_getElem h2]; rfl
  exact ⟨⟨by show 1 ≤ (k : Int) + 1; omega, by show (k : Int) + 1 ≤ 100; omega⟩, by show (cs[k]?.getD []).length ≤ 5; rw [h4]; exact h3.1, by show ∀ q ∈ cs[k]?.getD [], _; rw [h4]; exact h3.2⟩
theorem vs_cells2 {B : Nat} {W : World} {a : Option Addr} {cap : Nat} {vs : List (Int × Value)} (h : VS B W a cap vs) {i : Nat} (hi : i < vs.length) {x : Int} {u : Value} (hx : cG vs i = (x, u)) : ∃ b off, a = some ⟨b, off, none⟩ ∧ W.cell? ⟨b, off + i * 2, none⟩ = some (.int .i64 x) ∧ W.cell? ⟨b, off + i * 2 + 1, none⟩ = some u := by
  obtain ⟨b, off, h1, h2, h3⟩ := h.cells.resolve_left (by omega)
  have := h3 i hi
  rw [hx] at this
  exact ⟨b, off, h1, this.1, this.2⟩
theorem es_keep {A W : World} {a : Option Addr} {cap : Nat} {xs : List Er} {G : Nat → Prop} (h : ES A.heap.size A a cap xs) (hz : A.heap.size ≤ W.heap.size) (hG : ∀ b, blkOf a b → G b) (hk : ∀ b, G b → b < A.heap.size → W.heap[b]? = A.heap[b]?) : ES W.heap.size W a cap xs := by
  obtain ⟨a', c', e, hE⟩ := ((EsG.of (G := G) h (fun _ b hb => hG b hb)).keep (G' := G) hz hk (fun _ h => h)).es
  simp only [Value.slice.injEq] at e
  obtain ⟨rfl, -, rfl⟩ := e
  exact hE

theorem sli_keep {k : IntKind} {w w' : World} {a : Option Addr} {c : Nat} {L : List Int} (h : Sli k w a c L) (hz : w.heap.size ≤ w'.heap.size) (hb : ∀ b, blkOf a b → b < w.heap.size → w'.heap[b]? = w.heap[b]?) : Sli k w' a c L := by
  refine ⟨h.le, h.mx, h.nil, ?_⟩
  rcases h.cells with h0 | ⟨b, off, h1, h2, h3⟩
  · exact .inl h0
  · exact .inr ⟨b, off, h1, by omega, fun j hj => (World.cell?_of_block (w := w) (a := ⟨b, off + j, none⟩) (hb b ⟨off, h1⟩ h2)).trans (h3 j hj)⟩

set_option maxRecDepth 100000 in
set_option maxHeartbeats 8000000 in
theorem walkDRef (a0 : Option Addr) (cap0 : Nat) (ls : List Int) (a1 : Option Addr) (cap1 : Nat) (ns : List Int) (at_ how pl pu : Int) (a5 : Option Addr) (cap5 : Nat) (es : List Er) (w : World)
    (h0 : Sli .i64 w a0 cap0 ls) (hi0 : ∀ n ∈ ls, -9223372036854775808 ≤ n ∧ n ≤ 9223372036854775807) (h1 : Sli .i64 w a1 cap1 ns) (hi1 : ∀ n ∈ ns, -9223372036854775808 ≤ n ∧ n ≤ 9223372036854775807) (h2 : I64n at_) (h3 : I64n how) (h4 : I64n pl) (h5 : I64n pu) (hE : ES w.heap.size w a5 cap5 es) (hbig : ∀ e ∈ es, e.Big) :
    Calls Tryz.prog 4 #[.slice a0 ls.length cap0, .slice a1 ns.length cap1, .int .i64 at_, .int .i64 how, .agg #[.int .i64 pl, .int .i64 pu], .slice a5 es.length cap5] w fun e w' => e = .returned (.bool true) ∧ Below w.heap.size w w' := by
  obtain ⟨W0, hW0⟩ : ∃ W, w.alloc (.cells #[.int .i64 pl, .int .i64 pu] 24) = W := ⟨_, rfl⟩
  have b0 : Below w.heap.size w W0 := by rw [← hW0]; exact (Below.refl _ _).alloc (Nat.le_refl _) _
  have k0 : Blk W0 w.heap.size 24 #[.int .i64 pl, .int .i64 pu] := by rw [← hW0]; exact Blk.new _ _ _
  obtain ⟨B0, hB0⟩ : ∃ b, w.heap.size = b := ⟨_, rfl⟩
  have HPP : Hid (∀ W, Below W0.heap.size W0 W → W.cell? ⟨B0, 0, none⟩ = some (.int .i64 pl) ∧ W.cell? ⟨B0, 1, none⟩ = some (.int .i64 pu)) := fun W hW => by
    have hk := k0.same (hW.block _ k0.lt)
    have c0 := hk.cell 0
    have c1 := hk.cell 1
    simp only [List.getElem?_toArray, List.getElem?_cons_zero, List.getElem?_cons_succ] at c0 c1
    rw [hB0] at c0 c1
    exact ⟨c0, c1⟩
  have cC := chain_any a0 cap0 ls 6 W0 (h0.below b0) hi0 (by omega)
  obtain ⟨n0, hn0⟩ : ∃ n, ls.length = n := ⟨_, rfl⟩
  obtain ⟨n1, hn1⟩ : ∃ n, ns.length = n := ⟨_, rfl⟩
  obtain ⟨n5, hn5⟩ : ∃ n, es.length = n := ⟨_, rfl⟩
  have hsl : SlI W0.heap.size W0 a1 n1 := by have := SlI.of (h1.below b0) hi1; rwa [hn1] at this
  have hc1 : n1 ≤ cap1 := by have := h1.le; omega
  have hm1 := h1.mx
  have HE0 := Lib.hid (hE.on b0); have HBG := Lib.hid hbig; have HN5 := Lib.hid hn5
  rw [hn0] at cC ⊢
  rw [hn1, hn5]
  have CC := Lib.hid cC; have HSL := Lib.hid hsl; have HW0 := Lib.hid hW0; have HB0 := Lib.hid b0; have HBB := Lib.hid hB0
  clear cC h0 hi0 h1 hi1 hsl hn0 hn1 hn5 hE hbig hW0 b0 k0
  go_enter Tryz.func4, Tryz.ntmps4
  go_wp2_with fail
  rw [show w.alloc (.cells #[.int .i64 pl, .int .i64 pu] 24) = W0 from HW0.out]
  refine CC.out.mono ?_
  rintro e w1 ⟨S, cs, vs, v, rfl, hSz, _, hcl, hF, hown, hV, hb1⟩
  obtain ⟨n, hn⟩ : ∃ n, cs.length = n := ⟨_, rfl⟩
  have hvn : vs.length = n := by rw [hV.1, hn]
  obtain ⟨_, ac, cc, rfl, hVS, _, _⟩ := vs_of_own hown
  rw [hvn]
  rw [hn] at hcl
  have HV1 := Lib.hid hV; have HVS := Lib.hid hVS
  have H1 := Lib.hid hb1; have HF := Lib.hid hF; have HN := Lib.hid hn; have HVN := Lib.hid hvn
  have hE0 : newE S 0 = 0 := by unfold newE; rw [if_neg (by omega), if_neg (by omega)]
  have HNW : Hid (∀ W, Calls Tryz.prog 7 #[.string S, .int .i64 0] W fun e w' => ∃ p, e = .returned (.tuple #[.pointer (some ⟨p, 0, none⟩), .int .i64 0]) ∧ DocI (newB W w') (fun _ => False) w' p (newS S 0) ∧ Below W.heap.size W w') := fun W => (new_any S 0 W).mono (by
    rintro e w' hw
    rcases hw with ⟨h, _⟩ | ⟨_, p, h1, h2, h3⟩
    · exact absurd hE0 h
    · exact ⟨p, by rw [h1], h2, h3⟩)
  clear hVS hV hown hb1 hF hn hvn hE0 CC
  go_wp2_with fail
  refine (HNW.out w1).mono ?_
  rintro e w2 ⟨pd, rfl, hd, b2⟩
  have HD2 := Lib.hid hd
  have HB2 : Hid (Below w1.heap.size w1 w2) := b2
  have HB02 : Hid (Below W0.heap.size W0 w2) := H1.out.trans (b2.mono H1.out.size)
  have CS := fun W (hW : Below w2.heap.size w2 W) => shuffled_any ac cc vs a1 n1 cap1 W ((HVS.out.on HB2.out).on hW) (by rw [HVN.out]; omega) HV1.out.ok ((HSL.out.on HB02.out).on hW) hc1 hm1
  simp only [HVN.out] at CS
  have HCS := Lib.hid CS
  have HSPO : Hid (∀ w3 v9 ks, Below w2.heap.size w2 w3 → Arr n ks → ks.length ≤ n + 3 → w3.ownsRow w2.heap.size 47 2 v9 ks.length (cv (pickL vs ks)) → ∃ a9 N9 c9, v9 = .slice a9 N9 c9 ∧ w3.cell? ⟨B0, 0, none⟩ = some (.int .i64 pl) ∧ w3.cell? ⟨B0, 1, none⟩ = some (.int .i64 pu) ∧ Hid (Calls Tryz.prog 9 #[.slice a9 N9 c9, .int .i64 at_, .int .i64 how, .agg #[.int .i64 pl, .int .i64 pu]] w3 fun e w' => ∃ a' c' vs' As' NA, e = .returned (.slice a' NA c') ∧ As'.length = NA ∧ VS w'.heap.size w' a' c' vs' ∧ (∀ b, blkOf a' b → w3.heap.size ≤ b) ∧ HeldA (fun b => b < w1.heap.size ∨ w3.heap.size ≤ b) w' vs' As' ∧ ChOk As' ∧ NA ≤ 21 ∧ Below w3.heap.size w3 w')) := fun w3 v9 ks hb3 hA hkl hown9 => by
    obtain ⟨hl9, a9, c9, rfl, hV9, _, _⟩ := vs_of_own hown9
    have hpl : (pickL vs ks).length = ks.length := pickL_len _ _
    have hks : ∀ k ∈ ks, k < cs.length := fun k hk => by rw [HN.out]; exact hA.lt k hk
    have hH1 : Held1 (fun b => b < w1.heap.size) w1 vs cs := HV1.out.keep (Nat.le_refl _) (fun _ _ _ => rfl) (fun b _ hlt => hlt)
    have b13 : Below w1.heap.size w1 w3 := HB2.out.trans (hb3.mono HB2.out.size)
    have hH3 : Held1 (fun b => b < w1.heap.size) w3 vs cs := hH1.keep b13.size (fun b hb _ => b13.block b hb) (fun b hb _ => hb)
    have hsp := spoilt_any a9 c9 (pickL vs ks) (mkA cs ks) at_ how pl pu w3 hV9 (fun b => b < w1.heap.size) (heldA_pick hH3 hks) (by rw [hpl]; omega) (chSm_pick HF.out (by have := HN.out; omega) hks) h2 h3 h4 h5
    obtain ⟨q0, q1⟩ := HPP.out w3 (HB02.out.trans (hb3.mono HB02.out.size))
    refine ⟨a9, (pickL vs ks).length, c9, rfl, q0, q1, ?_⟩
    exact hsp.mono (fun e w' ⟨a', c', vs', As', g1, g2, g3, g4, g5, g6, g7⟩ => ⟨a', c', vs', As', As'.length, g1, rfl, g2, g3, g4, g5, g6, g7⟩)
  obtain ⟨p0, p1⟩ := HPP.out w2.drew HB02.out.drew
  clear hd b2 HNW CS
  go_wp2_with fail
  go_region_with (first
    | (go_at_call 10; refine (HCS.out _ (Below.refl _ w2).drew).mono ?_; rintro e w3 ⟨v9, ks, rfl, hA, hkl, hown9, hb3⟩; have HB3 : Below w2.heap.size w2 w3 := (Below.refl _ w2).drew.trans hb3; obtain ⟨a9, N9, c9, rfl, q0, q1, HSP⟩ := HSPO.out w3 _ ks HB3 hA hkl hown9; clear hA hkl hown9 hb3)
    | (go_at_call 9; refine HSP.out.mono ?_; rintro e w4 ⟨a', c', vs', As', NA, rfl, hNA, hV4, hblk4, hA4, hok4, hna, hb4⟩))
  all_goals
    have HB4 : Hid (Below w2.heap.size w2 w4) := HB3.trans (hb4.mono HB3.size)
    have HZ34 : Hid (w2.heap.size ≤ w3.heap.size ∧ w3.heap.size ≤ w4.heap.size) := ⟨HB3.size, hb4.size⟩
    have HNA := Lib.hid hNA; have HV4 := Lib.hid hV4; have HBK4 := Lib.hid hblk4; have HA4 := Lib.hid hA4; have HOK4 := Lib.hid hok4
    have HD4 : Hid (DocI (newB w1 w2) (fun _ => False) w4 pd (newS S 0)) := HD2.out.below HB4.out
    have CF := few_any a5 cap5 3 es w4 (by omega) HBG.out ((HE0.out.on HB02.out).on HB4.out)
    rw [HN5.out] at CF
    have HCF := Lib.hid CF
    clear hNA hV4 hblk4 hA4 hok4 hb4 HB3 HSP CF q0 q1 p0 p1
    go_wp2_with fail
    refine HCF.out.mono ?_
    rintro e w5 ⟨v5, rfl, hown5, hb5⟩
    obtain ⟨xs, hxs⟩ : ∃ x, fewE es 3 = x := ⟨_, rfl⟩
    have hfx := fewE_fit (m := 3) HBG.out
    have hxl := fewE_len es 3
    rw [hxs] at hown5 hfx hxl
    obtain ⟨_, ax, cx, rfl, hX5, hbx⟩ := es_of_own2 hown5
    obtain ⟨nx, hnx⟩ : ∃ n, xs.length = n := ⟨_, rfl⟩
    rw [hnx]
    have hnx3 : nx ≤ 3 := by omega
    have HB5 := Lib.hid hb5
    have HFX : Hid (∀ e ∈ xs, e.Fit) := fun e he => (hfx e he).1
    have HNX := Lib.hid hnx
    have HD5 : Hid (DocI (newB w1 w2) (fun _ => False) w5 pd (newS S 0)) := HD4.out.below hb5
    have HKP : Hid (∀ W, Only (newB w1 w2) w5 W → VS w4.heap.size W a' c' vs' ∧ HeldA (fun _ => True) W vs' As' ∧ ES W.heap.size W ax cx xs) := fun W hW => by
      have z12 := HB2.out.size
      have z34 := HZ34.out
      have z45 := HB5.out.size
      have hk : ∀ b, b < w4.heap.size → (b < w1.heap.size ∨ w2.heap.size ≤ b) → W.heap[b]? = w4.heap[b]? := fun b hb ho => (hW.block b (by omega) (fun h => by have := h.1; have := h.2; omega)).trans (HB5.out.block b hb)
      refine ⟨HV4.out.keep (fun b hb hlt => hk b hlt (.inr (by have := HBK4.out b hb; omega))), HA4.out.keep (by have := hW.size; omega) (fun b hb hlt => hk b hlt (hb.elim .inl (fun h => .inr (by omega)))) (fun _ _ => trivial), ?_⟩
      exact es_keep (G := fun b => w4.heap.size ≤ b) hX5 hW.size (fun b hb => hbx b hb) (fun b hb hlt => hW.block b hlt (fun h => by have := h.2; omega))
    have HW5 : Hid (Below w.heap.size w w5) := HB0.out.trans (((HB02.out.trans (HB4.out.mono HB02.out.size)).trans (hb5.mono (HB02.out.trans (HB4.out.mono HB02.out.size)).size)).mono HB0.out.size)
    have HZ5 : Hid (w.heap.size ≤ w1.heap.size ∧ w1.heap.size ≤ w5.heap.size) := ⟨by have := HB0.out.size; have := H1.out.size; omega, by have := HB2.out.size; have := HZ34.out; have := hb5.size; omega⟩
    clear hown5 hb5 hxs hfx hxl hX5 hbx hnx HCF
    go_wp2_with fail
    go_loopw [19] (fun q wr => ∃ (i : Nat) (s : DS) (T G : Nat → Prop), q = .int .i64 (i : Int) ∧ i ≤ NA ∧ Hid (DocI T G wr pd s) ∧ Hid (Only (newB w1 w2) w5 wr) ∧ Hid (∀ b, T b → newB w1 w2 b ∨ w5.heap.size ≤ b)) (fun q _ => NA - (intOf q).toNat)
    case atStart => exact ⟨0, newS S 0, _, _, rfl, by omega, HD5, Lib.hid (Only.refl _ _), Lib.hid (fun b h => .inl h)⟩
    case round =>
      obtain ⟨i, s, T, G, rfl, hi, HD, HO, HT⟩ := hrel
      by_cases hin : i < NA
      · have hin2 : (i : Int) < (NA : Int) := by omega
        have m1 : IntKind.i64.wrap ((i : Int) + 1) = (i : Int) + 1 := by simp [IntKind.wrap, IntKind.signed, IntKind.bits]; omega
        obtain ⟨t1, ht1⟩ : ∃ t, s.text = t := ⟨_, rfl⟩
        obtain ⟨sv, hsv⟩ : ∃ t, s.v = t := ⟨_, rfl⟩
        obtain ⟨L, hL⟩ : ∃ l, heldL s = l := ⟨_, rfl⟩
        obtain ⟨nh, hnh⟩ : ∃ l, s.hs.length = l := ⟨_, rfl⟩
        have hLn : L.length = nh := by rw [← hL, heldL_len, hnh]
        have hnh16 : nh ≤ 16 := by rw [← hnh]; exact HD.out.ok.hlen
        have hsv0 : 0 ≤ sv := by rw [← hsv]; exact HD.out.ok.v0
        have hsv1 : sv ≤ 1099511627776 := by rw [← hsv]; exact HD.out.ok.v1
        have HTXT : Hid (∀ (T G : Nat → Prop) W, DocI T G W pd s → Calls Tryz.prog 13 #[.pointer (some ⟨pd, 0, none⟩)] W fun e w' => e = .returned (.string t1) ∧ Below W.heap.size W w') := fun T G W h => by
          have := text_any T G pd s W h
          rwa [ht1] at this
        have HVER : Hid (∀ (T G : Nat → Prop) W, DocI T G W pd s → Calls Tryz.prog 20 #[.pointer (some ⟨pd, 0, none⟩)] W fun e w' => e = .returned (.int .i64 sv) ∧ W = w') := fun T G W h => by
          have := version_any T G pd s W h
          rwa [hsv] at this
        have HHLD : Hid (∀ (T G : Nat → Prop) W, DocI T G W pd s → Calls Tryz.prog 21 #[.pointer (some ⟨pd, 0, none⟩)] W fun e w' => ∃ a c, e = .returned (.slice a nh c) ∧ Sli .i64 w' a c L ∧ (∀ b, blkOf a b → W.heap.size ≤ b) ∧ Below W.heap.size W w') := fun T G W h => by
          have := held_all T G pd s W h
          rw [hnh, hL] at this
          refine this.mono ?_
          rintro e w' ⟨a, c, rfl, hrow, hb⟩
          obtain ⟨_, a', c', hv, hs⟩ := sli_of_own (k := .i64) (zs := L) hrow
          rw [hLn] at hv
          simp only [Value.slice.injEq] at hv
          obtain ⟨rfl, -, rfl⟩ := hv
          exact ⟨a, c, rfl, hs, fun b hb' => by obtain ⟨off, rfl⟩ := hb'; exact (hrow.lt b rfl).1, hb⟩
        have HSI : Hid (∀ W a c a' c', Sli .i64 W a c L → Sli .i64 W a' c' L → Calls Tryz.prog 24 #[.slice a nh c, .slice a' nh c'] W fun e w' => e = .returned (.bool true) ∧ Below W.heap.size W w') := fun W a c a' c' h h' => by
          have := sameInts_any a a' c c' L L W h h' (by omega) (by omega)
          rwa [hLn, show decide (L = L) = true by simp] at this
        have HSV := Lib.hid hsv
        clear ht1 hL hnh hLn hsv
        go_wp2_with fail
        refine (HTXT.out T G wr HD.out).mono ?_
        rintro e w6 ⟨rfl, b6⟩
        have HD6 : Hid (DocI T G w6 pd s) := HD.out.below b6
        have HO6 : Hid (Only (newB w1 w2) w5 w6) := HO.out.trans (Only.of_below b6)
        clear b6
        go_wp2_with fail
        refine (HVER.out T G w6 HD6.out).mono ?_
        rintro e w7 ⟨rfl, rfl⟩
        go_wp2_with fail
        refine (HHLD.out T G w6 HD6.out).mono ?_
        rintro e w8 ⟨ah, ch, rfl, hsl8, hbk8, b8⟩
        have HD8 : Hid (DocI T G w8 pd s) := HD6.out.below b8
        have HO8 : Hid (Only (newB w1 w2) w5 w8) := HO6.out.trans (Only.of_below b8)
        obtain ⟨hvs, hha, _⟩ := HKP.out w8 HO8.out
        have hal : i < As'.length := by rw [HNA.out]; exact hin
        obtain ⟨cv0, ps, hAs⟩ : ∃ c p, As'[i]? = some (c, p) := ⟨_, _, List.getElem?_eq_getElem hal⟩
        obtain ⟨hcv, hpsG⟩ := hha.2 i _ hAs
        obtain ⟨ap, cp, hev, hps⟩ := hpsG.ps
        obtain ⟨⟨z1, z2⟩, z3, z4⟩ := HOK4.out _ (List.mem_of_getElem? hAs)
        obtain ⟨b, off, rfl, q1, q2⟩ := vs_cells2 hvs (i := i) (by rw [hha.1]; exact hal) (x := cv0) (u := .slice ap ps.length cp) (Prod.ext hcv hev)
        obtain ⟨r1, r2, s2, hr, hcase⟩ := rcv_cases s cv0 ps
        have CR := receive_any T G pd s w8 HD8.out cv0 z1 z2 ap cp ps hps (by simp only at z3; omega) z4
        rw [hr] at CR
        have HCR := Lib.hid CR
        obtain ⟨np, hnp⟩ : ∃ x, ps.length = x := ⟨_, rfl⟩
        rw [hnp] at q2 HCR
        have HSL8 := Lib.hid (And.intro hsl8 (And.intro hbk8 b8))
        clear hvs hha hal hAs hcv hpsG hev hps z1 z2 z3 z4 hr CR hnp hsl8 hbk8 b8
        go_wp2_with fail
        refine HCR.out.mono ?_
        rintro e w9 ⟨rfl, T2, G2, hd, hs⟩
        have HD9 : Hid (DocI T2 G2 w9 pd s2) := hd
        have HO9 : Hid (Only (newB w1 w2) w5 w9) := HO8.out.step hs HT.out
        have hzw := HO8.out.size
        have HT9 : Hid (∀ b, T2 b → newB w1 w2 b ∨ w5.heap.size ≤ b) := fun b hb => by
          rcases hs.t b hb with h | h
          · exact HT.out b h
          · exact .inr (by omega)
        have HSL9 : Hid (Sli .i64 w9 ah ch L) := sli_keep HSL8.out.1 hs.only.size (fun b hb hlt => hs.only.block b hlt (fun hT => by
          have h1 := HD6.out.lt b hT
          have h2 := HSL8.out.2.1 b hb
          omega))
        clear hd hs hzw HCR q1 q2 HD8 HO8
        have HFIN : Hid (∀ T3 G3 W s3, DocI T3 G3 W pd s3 → Only (newB w1 w2) w5 W → (∀ b, T3 b → newB w1 w2 b ∨ w5.heap.size ≤ b) → ∃ (j : Nat) (s' : DS) (T' G' : Nat → Prop), Value.int .i64 ((i : Int) + 1) = .int .i64 (j : Int) ∧ j ≤ NA ∧ Hid (DocI T' G' W pd s') ∧ Hid (Only (newB w1 w2) w5 W) ∧ Hid (∀ b, T' b → newB w1 w2 b ∨ w5.heap.size ≤ b)) := fun T3 G3 W s3 h1 h2 h3 => ⟨i + 1, s3, T3, G3, by go_num, by omega, h1, h2, h3⟩
        have qtt : (t1.toList != t1.toList) = false := by simp
        have qvv : (sv != sv) = false := by simp
        rcases hcase with ⟨hr2, rfl, hss⟩ | ⟨rfl, hr1, hss⟩
        case' inl =>
          have qA : (r2 != 0) = true := by simp [hr2]
          have qB : (r2 == 0) = false := by simp [hr2]
          have HDs : Hid (DocI T2 G2 w9 pd s) := by rw [← hss]; exact HD9.out
          have HSS := Lib.hid hss
          clear hr2 hss
          go_wp2_with fail
          refine (HTXT.out T2 G2 w9 HDs.out).mono ?_
          rintro e w10 ⟨rfl, b10⟩
          have HD10 : Hid (DocI T2 G2 w10 pd s) := HDs.out.below b10
          have HO10 : Hid (Only (newB w1 w2) w5 w10) := HO9.out.trans (Only.of_below b10)
          have HSL10 : Hid (Sli .i64 w10 ah ch L) := Sli.below HSL9.out b10
          clear b10
          go_wp2_with fail
          refine (HVER.out T2 G2 w10 HD10.out).mono ?_
          rintro e w11 ⟨rfl, rfl⟩
          go_wp2_with fail
          refine (HHLD.out T2 G2 w10 HD10.out).mono ?_
          rintro e w11 ⟨a11, c11, rfl, hsl11, _, b11⟩
          have HD11 : Hid (DocI T2 G2 w11 pd s) := HD10.out.below b11
          have HO11 : Hid (Only (newB w1 w2) w5 w11) := HO10.out.trans (Only.of_below b11)
          have HSI11 := Lib.hid (HSI.out w11 a11 c11 ah ch hsl11 (Sli.below HSL10.out b11))
          clear hsl11 b11
          go_wp2_with fail
          refine HSI11.out.mono ?_
          rintro e wz ⟨rfl, bz⟩
          have HDz : Hid (DocI T2 G2 wz pd s2) := by rw [HSS.out]; exact HD11.out.below bz
          have HOz : Hid (Only (newB w1 w2) w5 wz) := HO11.out.trans (Only.of_below bz)
          clear bz
        case' inr =>
          have CV := version_any T2 G2 pd s2 w9 HD9.out
          rw [hss, HSV.out] at CV
          have HCV := Lib.hid CV
          have hb2 := HD9.out.ok.v1
          rw [hss, HSV.out] at hb2
          have m2 : IntKind.i64.wrap (sv + r1) = sv + r1 := by simp [IntKind.wrap, IntKind.signed, IntKind.bits]; omega
          have qn : (sv + r1 != sv + r1) = false := by simp
          clear CV hss
          go_wp2_with fail
          refine HCV.out.mono ?_
          rintro e wz ⟨rfl, hz⟩
          have hz' := hz.symm
          subst hz'
          have HDz : Hid (DocI T2 G2 wz pd s2) := HD9
          have HOz : Hid (Only (newB w1 w2) w5 wz) := HO9
          clear hr1
        all_goals
          obtain ⟨t2, ht2⟩ : ∃ t, s2.text = t := ⟨_, rfl⟩
          obtain ⟨v2, hv2⟩ : ∃ t, s2.v = t := ⟨_, rfl⟩
          have hv20 : 0 ≤ v2 := by rw [← hv2]; exact HDz.out.ok.v0
          have hv21 : v2 ≤ 1099511627776 := by rw [← hv2]; exact HDz.out.ok.v1
          have ht2z : t2.size ≤ 4096 := by rw [← ht2]; exact HDz.out.tsize
          have m3 : IntKind.i64.wrap (v2 + 1) = v2 + 1 := by simp [IntKind.wrap, IntKind.signed, IntKind.bits]; omega
          have HTX2 : Hid (∀ W, DocI T2 G2 W pd s2 → Calls Tryz.prog 13 #[.pointer (some ⟨pd, 0, none⟩)] W fun e w' => e = .returned (.string t2) ∧ Below W.heap.size W w') := fun W h => by
            have := text_any T2 G2 pd s2 W h
            rwa [ht2] at this
          have HVE2 : Hid (∀ W, DocI T2 G2 W pd s2 → Calls Tryz.prog 20 #[.pointer (some ⟨pd, 0, none⟩)] W fun e w' => e = .returned (.int .i64 v2) ∧ W = w') := fun W h => by
            have := version_any T2 G2 pd s2 W h
            rwa [hv2] at this
          have HT2' := Lib.hid ht2; have HV2' := Lib.hid hv2
          clear ht2 hv2
          go_wp2_with fail
          refine (HTX2.out wz HDz.out).mono ?_
          rintro e w14 ⟨rfl, b14⟩
          have HD14 : Hid (DocI T2 G2 w14 pd s2) := HDz.out.below b14
          have HO14 : Hid (Only (newB w1 w2) w5 w14) := HOz.out.trans (Only.of_below b14)
          clear b14
          go_wp2_with fail
          refine (HVE2.out w14 HD14.out).mono ?_
          rintro e w15 ⟨rfl, rfl⟩
          have CE := edit_any T2 G2 pd s2 w14 HD14.out ax cx xs (HKP.out w14 HO14.out).2.2 (by have := HNX.out; omega) HFX.out
          obtain ⟨E, hE⟩ : ∃ e, edtE s2 xs = e := ⟨_, rfl⟩
          rw [HNX.out, HV2'.out] at CE
          simp only [hE] at CE
          have HCE := Lib.hid CE
          have HEE := Lib.hid hE
          obtain ⟨R, hR⟩ : ∃ r, apS t2 xs = r := ⟨_, rfl⟩
          obtain ⟨V, hV⟩ : ∃ r, vErr (t2.size : Int) xs = r := ⟨_, rfl⟩
          have HAP : Hid (∀ W, Only (newB w1 w2) w5 W → Calls Tryz.prog 25 #[.string t2, .slice ax nx cx] W fun e w' => e = .returned (.tuple #[.string R, .int .i64 V]) ∧ Below W.heap.size W w') := fun W hW => by
            have := papply_any t2 ax cx xs W (by omega) (by have := HNX.out; omega) HFX.out (HKP.out W hW).2.2
            rwa [HNX.out, hR, hV] at this
          have HRR := Lib.hid hR; have HVV := Lib.hid hV
          have qt2 : (t2.toList != t2.toList) = false := by simp
          have qR : (R.toList != R.toList) = false := by simp
          have qv2 : (v2 != v2) = false := by simp
          have qv3 : (v2 + 1 != v2 + 1) = false := by simp
          clear CE hE hR hV
          go_wp2_with fail
          refine HCE.out.mono ?_
          rintro e w15 hw
          rcases hw with ⟨hE0, rfl, b15⟩ | ⟨hE0, rfl, T3, G3, hd3, hs3⟩
          · have qE : (E != 0) = true := by simp [hE0]
            have qE2 : (E == 0) = false := by simp [hE0]
            have HD15 : Hid (DocI T2 G2 w15 pd s2) := HD14.out.below b15
            have HO15 : Hid (Only (newB w1 w2) w5 w15) := HO14.out.trans (Only.of_below b15)
            clear b15 hE0 HCE
            go_wp2_with fail
            refine (HAP.out w15 HO15.out).mono ?_
            rintro e w16 ⟨rfl, b16⟩
            have HD16 : Hid (DocI T2 G2 w16 pd s2) := HD15.out.below b16
            have HO16 : Hid (Only (newB w1 w2) w5 w16) := HO15.out.trans (Only.of_below b16)
            clear b16
            go_wp2_with fail
            refine (HTX2.out w16 HD16.out).mono ?_
            rintro e w17 ⟨rfl, b17⟩
            have HD17 : Hid (DocI T2 G2 w17 pd s2) := HD16.out.below b17
            have HO17 : Hid (Only (newB w1 w2) w5 w17) := HO16.out.trans (Only.of_below b17)
            clear b17
            go_wp2_with fail
            refine (HVE2.out w17 HD17.out).mono ?_
            rintro e w18 ⟨rfl, rfl⟩
            go_wp2
            go_roundw
            case rel => exact HFIN.out T2 G2 w17 s2 HD17.out HO17.out HT9.out
            case measure => simp [intOf]; omega
          · have hzw := HO14.out.size
            have HD15 : Hid (DocI T3 G3 w15 pd (advS s2 xs)) := hd3
            have HO15 : Hid (Only (newB w1 w2) w5 w15) := HO14.out.step hs3 HT9.out
            have HT15 : Hid (∀ b, T3 b → newB w1 w2 b ∨ w5.heap.size ≤ b) := fun b hb => by
              rcases hs3.t b hb with h | h
              · exact HT9.out b h
              · exact .inr (by omega)
            have hV0 : V = 0 := by rw [← HVV.out, ← HT2'.out]; exact edt_zero (HEE.out.trans hE0)
            have HTX3 : Hid (∀ W, DocI T3 G3 W pd (advS s2 xs) → Calls Tryz.prog 13 #[.pointer (some ⟨pd, 0, none⟩)] W fun e w' => e = .returned (.string R) ∧ Below W.heap.size W w') := fun W h => by
              have := text_any T3 G3 pd _ W h
              rwa [advS_text, HT2'.out, HRR.out] at this
            have HVE3 : Hid (∀ W, DocI T3 G3 W pd (advS s2 xs) → Calls Tryz.prog 20 #[.pointer (some ⟨pd, 0, none⟩)] W fun e w' => e = .returned (.int .i64 (v2 + 1)) ∧ W = w') := fun W h => by
              have := version_any T3 G3 pd _ W h
              rwa [show (advS s2 xs).v = s2.v + 1 from rfl, HV2'.out] at this
            subst hV0
            clear hd3 hs3 hzw HCE hE0
            go_wp2_with fail
            refine (HAP.out w15 HO15.out).mono ?_
            rintro e w16 ⟨rfl, b16⟩
            have HD16 : Hid (DocI T3 G3 w16 pd (advS s2 xs)) := HD15.out.below b16
            have HO16 : Hid (Only (newB w1 w2) w5 w16) := HO15.out.trans (Only.of_below b16)
            clear b16
            go_wp2_with fail
            refine (HTX3.out w16 HD16.out).mono ?_
            rintro e w17 ⟨rfl, b17⟩
            have HD17 : Hid (DocI T3 G3 w17 pd (advS s2 xs)) := HD16.out.below b17
            have HO17 : Hid (Only (newB w1 w2) w5 w17) := HO16.out.trans (Only.of_below b17)
            clear b17
            go_wp2_with fail
            refine (HVE3.out w17 HD17.out).mono ?_
            rintro e w18 ⟨rfl, rfl⟩
            go_wp2
            go_roundw
            case rel => exact HFIN.out T3 G3 w17 _ HD17.out HO17.out HT15.out
            case measure => simp [intOf]; omega
      · have hin2 : ¬ ((i : Int) < (NA : Int)) := by omega
        go_wp2_with fail
        refine (lives_any _).mono ?_
        rintro e w6 ⟨rfl, b6⟩
        have HB6 : Hid (Below w.heap.size w w6) := by
          have h1 : Below w.heap.size w5 wr := HO.out.below (by have := HZ5.out; omega) (fun b hb => by have := hb.1; have := HZ5.out; omega)
          have h2 := HW5.out.trans h1
          exact h2.trans (b6.mono h2.size)
        clear b6
        go_wp2
        go_ret
        exact ⟨rfl, HB6.out⟩

end Go.Proofs.YtkehgoailhpenaaGreat

/- The walk of DocumentRuns. It has no conditions. -/
namespace Go.Proofs.YtkehgoailhpenaaGreat
open Go.RowKit Go.Shelf Go.Maps
set_option linter.unusedVariables false

set_option maxRecDepth 100000 in
set_option maxHeartbeats 8000000 in
theorem walkDRun (a0 : Option Addr) (cap0 : Nat) (ls : List Int) (a1 : Option Addr) (cap1 : Nat) (ns : List Int) (at_ how pl pu : Int) (a5 : Option Addr) (cap5 : Nat) (ss : List Int) (txt : ByteArray) (ver : Int) (w : World)
    (h0 : Sli .i64 w a0 cap0 ls) (hi0 : ∀ n ∈ ls, -9223372036854775808 ≤ n ∧ n ≤ 9223372036854775807) (h1 : Sli .i64 w a1 cap1 ns) (hi1 : ∀ n ∈ ns, -9223372036854775808 ≤ n ∧ n ≤ 9223372036854775807) (h2 : I64n at_) (h3 : I64n how) (h4 : I64n pl) (h5 : I64n pu) (h6 : Sli .i64 w a5 cap5 ss) (hi6 : ∀ n ∈ ss, -9223372036854775808 ≤ n ∧ n ≤ 9223372036854775807) (htx : txt.size ≤ 9223372036854775807) (hver : I64n ver) :
    Calls Tryz.prog 3 #[.slice a0 ls.length cap0, .slice a1 ns.length cap1, .int .i64 at_, .int .i64 how, .agg #[.int .i64 pl, .int .i64 pu], .slice a5 ss.length cap5, .string txt, .int .i64 ver] w fun e w' => e = .returned (.bool true) ∧ Below w.heap.size w w' := by
  obtain ⟨W0, hW0⟩ : ∃ W, w.alloc (.cells #[.int .i64 pl, .int .i64 pu] 24) = W := ⟨_, rfl⟩
  have b0 : Below w.heap.size w W0 := by rw [← hW0]; exact (Below.refl _ _).alloc (Nat.le_refl _) _
  have k0 : Blk W0 w.heap.size 24 #[.int .i64 pl, .int .i64 pu] := by rw [← hW0]; exact Blk.new _ _ _
  obtain ⟨B0, hB0⟩ : ∃ b, w.heap.size = b := ⟨_, rfl⟩
  have HPP : Hid (∀ W, Below W0.heap.size W0 W → W.cell? ⟨B0, 0, none⟩ = some (.int .i64 pl) ∧ W.cell? ⟨B0, 1, none⟩ = some (.int .i64 pu)) := fun W hW => by
    have hk := k0.same (hW.block _ k0.lt)
    have c0 := hk.cell 0
    have c1 := hk.cell 1
    simp only [List.getElem?_toArray, List.getElem?_cons_zero, List.getElem?_cons_succ] at c0 c1
    rw [hB0] at c0 c1
    exact ⟨c0, c1⟩
  have cC := chain_any a0 cap0 ls 8 W0 (h0.below b0) hi0 (by omega)
  obtain ⟨n0, hn0⟩ : ∃ n, ls.length = n := ⟨_, rfl⟩
  obtain ⟨n1, hn1⟩ : ∃ n, ns.length = n := ⟨_, rfl⟩
  obtain ⟨n5, hn5⟩ : ∃ n, ss.length = n := ⟨_, rfl⟩
  have hsl : SlI W0.heap.size W0 a1 n1 := by have := SlI.of (h1.below b0) hi1; rwa [hn1] at this
  have hc1 : n1 ≤ cap1 := by have := h1.le; omega
  have hm1 := h1.mx
  have hsl5 : SlI W0.heap.size W0 a5 n5 := by have := SlI.of (h6.below b0) hi6; rwa [hn5] at this
  have hc5 : n5 ≤ cap5 := by have := h6.le; omega
  have hm5 := h6.mx
  rw [hn0] at cC ⊢
  rw [hn1, hn5]
  have CC := Lib.hid cC; have HSL := Lib.hid hsl; have HSL5 := Lib.hid hsl5; have HW0 := Lib.hid hW0; have HB0 := Lib.hid b0; have HBB := Lib.hid hB0
  clear cC h0 hi0 h1 hi1 h6 hi6 hsl hsl5 hn0 hn1 hn5 hW0 b0 k0
  go_enter Tryz.func3, Tryz.ntmps3
  go_wp2_with fail
  rw [show w.alloc (.cells #[.int .i64 pl, .int .i64 pu] 24) = W0 from HW0.out]
  refine CC.out.mono ?_
  rintro e w1 ⟨S, cs, vs, v, rfl, hSz, _, hcl, hF, hown, hV, hb1⟩
  obtain ⟨n, hn⟩ : ∃ n, cs.length = n := ⟨_, rfl⟩
  have hvn : vs.length = n := by rw [hV.1, hn]
  obtain ⟨z1, ac, cc, rfl, hVS, z2, z3⟩ := vs_of_own hown
  rw [hvn]
  rw [hn] at hcl
  have HV1 := Lib.hid hV; have HVS := Lib.hid hVS
  have H1 := Lib.hid hb1; have HF := Lib.hid hF; have HN := Lib.hid hn; have HVN := Lib.hid hvn
  have hE0 : newE S 0 = 0 := by unfold newE; rw [if_neg (by omega), if_neg (by omega)]
  have HNW : Hid (∀ W, Calls Tryz.prog 7 #[.string S, .int .i64 0] W fun e w' => ∃ p, e = .returned (.tuple #[.pointer (some ⟨p, 0, none⟩), .int .i64 0]) ∧ DocI (newB W w') (fun _ => False) w' p (newS S 0) ∧ Below W.heap.size W w') := fun W => (new_any S 0 W).mono (by
    rintro e w' hw
    rcases hw with ⟨h, _⟩ | ⟨_, p, h1, h2, h3⟩
    · exact absurd hE0 h
    · exact ⟨p, by rw [h1], h2, h3⟩)
  have HNR : Hid (∀ W, Calls Tryz.prog 8 #[.string S, .int .i64 0] W fun e w' => ∃ p, e = .returned (.tuple #[.pointer (some ⟨p, 0, none⟩), .int .i64 0]) ∧ RDocI (newB W w') (fun _ => False) w' p (rnewS S 0) ∧ Below W.heap.size W w') := fun W => (rnew_any S 0 W).mono (by
    rintro e w' hw
    rcases hw with ⟨h, _⟩ | ⟨_, p, h1, h2, h3⟩
    · exact absurd hE0 h
    · exact ⟨p, by rw [h1], h2, h3⟩)
  clear hVS hV hown hb1 hF hn hvn hE0 CC z1 z2 z3
  go_wp2_with fail
  refine (HNW.out w1).mono ?_
  rintro e w2 ⟨pd, rfl, hd, b2⟩
  have HD2 := Lib.hid hd
  have HB2 : Hid (Below w1.heap.size w1 w2) := b2
  clear hd b2 HNW
  go_wp2_with fail
  refine (HNR.out w2).mono ?_
  rintro e w3 ⟨pr, rfl, hr, b3⟩
  have HR3 := Lib.hid hr
  have HB23 : Hid (Below w2.heap.size w2 w3) := b3
  have HB3 : Hid (Below w1.heap.size w1 w3) := HB2.out.trans (b3.mono HB2.out.size)
  have HB03 : Hid (Below W0.heap.size W0 w3) := H1.out.trans (HB3.out.mono H1.out.size)
  have CS := fun W (hW : Below w3.heap.size w3 W) => shuffled_any ac cc vs a1 n1 cap1 W ((HVS.out.on HB3.out).on hW) (by rw [HVN.out]; omega) HV1.out.ok ((HSL.out.on HB03.out).on hW) hc1 hm1
  simp only [HVN.out] at CS
  have HCS := Lib.hid CS
  have HSPO : Hid (∀ w4 v9 ks, Below w3.heap.size w3 w4 → Arr n ks → ks.length ≤ n + 3 → w4.ownsRow w3.heap.size 47 2 v9 ks.length (cv (pickL vs ks)) → ∃ a9 N9 c9, v9 = .slice a9 N9 c9 ∧ w4.cell? ⟨B0, 0, none⟩ = some (.int .i64 pl) ∧ w4.cell? ⟨B0, 1, none⟩ = some (.int .i64 pu) ∧ Hid (Calls Tryz.prog 9 #[.slice a9 N9 c9, .int .i64 at_, .int .i64 how, .agg #[.int .i64 pl, .int .i64 pu]] w4 fun e w' => ∃ a' c' vs' As' NA, e = .returned (.slice a' NA c') ∧ As'.length = NA ∧ VS w'.heap.size w' a' c' vs' ∧ (∀ b, blkOf a' b → w4.heap.size ≤ b) ∧ HeldA (fun b => b < w1.heap.size ∨ w4.heap.size ≤ b) w' vs' As' ∧ ChOk As' ∧ NA ≤ 21 ∧ Below w4.heap.size w4 w')) := fun w4 v9 ks hb4 hA hkl hown9 => by
    obtain ⟨hl9, a9, c9, rfl, hV9, _, _⟩ := vs_of_own hown9
    have hpl : (pickL vs ks).length = ks.length := pickL_len _ _
    have hks : ∀ k ∈ ks, k < cs.length := fun k hk => by rw [HN.out]; exact hA.lt k hk
    have hH1 : Held1 (fun b => b < w1.heap.size) w1 vs cs := HV1.out.keep (Nat.le_refl _) (fun _ _ _ => rfl) (fun b _ hlt => hlt)
    have b14 : Below w1.heap.size w1 w4 := HB3.out.trans (hb4.mono HB3.out.size)
    have hH4 : Held1 (fun b => b < w1.heap.size) w4 vs cs := hH1.keep b14.size (fun b hb _ => b14.block b hb) (fun b hb _ => hb)
    have hsp := spoilt_any a9 c9 (pickL vs ks) (mkA cs ks) at_ how pl pu w4 hV9 (fun b => b < w1.heap.size) (heldA_pick hH4 hks) (by rw [hpl]; omega) (chSm_pick HF.out (by have := HN.out; omega) hks) h2 h3 h4 h5
    obtain ⟨q0, q1⟩ := HPP.out w4 (HB03.out.trans (hb4.mono HB03.out.size))
    refine ⟨a9, (pickL vs ks).length, c9, rfl, q0, q1, ?_⟩
    exact hsp.mono (fun e w' ⟨a', c', vs', As', g1, g2, g3, g4, g5, g6, g7⟩ => ⟨a', c', vs', As', As'.length, g1, rfl, g2, g3, g4, g5, g6, g7⟩)
  obtain ⟨p0, p1⟩ := HPP.out w3.drew HB03.out.drew
  clear hr b3 HNR CS
  go_wp2_with fail
  go_region_with (first
    | (go_at_call 10; refine (HCS.out _ (Below.refl _ w3).drew).mono ?_; rintro e w4 ⟨v9, ks, rfl, hA, hkl, hown9, hb4⟩; have HB4 : Below w3.heap.size w3 w4 := (Below.refl _ w3).drew.trans hb4; obtain ⟨a9, N9, c9, rfl, q0, q1, HSP⟩ := HSPO.out w4 _ ks HB4 hA hkl hown9; clear hA hkl hown9 hb4)
    | (go_at_call 9; refine HSP.out.mono ?_; rintro e w5 ⟨a', c', vs', As', NA, rfl, hNA, hV5, hblk5, hA5, hok5, hna, hb5⟩))
  all_goals
    have HZ45 : Hid (w3.heap.size ≤ w4.heap.size ∧ w4.heap.size ≤ w5.heap.size) := ⟨HB4.size, hb5.size⟩
    have HB5 : Hid (Below w3.heap.size w3 w5) := HB4.trans (hb5.mono HB4.size)
    have HNA := Lib.hid hNA; have HV5 := Lib.hid hV5; have HBK5 := Lib.hid hblk5; have HA5 := Lib.hid hA5; have HOK5 := Lib.hid hok5
    have HM5 : Hid (Mid (newB w1 w3) w5 w5 pd pr (newB w1 w2) (fun _ => False) (newB w2 w3) (fun b => b < w5.heap.size ∧ ¬ newB w1 w3 b) (newS S 0) (rnewS S 0) (1 + 18 * 0)) := by
      have y1 := HB2.out.size
      have y2 := HB23.out.size
      have y3 := HB5.out.size
      have k1 : ∀ b, newB w1 w2 b → newB w1 w3 b := fun b hb => ⟨hb.1, by have := hb.2; omega⟩
      have k2 : ∀ b, newB w2 w3 b → newB w1 w3 b := fun b hb => ⟨by have := hb.1; omega, hb.2⟩
      refine ⟨(HD2.out.below HB23.out).below HB5.out, (HR3.out.below HB5.out).monoG (fun b hb => hb.elim) (fun b hb => hb.1) (fun b hb hg => hg.2 (k2 b hb)), Only.refl _ _, fun b hb => .inl (k1 b hb), fun b hb => .inl (k2 b hb), fun b hb => ⟨fun q => by have := hb.2; have := q.1; omega, fun q => q.2 (k1 b hb)⟩, fun b _ h => h, fun b q1 q2 => ⟨q1, q2⟩, Nat.le_refl _⟩
    have HT5 : Hid (Two (newS S 0) (rnewS S 0)) := Two.new S 0
    have HKP : Hid (∀ W, Only (newB w1 w3) w5 W → VS w5.heap.size W a' c' vs' ∧ HeldA (fun b => ¬ newB w1 w3 b) W vs' As') := fun W hW => by
      have y3 := HB3.out.size
      have y4 := HZ45.out
      refine ⟨HV5.out.keep (fun b hb hlt => hW.block b hlt (fun h => by have := HBK5.out b hb; have := h.2; omega)), HA5.out.keep hW.size (fun b hb hlt => hW.block b hlt (fun h => ?_)) (fun b hb h => ?_)⟩
      · rcases hb with hb | hb
        · have := h.1; omega
        · have := h.2; omega
      · rcases hb with hb | hb
        · have := h.1; omega
        · have := h.2; omega
    have HW5 : Hid (Below w.heap.size w w5) := HB0.out.trans ((HB03.out.trans (HB5.out.mono HB03.out.size)).mono HB0.out.size)
    have HZ1 : Hid (w.heap.size ≤ w1.heap.size ∧ W0.heap.size ≤ w1.heap.size) := ⟨by have := HB0.out.size; have := H1.out.size; omega, H1.out.size⟩
    have HSL9 : Hid (∀ W, Only (newB w1 w3) w5 W → SlI W.heap.size W a5 n5) := fun W hW => by
      have hb : Below W0.heap.size W0 w5 := HB03.out.trans (HB5.out.mono HB03.out.size)
      have y1 := HZ1.out.2
      have y2 := hb.size
      exact HSL5.out.on (hb.trans ⟨hW.os, hW.tape, hW.output, by have := hW.size; omega, fun b hlt => hW.block b (by omega) (fun h => by have := h.1; omega)⟩)
    have HFINB : Hid (∀ W, Only (newB w1 w3) w5 W → Below w.heap.size w W) := fun W hW => by
      have y1 := HZ1.out.1
      have y2 := HW5.out.size
      exact HW5.out.trans ⟨hW.os, hW.tape, hW.output, by have := hW.size; omega, fun b hlt => hW.block b (by omega) (fun h => by have := h.1; omega)⟩
    have CA := around_any how (NA + 1) w5 h3.1 h3.2 (by omega) (by omega)
    rw [show ((NA + 1 : Nat) : Int) = (NA : Int) + 1 by omega] at CA
    have HCA := Lib.hid CA
    have m0 : IntKind.i64.wrap ((NA : Int) + 1) = (NA : Int) + 1 := by simp [IntKind.wrap, IntKind.signed, IntKind.bits]; omega
    clear hNA hV5 hblk5 hA5 hok5 hb5 HB4 HSP CA q0 q1 p0 p1
    go_wp2_with fail
    refine HCA.out.mono ?_
    rintro e w6 ⟨k, hk, rfl, rfl⟩
    clear HCA
    go_wp2_with fail
    go_loopw [25] (fun q wr => ∃ (i : Nat) (s : DS) (r : RS) (T G T2 G2 : Nat → Prop), q = .int .i64 (i : Int) ∧ i ≤ NA + 1 ∧ Hid (Mid (newB w1 w3) w5 wr pd pr T G T2 G2 s r (1 + 18 * i)) ∧ Hid (Two s r)) (fun q _ => NA + 1 - (intOf q).toNat)
    case atStart => exact ⟨0, newS S 0, rnewS S 0, _, _, _, _, rfl, by omega, HM5, HT5⟩
    case round =>
      obtain ⟨i, s, r, T, G, T2, G2, rfl, hi, HM, HT⟩ := hrel
      have m1 : IntKind.i64.wrap ((i : Int) + 1) = (i : Int) + 1 := by simp [IntKind.wrap, IntKind.signed, IntKind.bits]; omega
      by_cases hin : i ≤ NA
      · have hin2 : (i : Int) ≤ (NA : Int) := by omega
        by_cases hik : i = k
        · have hikb : ((i : Int) == (k : Int)) = true := by simp [hik]
          have hikn : (i == k) = true := by simp [hik]
          have htz := HM.out.rd.tsize
          obtain ⟨t, ht⟩ : ∃ t, s.text = t := ⟨_, rfl⟩
          rw [← HT.out.sim.t, ht] at htz
          have HTX : Hid (Calls Tryz.prog 13 #[.pointer (some ⟨pd, 0, none⟩)] wr fun e w' => e = .returned (.string t) ∧ Below wr.heap.size wr w') := by
            have := text_any T G pd s wr HM.out.d
            rwa [ht] at this
          clear ht hik
          go_wp2_with fail
          refine HTX.out.mono ?_
          rintro e w7 ⟨rfl, b7⟩
          have HM7 := Lib.hid (HM.out.below b7)
          have HRAW := Lib.hid (raw_any t a5 n5 cap5 w7 (by omega) (HSL9.out w7 HM7.out.only) hc5 hm5)
          clear b7 HTX
          go_wp2_with fail
          refine HRAW.out.mono ?_
          rintro e w8 ⟨es, v8, rfl, hel, hev, hex, hown8, b8⟩
          obtain ⟨z1, ax, cx, rfl, hE8, hnew8⟩ := es_of_own2 hown8
          have hfit := fit_of hev (by omega) (fun e he => by have := (hex e he).1; omega)
          have HM8 := Lib.hid (HM7.out.give b8 hE8 hnew8)
          have HNW8 : Hid (∀ b, blkOf ax b → ¬ T b ∧ ¬ T2 b) := fun b hb => by
            have h1 := hnew8 b hb
            exact ⟨fun h => by have := HM7.out.d.lt b h; omega, fun h => by have := HM7.out.rd.lt b h; omega⟩
          have HE8 := Lib.hid hE8; have HFT := Lib.hid hfit; have HEL := Lib.hid hel
          have c1 := mid_edt1 HM8.out hE8 (by omega) hfit (fun b hb => (HNW8.out b hb).1)
          obtain ⟨y1, y2, y3⟩ := two_edt HT.out es
          obtain ⟨E, hE⟩ : ∃ x, redE r es = x := ⟨_, rfl⟩
          obtain ⟨N, hN⟩ : ∃ x, (if redE r es = 0 then r.v + 1 else 0) = x := ⟨_, rfl⟩
          rw [y2, y1, hN, hE] at c1
          rw [y1, hE] at y3
          obtain ⟨s8, hs8⟩ : ∃ x, edS s es E = x := ⟨_, rfl⟩
          obtain ⟨r8, hr8⟩ : ∃ x, edR r es E = x := ⟨_, rfl⟩
          rw [hs8] at c1 y3
          rw [hr8] at y3
          obtain ⟨ne, hne⟩ : ∃ x, es.length = x := ⟨_, rfl⟩
          rw [hne] at c1 ⊢
          have HC1 := Lib.hid c1; have HT8 := Lib.hid y3
          have HX8 := Lib.hid (And.intro hE (And.intro hN (And.intro hr8 hne)))
          clear hown8 hE8 hnew8 hex hev b8 hfit hel c1 y1 y2 y3 hE hN hs8 hr8 hne z1
          go_wp2_with fail
          refine HC1.out.mono ?_
          rintro e w9 ⟨rfl, T9, G9, hm9, hE9⟩
          have HM9 := Lib.hid hm9
          have c2 := mid_edt2 (es := es) (by rw [HX8.out.2.2.2]; exact hm9) (by omega) hE9 (by have := HEL.out; omega) HFT.out (fun b hb => (HNW8.out b hb).2)
          rw [HX8.out.2.1, HX8.out.1, HX8.out.2.2.1, HX8.out.2.2.2] at c2
          have HC2 := Lib.hid c2
          clear hm9 hE9 c2 HC1
          go_wp2_with fail
          refine HC2.out.mono ?_
          rintro e w10 ⟨rfl, T10, G10, hm10⟩
          have HM10 := Lib.hid hm10
          have HSM := Lib.hid (samed_any hm10 HT8.out)
          have qN : (N != N) = false := by simp
          have qE : (E != E) = false := by simp
          clear hm10 HC2
          go_wp2_with fail
          refine HSM.out.mono ?_
          rintro e wE ⟨rfl, bE⟩
          have HME : Hid (Mid (newB w1 w3) w5 wE pd pr T9 G9 T10 G10 s8 r8 (2 + 18 * i)) := (HM10.out.below bE).mono (by omega)
          clear bE HSM
          by_cases hlt : i < NA
          · have hlt2 : (i : Int) < (NA : Int) := by omega
            obtain ⟨hvs, hha⟩ := HKP.out wE HME.out.only
            obtain ⟨_, hha5⟩ := HKP.out w5 (Only.refl _ _)
            have hal : i < As'.length := by rw [HNA.out]; exact hlt
            obtain ⟨cv0, ps, hAs⟩ : ∃ c p, As'[i]? = some (c, p) := ⟨_, _, List.getElem?_eq_getElem hal⟩
            obtain ⟨hcv, hpsG⟩ := hha.2 i _ hAs
            obtain ⟨hcv5, hpsG5⟩ := hha5.2 i _ hAs
            obtain ⟨ap, cp, hev, hps⟩ := hpsG.ps
            obtain ⟨⟨z1, z2⟩, z3, z4⟩ := HOK5.out _ (List.mem_of_getElem? hAs)
            simp only at z3
            have hlo : ps.length ≠ 0 → ∀ b, blkOf ap b → b < w5.heap.size ∧ ¬ newB w1 w3 b := fun hp0 b hb => by
              obtain ⟨ap', cp', e1, _, _, e4⟩ := hpsG5
              rw [hev] at e1
              simp only [Value.slice.injEq] at e1
              obtain ⟨rfl, _, rfl⟩ := e1
              obtain ⟨b', off', k1, k2, k3, _⟩ := e4.resolve_left hp0
              obtain ⟨off2, hb2⟩ := hb
              rw [k1] at hb2; cases hb2
              exact ⟨k3, k2⟩
            obtain ⟨b, off, hae, q1, q2⟩ := vs_cells2 hvs (i := i) (by rw [hha.1]; exact hal) (x := cv0) (u := .slice ap ps.length cp) (Prod.ext hcv hev)
            have HC9 : Hid (∀ W, Only (newB w1 w3) w5 W → W.cell? ⟨b, off + i * 2, none⟩ = some (.int .i64 cv0) ∧ W.cell? ⟨b, off + i * 2 + 1, none⟩ = some (.slice ap ps.length cp) ∧ PS W.heap.size W ap cp ps) := fun W hW => by
              obtain ⟨hvs9, hha9⟩ := HKP.out W hW
              obtain ⟨hcv9, hpsG9⟩ := hha9.2 i _ hAs
              obtain ⟨b', off', hae', q1', q2'⟩ := vs_cells2 hvs9 (i := i) (by rw [hha9.1]; exact hal) (x := cv0) (u := .slice ap ps.length cp) (Prod.ext hcv9 hev)
              rw [hae] at hae'; cases hae'
              obtain ⟨ap', cp', e1, e2⟩ := hpsG9.ps
              rw [hev] at e1
              simp only [Value.slice.injEq] at e1
              obtain ⟨rfl, _, rfl⟩ := e1
              exact ⟨q1', q2', e2⟩
            have c1 := mid_rcv1 HME.out (k := cv0) ⟨z1, z2⟩ hps z3 z4
            obtain ⟨y1, _⟩ := HT8.out.sim.rcv cv0 ps
            have y2 := HT8.out.rcv cv0 ps
            obtain ⟨R, hR⟩ : ∃ x, (rcvF s8 cv0 ps).1 = x := ⟨_, rfl⟩
            obtain ⟨s2, hs2⟩ : ∃ x, (rcvF s8 cv0 ps).2 = x := ⟨_, rfl⟩
            obtain ⟨r2, hr2⟩ : ∃ x, (rrcvF r8 cv0 ps).2 = x := ⟨_, rfl⟩
            have hR2 := y1.symm.trans hR
            obtain ⟨R1, R2⟩ := R
            rw [hR, hs2] at c1
            rw [hs2, hr2] at y2
            simp only at c1
            obtain ⟨np, hnp⟩ : ∃ x, ps.length = x := ⟨_, rfl⟩
            have HZZ := Lib.hid (And.intro (And.intro z1 z2) (And.intro z3 z4)); have HLO9 := Lib.hid hlo
            have HVV := Lib.hid (And.intro hR2 (And.intro hr2 hnp)); have HY2 := Lib.hid y2
            rw [hnp] at c1 q2
            have HC1 := Lib.hid c1
            subst hae
            clear hvs hha hha5 hal hAs hcv hcv5 hpsG hpsG5 hev hps z1 z2 z3 z4 hlo c1 y1 y2 hR hs2 hr2 hR2 hnp
            go_wp2_with fail
            refine HC1.out.mono ?_
            rintro e w11 ⟨rfl, T11, G11, hm11⟩
            obtain ⟨g1, g2, g3⟩ := HC9.out w11 hm11.only
            have c2 := mid_rcv2 hm11 (by omega) (k := cv0) HZZ.out.1 g3 HZZ.out.2.1 HZZ.out.2.2 HLO9.out
            rw [HVV.out.1, HVV.out.2.1, HVV.out.2.2] at c2
            rw [HVV.out.2.2] at g2
            simp only at c2
            have HC2 := Lib.hid c2
            clear g3 c2 hm11 HC1 q1 q2
            go_wp2_with fail
            refine HC2.out.mono ?_
            rintro e w12 ⟨rfl, T12, G12, hm12⟩
            have HM12 := Lib.hid hm12
            have HSM2 := Lib.hid (samed_any hm12 HY2.out)
            have qR1 : (R1 != R1) = false := by simp
            have qR2 : (R2 != R2) = false := by simp
            clear hm12 HC2 g1 g2
            go_wp2_with fail
            refine HSM2.out.mono ?_
            rintro e w13 ⟨rfl, b13⟩
            have HMF : Hid (Mid (newB w1 w3) w5 w13 pd pr T11 G11 T12 G12 s2 r2 (1 + 18 * (i + 1))) := (HM12.out.below b13).mono (by omega)
            clear b13 HSM2
            go_wp2
            go_roundw
            case rel => exact ⟨i + 1, s2, r2, T11, G11, T12, G12, by go_num, by omega, HMF, HY2⟩
            case measure => simp [intOf]; omega
          · have hlt2 : ¬ ((i : Int) < (NA : Int)) := by omega
            have hltn : decide (i < NA) = false := by simp; omega
            have HMF : Hid (Mid (newB w1 w3) w5 wE pd pr T9 G9 T10 G10 s8 r8 (1 + 18 * (i + 1))) := HME.out.mono (by omega)
            clear hlt
            go_wp2
            go_roundw
            case rel => exact ⟨i + 1, s8, r8, T9, G9, T10, G10, by go_num, by omega, HMF, HT8⟩
            case measure => simp [intOf]; omega
        · have hikb : ((i : Int) == (k : Int)) = false := by simp; omega
          have hikn : (i == k) = false := by simp [hik]
          have HME : Hid (Mid (newB w1 w3) w5 wr pd pr T G T2 G2 s r (2 + 18 * i)) := HM.out.mono (by omega)
          clear hik
          by_cases hlt : i < NA
          · have hlt2 : (i : Int) < (NA : Int) := by omega
            obtain ⟨hvs, hha⟩ := HKP.out wr HME.out.only
            obtain ⟨_, hha5⟩ := HKP.out w5 (Only.refl _ _)
            have hal : i < As'.length := by rw [HNA.out]; exact hlt
            obtain ⟨cv0, ps, hAs⟩ : ∃ c p, As'[i]? = some (c, p) := ⟨_, _, List.getElem?_eq_getElem hal⟩
            obtain ⟨hcv, hpsG⟩ := hha.2 i _ hAs
            obtain ⟨hcv5, hpsG5⟩ := hha5.2 i _ hAs
            obtain ⟨ap, cp, hev, hps⟩ := hpsG.ps
            obtain ⟨⟨z1, z2⟩, z3, z4⟩ := HOK5.out _ (List.mem_of_getElem? hAs)
            simp only at z3
            have hlo : ps.length ≠ 0 → ∀ b, blkOf ap b → b < w5.heap.size ∧ ¬ newB w1 w3 b := fun hp0 b hb => by
              obtain ⟨ap', cp', e1, _, _, e4⟩ := hpsG5
              rw [hev] at e1
              simp only [Value.slice.injEq] at e1
              obtain ⟨rfl, _, rfl⟩ := e1
              obtain ⟨b', off', k1, k2, k3, _⟩ := e4.resolve_left hp0
              obtain ⟨off2, hb2⟩ := hb
              rw [k1] at hb2; cases hb2
              exact ⟨k3, k2⟩
            obtain ⟨b, off, hae, q1, q2⟩ := vs_cells2 hvs (i := i) (by rw [hha.1]; exact hal) (x := cv0) (u := .slice ap ps.length cp) (Prod.ext hcv hev)
            have HC9 : Hid (∀ W, Only (newB w1 w3) w5 W → W.cell? ⟨b, off + i * 2, none⟩ = some (.int .i64 cv0) ∧ W.cell? ⟨b, off + i * 2 + 1, none⟩ = some (.slice ap ps.length cp) ∧ PS W.heap.size W ap cp ps) := fun W hW => by
              obtain ⟨hvs9, hha9⟩ := HKP.out W hW
              obtain ⟨hcv9, hpsG9⟩ := hha9.2 i _ hAs
              obtain ⟨b', off', hae', q1', q2'⟩ := vs_cells2 hvs9 (i := i) (by rw [hha9.1]; exact hal) (x := cv0) (u := .slice ap ps.length cp) (Prod.ext hcv9 hev)
              rw [hae] at hae'; cases hae'
              obtain ⟨ap', cp', e1, e2⟩ := hpsG9.ps
              rw [hev] at e1
              simp only [Value.slice.injEq] at e1
              obtain ⟨rfl, _, rfl⟩ := e1
              exact ⟨q1', q2', e2⟩
            have c1 := mid_rcv1 HME.out (k := cv0) ⟨z1, z2⟩ hps z3 z4
            obtain ⟨y1, _⟩ := HT.out.sim.rcv cv0 ps
            have y2 := HT.out.rcv cv0 ps
            obtain ⟨R, hR⟩ : ∃ x, (rcvF s cv0 ps).1 = x := ⟨_, rfl⟩
            obtain ⟨s2, hs2⟩ : ∃ x, (rcvF s cv0 ps).2 = x := ⟨_, rfl⟩
            obtain ⟨r2, hr2⟩ : ∃ x, (rrcvF r cv0 ps).2 = x := ⟨_, rfl⟩
            have hR2 := y1.symm.trans hR
            obtain ⟨R1, R2⟩ := R
            rw [hR, hs2] at c1
            rw [hs2, hr2] at y2
            simp only at c1
            obtain ⟨np, hnp⟩ : ∃ x, ps.length = x := ⟨_, rfl⟩
            have HZZ := Lib.hid (And.intro (And.intro z1 z2) (And.intro z3 z4)); have HLO9 := Lib.hid hlo
            have HVV := Lib.hid (And.intro hR2 (And.intro hr2 hnp)); have HY2 := Lib.hid y2
            rw [hnp] at c1 q2
            have HC1 := Lib.hid c1
            subst hae
            clear hvs hha hha5 hal hAs hcv hcv5 hpsG hpsG5 hev hps z1 z2 z3 z4 hlo c1 y1 y2 hR hs2 hr2 hR2 hnp
            go_wp2_with fail
            refine HC1.out.mono ?_
            rintro e w11 ⟨rfl, T11, G11, hm11⟩
            obtain ⟨g1, g2, g3⟩ := HC9.out w11 hm11.only
            have c2 := mid_rcv2 hm11 (by omega) (k := cv0) HZZ.out.1 g3 HZZ.out.2.1 HZZ.out.2.2 HLO9.out
            rw [HVV.out.1, HVV.out.2.1, HVV.out.2.2] at c2
            rw [HVV.out.2.2] at g2
            simp only at c2
            have HC2 := Lib.hid c2
            clear g3 c2 hm11 HC1 q1 q2
            go_wp2_with fail
            refine HC2.out.mono ?_
            rintro e w12 ⟨rfl, T12, G12, hm12⟩
            have HM12 := Lib.hid hm12
            have HSM2 := Lib.hid (samed_any hm12 HY2.out)
            have qR1 : (R1 != R1) = false := by simp
            have qR2 : (R2 != R2) = false := by simp
            clear hm12 HC2 g1 g2
            go_wp2_with fail
            refine HSM2.out.mono ?_
            rintro e w13 ⟨rfl, b13⟩
            have HMF : Hid (Mid (newB w1 w3) w5 w13 pd pr T11 G11 T12 G12 s2 r2 (1 + 18 * (i + 1))) := (HM12.out.below b13).mono (by omega)
            clear b13 HSM2
            go_wp2
            go_roundw
            case rel => exact ⟨i + 1, s2, r2, T11, G11, T12, G12, by go_num, by omega, HMF, HY2⟩
            case measure => simp [intOf]; omega
          · have hlt2 : ¬ ((i : Int) < (NA : Int)) := by omega
            have hltn : decide (i < NA) = false := by simp; omega
            have HMF : Hid (Mid (newB w1 w3) w5 wr pd pr T G T2 G2 s r (1 + 18 * (i + 1))) := HME.out.mono (by omega)
            clear hlt
            go_wp2
            go_roundw
            case rel => exact ⟨i + 1, s, r, T, G, T2, G2, by go_num, by omega, HMF, HT⟩
            case measure => simp [intOf]; omega
      · have hin2 : ¬ ((i : Int) ≤ (NA : Int)) := by omega
        have CSH := short_any txt 20 wr htx (by omega)
        rw [show ((20 : Nat) : Int) = 20 from rfl] at CSH
        have HSH := Lib.hid CSH
        obtain ⟨sh, hsh⟩ : ∃ x, shS txt 20 = x := ⟨_, rfl⟩
        rw [hsh] at HSH
        have HOF := Lib.hid HM.out.only
        have HNX := Lib.hid (fun W => new_any sh ver W)
        have HNY := Lib.hid (fun W => rnew_any sh ver W)
        obtain ⟨E, hE⟩ : ∃ x, newE sh ver = x := ⟨_, rfl⟩
        simp only [hE] at HNX HNY
        clear CSH hsh hE hin hi m1 HM HT
        go_wp2_with fail
        refine HSH.out.mono ?_
        rintro e w7 ⟨rfl, rfl⟩
        by_cases hE0 : E = 0
        · subst hE0
          go_wp2_with fail
          refine (HNX.out wr).mono ?_
          rintro e w8 hw
          obtain ⟨_, px, rfl, hx8, b8⟩ := hw.resolve_left (fun q => q.1 rfl)
          have HX8 := Lib.hid hx8
          have HO8 : Hid (Only (newB w1 w3) w5 w8) := HOF.out.trans (Only.of_below b8)
          clear hw hx8 b8
          go_wp2_with fail
          refine (HNY.out w8).mono ?_
          rintro e w9 hw
          obtain ⟨_, py, rfl, hy9, b9⟩ := hw.resolve_left (fun q => q.1 rfl)
          have HX9 : Hid (DocI (newB wr w8) (fun _ => False) w9 px (newS sh ver)) := HX8.out.below b9
          have HO9 : Hid (Only (newB w1 w3) w5 w9) := HO8.out.trans (Only.of_below b9)
          have C1 := text_any _ _ px _ w9 HX9.out
          rw [show (newS sh ver).text = sh from rfl] at C1
          have HC1 := Lib.hid C1
          have qs : (sh.toList == sh.toList) = true := by simp
          have qv : (ver == ver) = true := by simp
          clear hw hy9 b9 C1
          go_wp2_with fail
          refine HC1.out.mono ?_
          rintro e w10 ⟨rfl, b10⟩
          have HX10 : Hid (DocI (newB wr w8) (fun _ => False) w10 px (newS sh ver)) := HX9.out.below b10
          have HO10 : Hid (Only (newB w1 w3) w5 w10) := HO9.out.trans (Only.of_below b10)
          have C2 := version_any _ _ px _ w10 HX10.out
          rw [show (newS sh ver).v = ver from rfl] at C2
          have HC2 := Lib.hid C2
          clear b10 C2
          go_wp2_with fail
          refine HC2.out.mono ?_
          rintro e w11 ⟨rfl, rfl⟩
          have C3 := held_all _ _ px _ w10 HX10.out
          rw [show (newS sh ver).hs.length = 0 from rfl] at C3
          have HC3 := Lib.hid C3
          clear C3
          go_wp2_with fail
          refine HC3.out.mono ?_
          rintro e w11 ⟨ah, ch, rfl, hrow, b11⟩
          have HO11 : Hid (Only (newB w1 w3) w5 w11) := HO10.out.trans (Only.of_below b11)
          clear hrow b11
          go_wp2_with fail
          refine (lives_any w11).mono ?_
          rintro e w12 ⟨rfl, b12⟩
          have HO12 : Hid (Only (newB w1 w3) w5 w12) := HO11.out.trans (Only.of_below b12)
          clear b12
          go_wp2_with fail
          go_ret
          exact ⟨rfl, HFINB.out _ HO12.out⟩
        · have HE0 := Lib.hid hE0
          have qE : (E != E) = false := by simp
          clear hE0
          go_wp2_with fail
          refine (HNX.out wr).mono ?_
          rintro e w8 hw
          obtain ⟨_, rfl, b8⟩ := hw.resolve_right (fun q => HE0.out q.1)
          have HO8 : Hid (Only (newB w1 w3) w5 w8) := HOF.out.trans (Only.of_below b8)
          clear hw b8
          go_wp2_with fail
          refine (HNY.out w8).mono ?_
          rintro e w9 hw
          obtain ⟨_, rfl, b9⟩ := hw.resolve_right (fun q => HE0.out q.1)
          have HO9 : Hid (Only (newB w1 w3) w5 w9) := HO8.out.trans (Only.of_below b9)
          clear hw b9
          go_wp2_with fail
          refine (lives_any w9).mono ?_
          rintro e w10 ⟨rfl, b10⟩
          have HO10 : Hid (Only (newB w1 w3) w5 w10) := HO9.out.trans (Only.of_below b10)
          clear b10
          go_wp2_with fail
          go_ret
          exact ⟨rfl, HFINB.out _ HO10.out⟩

end Go.Proofs.YtkehgoailhpenaaGreat
