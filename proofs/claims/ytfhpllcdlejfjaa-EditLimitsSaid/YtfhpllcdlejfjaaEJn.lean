/- The contract of the reference's joined. Conditions: lists of at most 1000 edits, with offsets from 0 to 10000000 and texts of at most 100000 bytes. -/
import Derived.Test.YtfhpllcdlejfjaaEVs
import Derived.Test.YtfhpllcdlejfjaaEFw
import Derived.Test.YtfhpllcdlejfjaaECp
import Derived.BigQuiet
import Derived.BigRegion
import Derived.Deep.QuietTactic
namespace Go.Proofs.Ytfhpllcdlejfjaa
open Go.RowKit Go.Shelf
set_option linter.unusedVariables false

/-- The edits with neighbors joined; c is the last one so far. -/
def jnE (c : Er) : List Er → List Er
  | [] => [c]
  | e :: l => if c.t = e.f then jnE ⟨c.f, e.t, c.x ++ e.x⟩ l else c :: jnE e l
def jnS : List Er → List Er
  | [] => []
  | e :: l => jnE e l
theorem jnE_ees : ∀ (l : List Er) (c : Er), 0 ≤ c.f → 0 ≤ c.t → (∀ e ∈ l, 0 ≤ e.f ∧ 0 ≤ e.t) → ees (jnE c l) = jn (c.ee sb) (ees l) ∧ ∀ e ∈ jnE c l, 0 ≤ e.f ∧ 0 ≤ e.t := by
  intro l
  induction l with
  | nil => intro c h1 h2 _; refine ⟨rfl, fun e he => ?_⟩; simp only [jnE, List.mem_singleton] at he; subst he; exact ⟨h1, h2⟩
  | cons e l ih =>
    intro c h1 h2 h
    have h0 := h e (by simp)
    have hl := fun x (hx : x ∈ l) => h x (by simp [hx])
    rw [ees_cons]
    simp only [jnE, jn]
    by_cases hc : c.t = e.f
    · rw [if_pos hc, if_pos (by show c.t.toNat = e.f.toNat; rw [hc])]
      have := ih ⟨c.f, e.t, c.x ++ e.x⟩ h1 h0.2 hl
      refine ⟨this.1.trans ?_, this.2⟩
      simp only [Er.ee, sb_add]
    · rw [if_neg hc, if_neg (by show ¬ c.t.toNat = e.f.toNat; omega)]
      have := ih e h0.1 h0.2 hl
      refine ⟨by rw [ees_cons, this.1], fun x hx => ?_⟩
      rcases List.mem_cons.1 hx with rfl | hx
      · exact ⟨h1, h2⟩
      · exact this.2 x hx
theorem jnS_eq {l : List Er} (h : ∀ e ∈ l, 0 ≤ e.f ∧ 0 ≤ e.t) : jnS l = ers (joinl (ees l)) := by
  cases l with
  | nil => rfl
  | cons e l =>
    have h0 := h e (by simp)
    have := jnE_ees l e h0.1 h0.2 (fun x hx => h x (by simp [hx]))
    rw [ees_cons]
    simp only [jnS, joinl]
    rw [← this.1, ers_ees this.2]
theorem rvs_t (fs : List Er) (c : Er) (y : Int) : (rv (fs ++ [c])).set (fs.length * 3 + 1) (.int .i64 y) = rv (fs ++ [⟨c.f, y, c.x⟩]) := by
  rw [rv_snoc, rv_snoc, ← rv_len, List.set_append_right _ _ (Nat.le_add_right _ _), Nat.add_sub_cancel_left]; rfl
theorem rvs_x (fs : List Er) (c : Er) (z : ByteArray) : (rv (fs ++ [c])).set (fs.length * 3 + 2) (.string z) = rv (fs ++ [⟨c.f, c.t, z⟩]) := by
  rw [rv_snoc, rv_snoc, ← rv_len, List.set_append_right _ _ (Nat.le_add_right _ _), Nat.add_sub_cancel_left]; rfl
theorem rvs_at (fs : List Er) (c : Er) (i : Nat) (hi : i < 3) : (rv (fs ++ [c]))[fs.length * 3 + i]? = c.vals[i]? := by
  rw [rv_snoc, ← rv_len, List.getElem?_append_right (Nat.le_add_right _ _), Nat.add_sub_cancel_left]
/-- The list so far: the first k edits are joined. -/
def Jst (R es : List Er) (k : Nat) (acc : List Er) : Prop :=
  (k = 0 ∧ acc = []) ∨ ∃ pre c, acc = pre ++ [c] ∧ R = pre ++ jnE c (es.drop k) ∧ pre.length < k ∧ c.x.size ≤ 100000 * k ∧ 0 ≤ c.t ∧ c.t ≤ 10000000

set_option maxRecDepth 100000 in
set_option maxHeartbeats 4000000 in
theorem joined_any (a : Option Addr) (cap : Nat) (es : List Er) (w : World) (hn : es.length ≤ 1000) (hpos : ∀ e ∈ es, 0 ≤ e.f ∧ e.f ≤ 10000000 ∧ 0 ≤ e.t ∧ e.t ≤ 10000000) (hx : ∀ e ∈ es, e.x.size ≤ 100000) (hS : ES w.heap.size w a cap es) :
    Calls Try.prog 66 #[.slice a es.length cap] w fun e w' => ∃ a' c', e = .returned (.slice a' (jnS es).length c') ∧ ES w'.heap.size w' a' c' (jnS es) ∧ Below w.heap.size w w' := by
  obtain ⟨i3, hi3, jy0, jy1, jy2⟩ := info_parts infoEd
  obtain ⟨n, hn'⟩ : ∃ n, es.length = n := ⟨_, rfl⟩
  obtain ⟨B, hB⟩ : ∃ B, w.heap.size = B := ⟨_, rfl⟩
  obtain ⟨R, hR⟩ : ∃ R, jnS es = R := ⟨_, rfl⟩
  have hcap := hS.le
  have hmx := hS.mx
  obtain ⟨b, addr, hab, hcell⟩ := hS.cells.core
  rw [hn'] at hn hcap hab hcell ⊢
  rw [hB] at hab
  rw [hR]
  have HE := Lib.hid hn'; have HAB := Lib.hid hab; have HC := Lib.hid hcell; have HB := Lib.hid hB; have HP := Lib.hid hpos; have HX := Lib.hid hx; have HRR := Lib.hid hR
  have H0 : Hid (Jst R es 0 []) := .inl ⟨rfl, rfl⟩
  have HO0 : Hid (w.ownsRow B 32 3 (.slice none 0 0) ([] : List Er).length (rv [])) := World.ownsRow_nil _ _ _ _
  have HB0 : Hid (Below B w w) := by rw [← hB]; exact Below.refl _ _
  clear hS hab hcell hB hn' hpos hx hR
  go_enter Try.func66, Try.ntmps66
  go_wp2_with fail
  go_loopw [3, 4] (fun u q wr => ∃ (k : Nat) (acc : List Er), k ≤ n ∧ q = .int .i64 (k : Int) ∧ Hid (Jst R es k acc) ∧ Hid (wr.ownsRow B 32 3 u acc.length (rv acc)) ∧ Hid (Below B w wr)) (fun _ q _ => n - (intOf q).toNat)
  case atStart => exact ⟨0, [], by omega, rfl, H0, HO0, HB0⟩
  case round =>
    obtain ⟨k, acc, hk, rfl, HI, HO, HR⟩ := hrel
    by_cases hlt : k < n
    · obtain ⟨ha, hbB⟩ := HAB.out.resolve_left (by omega)
      subst ha
      have hkl : k < es.length := by rw [HE.out]; exact hlt
      obtain ⟨c0, c1, c2⟩ := HC.out k hlt wr (HR.out.block b hbB)
      have hkk : (k : Int) < (n : Int) := by omega
      obtain ⟨p0, p1, p2, p3⟩ := HP.out _ (eg_mem hkl)
      have hxl := HX.out _ (eg_mem hkl)
      obtain ⟨x, hx1⟩ : ∃ x, (eg es k).f = x := ⟨_, rfl⟩
      obtain ⟨y, hy1⟩ : ∃ y, (eg es k).t = y := ⟨_, rfl⟩
      obtain ⟨z, hz1⟩ : ∃ z, (eg es k).x = z := ⟨_, rfl⟩
      have hst : eg es k = ⟨x, y, z⟩ := by rw [← hx1, ← hy1, ← hz1]
      rw [hx1] at c0 p0 p1
      rw [hy1] at c1 p2 p3
      rw [hz1] at c2 hxl
      have HST := Lib.hid hst
      have hBr : B ≤ wr.heap.size := by have := HR.out.size; have := HB.out; omega
      clear hst hx1 hy1 hz1
      rcases HI.out with ⟨rfl, rfl⟩ | ⟨pre, ⟨cf, ct, cx⟩, rfl, hR, hpl, hcx, ht0, ht1⟩
      · obtain ⟨A, cA, rfl⟩ := own_slice HO.out
        have hk1 : ¬ (0 : Int) < ((0 : Nat) : Int) := by omega
        have hkk0 : (0 : Int) < (n : Int) := by omega
        simp only [Nat.zero_mul, Nat.add_zero] at c0 c1 c2
        go_wp2_with fail
        go_quiet (fail)
        have HOD : Hid (wr.drew.ownsRow B 32 3 (.slice A 0 cA) 0 (rv [])) := own_same HO.out (fun g _ => rfl)
        go_wp2_with (at_builtin; refine wpList_append_own _ rfl _ _ 22 rfl B 32 i3 (.agg #[.int .i64 0, .int .i64 0, .string ⟨#[]⟩]) 3 32 Try.underlying22 hi3 jy0 jy1 jy2 rfl (by decide) (.slice A 0 cA) 0 (rv []) rfl (HOD.out.alloc _) ⟨_, 0, none⟩ 1 1 [.int .i64 x, .int .i64 y, .string z] rfl rfl (cells_newb _ [.int .i64 x, .int .i64 y, .string z] _ _ (by simp; try omega)) (fun x hx => by simp at hx; rcases hx with rfl | rfl | rfl <;> rfl) (by unfold maxLen; omega) (by omega) (by simp; omega) ?_; intro v' w6 hown6 hgrow6 _)
        have HRV : Hid (rv ([] ++ [(⟨x, y, z⟩ : Er)]) = rv [] ++ [.int .i64 x, .int .i64 y, .string z]) := rv_snoc _ _
        have HO6 : Hid (w6.ownsRow B 32 3 v' (([] : List Er) ++ [(⟨x, y, z⟩ : Er)]).length (rv ([] ++ [(⟨x, y, z⟩ : Er)]))) := by rw [HRV.out]; exact hown6
        have H6 : Hid (Below B w w6) := ((below_drewN HR.out _).alloc hBr _).grown hgrow6 (by simp; omega) (fun g eg => (HO.out.lt g eg).1)
        have HJ : Hid (Jst R es (0 + 1) ([] ++ [(⟨x, y, z⟩ : Er)])) := by
          refine .inr ⟨[], ⟨x, y, z⟩, rfl, ?_, by simp, by simp only; omega, p2, p3⟩
          have := HRR.out
          rw [show es = es.drop 0 from rfl, eg_drop hkl, HST.out] at this
          exact this.symm
        clear hown6 hgrow6
        go_wp2
        go_roundw
        case rel => exact ⟨0 + 1, _, by omega, by go_num, HJ, HO6, H6⟩
        case measure => simp [intOf]; omega
      · simp only at hcx ht0 ht1
        obtain ⟨j, hj⟩ : ∃ j, pre.length = j := ⟨_, rfl⟩
        have hown := HO.out
        have hm : (pre ++ [(⟨cf, ct, cx⟩ : Er)]).length = j + 1 := by rw [List.length_append, hj]; rfl
        rw [hm] at hown
        obtain ⟨A, cA, rfl⟩ := own_slice hown
        obtain ⟨g, cA', hAg⟩ := ownsRow_succ hown
        simp only [Value.slice.injEq, true_and] at hAg
        obtain ⟨rfl, rfl⟩ := hAg
        have hgB : B ≤ g := (row_lt hown).1
        obtain ⟨m, hmj⟩ : ∃ m, j + 1 = m := ⟨_, rfl⟩
        rw [hmj] at hown hm ⊢
        have hd : ∀ i, i < 3 → wr.cell? ⟨g, j * 3 + i, none⟩ = (⟨cf, ct, cx⟩ : Er).vals[i]? := fun i hi => by
          rw [hown.cellAt (j * 3 + i) (by omega), ← hj]; exact rvs_at pre _ i hi
        have d1 : wr.cell? ⟨g, j * 3 + 1, none⟩ = some (.int .i64 ct) := hd 1 (by omega)
        have d2 : wr.cell? ⟨g, j * 3 + 2, none⟩ = some (.string cx) := hd 2 (by omega)
        have e1 : wr.frozen? ⟨g, j * 3 + 1, none⟩ = false := hown.frozenAt (j * 3 + 1)
        have hk1 : (0 : Int) < (m : Int) := by omega
        have hdk : decide ((0 : Int) < (m : Int)) = true := by simp only [decide_eq_true_eq]; omega
        have hdn : decide (0 < m) = true := by simp only [decide_eq_true_eq]; omega
        have hj1 : IntKind.i64.wrap ((m : Int) - 1) = (j : Int) := by simp [IntKind.wrap, IntKind.signed, IntKind.bits]; omega
        have hj2 : (j : Int) < (m : Int) := by omega
        have hcap2 : m ≤ cA := by
          rcases hown.2 with ⟨hv, _⟩ | ⟨g', cp, cur, hv, _, _, h1, _⟩
          · simp at hv
          · simp only [Value.slice.injEq] at hv; omega
        have hmn : m ≤ 1000 := by omega
        have hmk : m ≤ k := by omega
        have HMJ := Lib.hid hmj
        have HOw := Lib.hid hown; have HM := Lib.hid hm; have HJ := Lib.hid hj; have HRc := Lib.hid hR
        clear hd hown hm hj hR hmj
        have HOD : Hid (wr.drew.ownsRow B 32 3 (.slice (some ⟨g, 0, none⟩) m cA) m (rv (pre ++ [(⟨cf, ct, cx⟩ : Er)]))) := own_same HOw.out (fun g _ => rfl)
        by_cases hq : ct = x
        · have hq1 : (ct == x) = true := by simp [hq]
          have hs1 : cx.size + z.size ≤ 9223372036854775807 := by omega
          have HQ := Lib.hid hq
          clear hq
          go_wp2_with fail
          go_quiet (fail)
          go_wp2_with fail
          obtain ⟨W1, hW1⟩ : ∃ W, (wr.drewN nq).setCell ⟨g, j * 3 + 1, none⟩ (.int .i64 y) = W := ⟨_, rfl⟩
          have o1 := ((own_same HOw.out (fun g _ => rfl) : World.ownsRow (wr.drewN nq) _ _ _ _ _ _).stored (j * 3 + 1) (.int .i64 y)).1
          rw [hW1, ← HJ.out, rvs_t] at o1
          simp only at o1
          have bl1 : Below B w W1 := by rw [← hW1]; exact (below_drewN HR.out _).setCell (p := ⟨g, j * 3 + 1, none⟩) hgB _
          obtain ⟨_, _, c6⟩ := HC.out k hlt W1 (bl1.block b hbB)
          rw [HST.out] at c6
          have d6 : W1.cell? ⟨g, j * 3 + 2, none⟩ = some (.string cx) := by
            rw [o1.cellAt (j * 3 + 2) (by omega), ← HJ.out]; exact rvs_at pre _ 2 (by omega)
          have e6 : W1.frozen? ⟨g, j * 3 + 2, none⟩ = false := o1.frozenAt (j * 3 + 2)
          have HO1 := Lib.hid o1; have HB1 := Lib.hid bl1; have HW1 := Lib.hid hW1
          clear o1 bl1 hW1
          rw [HW1.out]
          go_region
          go_wp2_with fail
          have HO7 : Hid ((W1.drew.setCell ⟨g, j * 3 + 2, none⟩ (.string (cx ++ z))).ownsRow B 32 3 (.slice (some ⟨g, 0, none⟩) m cA) (pre ++ [(⟨cf, y, cx ++ z⟩ : Er)]).length (rv (pre ++ [(⟨cf, y, cx ++ z⟩ : Er)]))) := by
            have := ((own_same HO1.out (fun g _ => rfl) : World.ownsRow W1.drew _ _ _ _ _ _).stored (j * 3 + 2) (.string (cx ++ z))).1
            rw [← HJ.out, rvs_x] at this
            simp only [HJ.out] at this
            rw [List.length_append, HJ.out, show j + [(⟨cf, y, cx ++ z⟩ : Er)].length = m from HMJ.out]
            exact this
          have H7 : Hid (Below B w (W1.drew.setCell ⟨g, j * 3 + 2, none⟩ (.string (cx ++ z)))) := HB1.out.drew.setCell (p := ⟨g, j * 3 + 2, none⟩) hgB _
          have HJ7 : Hid (Jst R es (k + 1) (pre ++ [(⟨cf, y, cx ++ z⟩ : Er)])) := by
            refine .inr ⟨pre, _, rfl, ?_, by omega, by simp only [ByteArray.size_append]; omega, p2, p3⟩
            have := HRc.out
            rw [eg_drop hkl, HST.out] at this
            simp only [jnE] at this
            rw [if_pos HQ.out] at this
            exact this
          go_roundw
          case rel => exact ⟨k + 1, _, by omega, by go_num, HJ7, HO7, H7⟩
          case measure => simp [intOf]; omega
        · have hq1 : (ct == x) = false := by simp [hq]
          have HQ := Lib.hid hq
          clear hq
          go_wp2_with fail
          go_quiet (fail)
          go_wp2_with (at_builtin; refine wpList_append_own _ rfl _ _ 22 rfl B 32 i3 (.agg #[.int .i64 0, .int .i64 0, .string ⟨#[]⟩]) 3 32 Try.underlying22 hi3 jy0 jy1 jy2 rfl (by decide) (.slice (some ⟨g, 0, none⟩) m cA) m (rv (pre ++ [(⟨cf, ct, cx⟩ : Er)])) rfl (HOD.out.alloc _) ⟨_, 0, none⟩ 1 1 [.int .i64 x, .int .i64 y, .string z] rfl rfl (cells_newb _ [.int .i64 x, .int .i64 y, .string z] _ _ (by simp; try omega)) (fun x hx => by simp at hx; rcases hx with rfl | rfl | rfl <;> rfl) (by unfold maxLen; omega) (by omega) (by simp; omega) ?_; intro v' w6 hown6 hgrow6 _)
          have HRV : Hid (rv ((pre ++ [(⟨cf, ct, cx⟩ : Er)]) ++ [(⟨x, y, z⟩ : Er)]) = rv (pre ++ [(⟨cf, ct, cx⟩ : Er)]) ++ [.int .i64 x, .int .i64 y, .string z]) := rv_snoc _ _
          have HO6 : Hid (w6.ownsRow B 32 3 v' ((pre ++ [(⟨cf, ct, cx⟩ : Er)]) ++ [(⟨x, y, z⟩ : Er)]).length (rv ((pre ++ [(⟨cf, ct, cx⟩ : Er)]) ++ [(⟨x, y, z⟩ : Er)]))) := by
            rw [HRV.out, List.length_append, HM.out]; exact hown6
          have H6 : Hid (Below B w w6) := ((below_drewN HR.out _).alloc hBr _).grown hgrow6 (by simp; omega) (fun g eg => (HOD.out.lt g eg).1)
          have HJ2 : Hid (Jst R es (k + 1) ((pre ++ [(⟨cf, ct, cx⟩ : Er)]) ++ [(⟨x, y, z⟩ : Er)])) := by
            refine .inr ⟨pre ++ [(⟨cf, ct, cx⟩ : Er)], ⟨x, y, z⟩, rfl, ?_, by rw [HM.out]; omega, by simp only; omega, p2, p3⟩
            have := HRc.out
            rw [eg_drop hkl, HST.out] at this
            simp only [jnE] at this
            rw [if_neg HQ.out] at this
            rw [this]; simp
          clear hown6 hgrow6
          go_wp2
          go_roundw
          case rel => exact ⟨k + 1, _, by omega, by go_num, HJ2, HO6, H6⟩
          case measure => simp [intOf]; omega
    · obtain rfl : n = k := by omega
      have hRa : R = acc := by
        rcases HI.out with ⟨rfl, rfl⟩ | ⟨pre, c, rfl, hR, _⟩
        · have := HE.out
          rw [← HRR.out, List.length_eq_zero_iff.1 this]; rfl
        · rw [hR, List.drop_eq_nil_of_le (by rw [HE.out]; omega)]; rfl
      subst hRa
      obtain ⟨_, ao, co, rfl, hES⟩ := es_of_own HO.out
      have HES := Lib.hid hES
      clear hES
      go_wp2
      go_ret
      exact ⟨ao, co, rfl, HES.out, by rw [HB.out]; exact HR.out⟩

end Go.Proofs.Ytfhpllcdlejfjaa
