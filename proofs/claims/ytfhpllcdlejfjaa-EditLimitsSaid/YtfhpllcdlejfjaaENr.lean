/- The contracts of the reference's normal and Normal. Conditions: texts of at most 10000000 bytes, lists of at most 1000 edits. -/
import Derived.Test.YtfhpllcdlejfjaaEJn
import Derived.Test.YtfhpllcdlejfjaaENp
namespace Go.Proofs.Ytfhpllcdlejfjaa
open Go.RowKit Go.Shelf
set_option linter.unusedVariables false

/-- The edit changes something. -/
def chE (s : ByteArray) (e : Er) : Bool := (s.extract e.f.toNat e.t.toNat).toList != e.x.toList
def nrS (s : ByteArray) (es : List Er) : List Er := (jnS es).filter (chE s)
theorem chE_eq (s : ByteArray) (e : Er) : chE s e = Chg (sb s) (e.ee sb) := by
  unfold chE Chg Er.ee
  rw [← sb_cut]
  by_cases h : s.extract e.f.toNat e.t.toNat = e.x
  · simp [h]
  · have h1 : sb (s.extract e.f.toNat e.t.toNat) ≠ sb e.x := fun k => h (sb_inj k)
    have h2 := str_ne h
    simp only [bne, h2, Bool.not_false]
    exact (decide_eq_true h1).symm
theorem filt_ers {s : ByteArray} : ∀ {l : List Er}, (∀ e ∈ l, 0 ≤ e.f ∧ 0 ≤ e.t) → l.filter (chE s) = ers ((ees l).filter (Chg (sb s))) := by
  intro l
  induction l with
  | nil => intro _; rfl
  | cons e l ih =>
    intro h
    have hl := ih (fun x hx => h x (by simp [hx]))
    have h0 := ers_ees (l := [e]) (by intro x hx; simp only [List.mem_singleton] at hx; subst hx; exact h x (by simp))
    rw [ees_cons, List.filter_cons, List.filter_cons, chE_eq, hl]
    split
    · have : er (e.ee sb) = e := by simpa [ers, ees] using h0
      simp only [ers, List.map_cons, this]
    · rfl
theorem jnS_pos {l : List Er} (h : ∀ e ∈ l, 0 ≤ e.f ∧ 0 ≤ e.t) : ∀ e ∈ jnS l, 0 ≤ e.f ∧ 0 ≤ e.t := by
  cases l with
  | nil => intro e he; simp [jnS] at he
  | cons e l => exact (jnE_ees l e (h e (by simp)).1 (h e (by simp)).2 (fun x hx => h x (by simp [hx]))).2
theorem jnS_ees {l : List Er} (h : ∀ e ∈ l, 0 ≤ e.f ∧ 0 ≤ e.t) : ees (jnS l) = joinl (ees l) := by
  cases l with
  | nil => rfl
  | cons e l => exact (jnE_ees l e (h e (by simp)).1 (h e (by simp)).2 (fun x hx => h x (by simp [hx]))).1
theorem nrS_eq {s : ByteArray} {l : List Er} (h : ∀ e ∈ l, 0 ≤ e.f ∧ 0 ≤ e.t) : nrS s l = ers (norml (sb s) (ees l)) := by
  unfold nrS norml
  rw [filt_ers (jnS_pos h), jnS_ees h]
theorem jnE_len : ∀ (l : List Er) (c : Er), (jnE c l).length ≤ l.length + 1 := by
  intro l
  induction l with
  | nil => intro c; exact Nat.le_refl _
  | cons e l ih =>
    intro c
    simp only [jnE]
    split
    · have := ih ⟨c.f, e.t, c.x ++ e.x⟩; simp only [List.length_cons]; omega
    · have := ih e; simp only [List.length_cons]; omega
theorem jnS_len (l : List Er) : (jnS l).length ≤ l.length := by
  cases l with
  | nil => exact Nat.le_refl _
  | cons e l => exact jnE_len l e
theorem filter_take {f : Er → Bool} {l : List Er} {k : Nat} (h : k < l.length) : (l.take (k + 1)).filter f = (l.take k).filter f ++ (if f (eg l k) then [eg l k] else []) := by
  rw [take_eg h, List.filter_append, List.filter_cons]
  rfl

set_option maxRecDepth 100000 in
set_option maxHeartbeats 4000000 in
theorem normal_any (s : ByteArray) (a : Option Addr) (cap : Nat) (es : List Er) (w : World) (hs : s.size ≤ 10000000) (hn : es.length ≤ 1000) (hv : Vld s.size 0 (ees es)) (hp : ∀ e ∈ es, 0 ≤ e.f ∧ 0 ≤ e.t) (hx : ∀ e ∈ es, e.x.size ≤ 100000) (hS : ES w.heap.size w a cap es) :
    Calls Try.prog 44 #[.string s, .slice a es.length cap] w fun e w' => ∃ a' c', e = .returned (.slice a' (nrS s es).length c') ∧ ES w'.heap.size w' a' c' (nrS s es) ∧ Below w.heap.size w w' := by
  obtain ⟨i3, hi3, jy0, jy1, jy2⟩ := info_parts infoEd
  have hmem := Vld.mem hv
  have hpos : ∀ e ∈ es, 0 ≤ e.f ∧ e.f ≤ 10000000 ∧ 0 ≤ e.t ∧ e.t ≤ 10000000 := by
    intro e he
    have h1 := hp e he
    have h2 := hmem (e.ee sb) (List.mem_map.2 ⟨e, he, rfl⟩)
    simp only [Er.ee] at h2
    omega
  have cJ := joined_any a cap es w hn hpos hx hS
  have jl := jnS_len es
  have jv : ∀ e ∈ jnS es, 0 ≤ e.f ∧ e.f ≤ e.t ∧ e.t ≤ (s.size : Int) := by
    have h1 := jnS_pos hp
    have h2 := Vld.mem (joinl_vld hv)
    intro e he
    have h3 := h1 e he
    have h4 := h2 (e.ee sb) (by rw [← jnS_ees hp]; exact List.mem_map.2 ⟨e, he, rfl⟩)
    simp only [Er.ee] at h4
    omega
  have hnr : (jnS es).filter (chE s) = nrS s es := rfl
  obtain ⟨J, hJ⟩ : ∃ J, jnS es = J := ⟨_, rfl⟩
  obtain ⟨R, hR⟩ : ∃ R, nrS s es = R := ⟨_, rfl⟩
  obtain ⟨B, hB⟩ : ∃ B, w.heap.size = B := ⟨_, rfl⟩
  rw [hJ, hR] at hnr
  rw [hJ] at cJ jl jv
  rw [hR, hB]
  rw [hB] at cJ
  obtain ⟨n0, hn0⟩ : ∃ n, es.length = n := ⟨_, rfl⟩
  rw [hn0] at cJ jl hn ⊢
  obtain ⟨n, hn'⟩ : ∃ n, J.length = n := ⟨_, rfl⟩
  rw [hn'] at cJ jl
  have HE := Lib.hid hn'; have CJ := Lib.hid cJ; have HV := Lib.hid jv; have HNR := Lib.hid hnr
  clear hmem hpos cJ jv hnr hJ hR hS hv hp hx hn0 hn'
  go_enter Try.func44, Try.ntmps44
  go_wp2_with fail
  refine CJ.out.mono ?_
  rintro e w1 ⟨aj, cj, rfl, hJS, hb1⟩
  obtain ⟨B1, hB1⟩ : ∃ B, w1.heap.size = B := ⟨_, rfl⟩
  have hcap := hJS.le
  have hmx := hJS.mx
  obtain ⟨b, addr, hab, hcell⟩ := hJS.cells.core
  rw [HE.out] at hab hcell hcap
  rw [hB1] at hab
  have hBB : B ≤ B1 := by have := hb1.size; omega
  have HAB := Lib.hid hab; have HC := Lib.hid hcell; have HB1 := Lib.hid hb1
  have H0 : Hid (((J.take 0).filter (chE s)) = ([] : List Er)) := rfl
  have HO0 : Hid (w1.ownsRow B1 32 3 (.slice none 0 0) ([] : List Er).length (rv [])) := World.ownsRow_nil _ _ _ _
  have HB0 : Hid (Below B1 w1 w1) := by rw [← hB1]; exact Below.refl _ _
  have HZ1 : Hid (w1.heap.size = B1) := hB1
  clear hJS hab hcell hb1 hB1 CJ
  go_wp2_with fail
  go_loopw [6, 7] (fun u q wr => ∃ (k : Nat) (acc : List Er), k ≤ n ∧ acc.length ≤ k ∧ q = .int .i64 (k : Int) ∧ Hid ((J.take k).filter (chE s) = acc) ∧ Hid (wr.ownsRow B1 32 3 u acc.length (rv acc)) ∧ Hid (Below B1 w1 wr)) (fun _ q _ => n - (intOf q).toNat)
  case atStart => exact ⟨0, [], by omega, by simp, rfl, H0, HO0, HB0⟩
  case round =>
    obtain ⟨k, acc, hk, hal, rfl, HI, HO, HR⟩ := hrel
    obtain ⟨m, hm⟩ : ∃ m, acc.length = m := ⟨_, rfl⟩
    rw [hm] at HO hal
    have HM := Lib.hid hm
    clear hm
    obtain ⟨A, cA, rfl⟩ := own_slice HO.out
    by_cases hlt : k < n
    · obtain ⟨ha, hbB⟩ := HAB.out.resolve_left (by omega)
      subst ha
      have hkl : k < J.length := by rw [HE.out]; exact hlt
      obtain ⟨c0, c1, c2⟩ := HC.out k hlt wr (HR.out.block b hbB)
      have hkk : (k : Int) < (n : Int) := by omega
      obtain ⟨v0, v1, v2⟩ := HV.out _ (eg_mem hkl)
      obtain ⟨x, hx1⟩ : ∃ x : Nat, (eg J k).f = (x : Int) := ⟨(eg J k).f.toNat, by omega⟩
      obtain ⟨y, hy1⟩ : ∃ y : Nat, (eg J k).t = (y : Int) := ⟨(eg J k).t.toNat, by omega⟩
      obtain ⟨z, hz1⟩ : ∃ z, (eg J k).x = z := ⟨_, rfl⟩
      have hst : eg J k = ⟨x, y, z⟩ := by rw [← hx1, ← hy1, ← hz1]
      rw [hx1] at c0 v0 v1
      rw [hy1] at c1 v1 v2
      rw [hz1] at c2
      obtain ⟨o, ho⟩ : ∃ o, s.extract x y = o := ⟨_, rfl⟩
      have hch : chE s (eg J k) = (o.toList != z.toList) := by rw [hst]; unfold chE; simp only [Int.toNat_natCast, ho]
      have hft := filter_take (f := chE s) hkl
      rw [HI.out, hch, hst] at hft
      have HST := Lib.hid hst; have HF := Lib.hid hft
      have hBr : B1 ≤ wr.heap.size := by have := HR.out.size; have := HZ1.out; omega
      clear hst hx1 hy1 hz1 hch hft
      by_cases hq : o = z
      · have hq2 : (o.toList == z.toList) = true := by rw [hq]; simp
        have hq1 : (o.toList != z.toList) = false := by rw [hq]; simp
        have HF2 := HF.out
        rw [hq1] at HF2
        have H2 : Hid ((J.take (k + 1)).filter (chE s) = acc) := Lib.hid (by rw [HF2]; simp)
        clear HF2 hq
        go_wp2_with fail
        go_quiet (fail)
        go_wp2
        go_roundw
        case rel => exact ⟨k + 1, acc, by omega, by rw [HM.out]; omega, by go_num, H2, by rw [HM.out]; exact own_same HO.out (fun g _ => rfl), below_drewN HR.out _⟩
        case measure => simp [intOf]; omega
      · have hq2 : (o.toList == z.toList) = false := str_ne hq
        have hq1 : (o.toList != z.toList) = true := by simp only [bne, hq2, Bool.not_false]
        have HF2 := HF.out
        rw [hq1] at HF2
        have H2 : Hid ((J.take (k + 1)).filter (chE s) = acc ++ [(⟨x, y, z⟩ : Er)]) := Lib.hid (by rw [HF2]; simp)
        have HOD : Hid (wr.drew.ownsRow B1 32 3 (.slice A m cA) m (rv acc)) := own_same HO.out (fun g _ => rfl)
        clear HF2 hq
        go_wp2_with fail
        go_quiet (fail)
        go_wp2_with (at_builtin; refine wpList_append_own _ rfl _ _ 22 rfl B1 32 i3 (.agg #[.int .i64 0, .int .i64 0, .string ⟨#[]⟩]) 3 32 Try.underlying22 hi3 jy0 jy1 jy2 rfl (by decide) (.slice A m cA) m (rv acc) rfl (HOD.out.alloc _) ⟨_, 0, none⟩ 1 1 [.int .i64 (x : Int), .int .i64 (y : Int), .string z] rfl rfl (cells_newb _ [.int .i64 (x : Int), .int .i64 (y : Int), .string z] _ _ (by simp; try omega)) (fun x hx => by simp at hx; rcases hx with rfl | rfl | rfl <;> rfl) (by unfold maxLen; omega) (by omega) (by simp; omega) ?_; intro v' w6 hown6 hgrow6 _)
        have HRV : Hid (rv (acc ++ [(⟨x, y, z⟩ : Er)]) = rv acc ++ [.int .i64 (x : Int), .int .i64 (y : Int), .string z]) := rv_snoc _ _
        have HL : Hid ((acc ++ [(⟨x, y, z⟩ : Er)]).length = m + 1) := by rw [List.length_append, HM.out]; exact rfl
        have HO6 : Hid (w6.ownsRow B1 32 3 v' (acc ++ [(⟨x, y, z⟩ : Er)]).length (rv (acc ++ [(⟨x, y, z⟩ : Er)]))) := by
          rw [HRV.out, HL.out]; exact hown6
        have H6 : Hid (Below B1 w1 w6) := ((below_drewN HR.out _).alloc hBr _).grown hgrow6 (by simp; omega) (fun g eg => (HOD.out.lt g eg).1)
        clear hown6 hgrow6
        go_wp2
        go_roundw
        case rel => exact ⟨k + 1, _, by omega, by rw [HL.out]; omega, by go_num, H2, HO6, H6⟩
        case measure => simp [intOf]; omega
    · obtain rfl : n = k := by omega
      have hRa : R = acc := by
        have := HI.out
        rw [List.take_of_length_le (by rw [HE.out]; exact Nat.le_refl _), HNR.out] at this
        exact this
      subst hRa
      have hown := HO.out
      rw [← HM.out] at hown
      obtain ⟨_, ao, co, hv, hES⟩ := es_of_own hown
      have HES := Lib.hid hES
      have HFB : Hid (Below B w wr) := HB1.out.trans (HR.out.mono hBB)
      have HV := Lib.hid hv
      clear hES hown hv
      go_wp2
      go_ret
      exact ⟨ao, co, by have := HV.out; rw [HM.out] at this ⊢; rw [← this]; rfl, HES.out, HFB.out⟩

set_option maxRecDepth 100000 in
set_option maxHeartbeats 2000000 in
theorem rnormal_any (s : ByteArray) (a : Option Addr) (cap : Nat) (es : List Er) (w : World) (hs : s.size ≤ 10000000) (hn : es.length ≤ 1000) (hfit : ∀ e ∈ es, e.Fit) (hS : ES w.heap.size w a cap es) :
    Calls Try.prog 33 #[.string s, .slice a es.length cap] w (NewES w (nmS s es) (vErr (s.size : Int) es)) := by
  have CV := Lib.hid (rvalid_any s a cap es w hs hn hfit hS)
  by_cases hv : vErr (s.size : Int) es = 0
  · obtain ⟨hlim, hvld, hpos⟩ := vErr_ok hv
    have hp : ∀ e ∈ es, 0 ≤ e.f ∧ 0 ≤ e.t := fun e he => by have := hpos e he; omega
    have hnm : nmS s es = nrS s es := by unfold nmS; rw [if_pos hv, nrS_eq hp]
    have CN : Hid (∀ W, Below w.heap.size w W → _) := Lib.hid (fun W (hW : Below w.heap.size w W) => normal_any s a cap es W hs hn hvld hp (fun e he => (hfit e he).x) (hS.on hW))
    rw [hnm, hv]
    rw [hv] at CV
    obtain ⟨R, hR⟩ : ∃ R, nrS s es = R := ⟨_, rfl⟩
    rw [hR] at CN ⊢
    obtain ⟨n, hn'⟩ : ∃ n, es.length = n := ⟨_, rfl⟩
    rw [hn'] at CN CV ⊢
    clear hS hfit hR hv hvld hpos hp hnm hn' hn hlim
    go_enter Try.func33, Try.ntmps33
    go_wp2_with fail
    refine CV.out.mono ?_
    rintro e w1 ⟨rfl, hb1⟩
    have HB1 := Lib.hid hb1
    clear hb1
    go_wp2_with fail
    refine (CN.out _ HB1.out).mono ?_
    rintro e w2 ⟨a2, c2, rfl, hE, hb2⟩
    have HES := Lib.hid hE
    have HB2 := Lib.hid (HB1.out.trans (hb2.mono HB1.out.size))
    clear hE hb2
    go_wp2
    go_ret2
    exact ⟨a2, c2, rfl, HES.out, HB2.out⟩
  · have hnm : nmS s es = [] := by unfold nmS; rw [if_neg hv]
    have HV := Lib.hid hv
    have hq : (vErr (s.size : Int) es != 0) = true := by simp [hv]
    generalize vErr (s.size : Int) es = er at CV HV hq hv ⊢
    obtain ⟨n, hn'⟩ : ∃ n, es.length = n := ⟨_, rfl⟩
    rw [hn'] at CV ⊢
    rw [hnm]
    clear hv hn' hS hfit hnm hn
    go_enter Try.func33, Try.ntmps33
    go_wp2_with fail
    refine CV.out.mono ?_
    rintro e w1 ⟨rfl, hb1⟩
    have HB1 := Lib.hid hb1
    clear hb1
    go_wp2
    go_ret2
    exact ⟨none, 0, rfl, ES.none _ _, HB1.out⟩

end Go.Proofs.Ytfhpllcdlejfjaa
