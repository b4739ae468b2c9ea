/- The iterator over the places of a tree: its visit, by induction on the depth. Conditions: trees of at most 100000 nodes and 1000000000 bytes. -/
import Derived.Test.YtfecajeenmnoeaaSVi
import Derived.Deep.RegionHeld3
namespace Go.Proofs.Ytfecajeenmnoeaa
open Go.RowKit Go.Shelf
set_option linter.unusedVariables false
attribute [local go_sem] Oper.semAt_some

/-- A row without its last element. -/
theorem own_cut {w : World} {b g q c : Nat} {e : TypeId} {xs ys : List Value} {v : Value} (h : w.ownsRow b e 1 (.slice (some ⟨g, 0, none⟩) (q + 1) c) (q + 1) ys) (hy : ys = xs ++ [v]) (hx : xs.length = q) : (q + 1 ≤ c ∧ c ≤ maxLen) ∧ w.ownsRow b e 1 (.slice (some ⟨g, 0, none⟩) q c) q xs := by
  rcases h.2 with ⟨h0, _⟩ | ⟨g', cap, cur, h0, h1, h2, h3, h4, h5, h6⟩
  · cases h0
  · simp only [Value.slice.injEq, Option.some.injEq, Addr.mk.injEq] at h0
    obtain ⟨⟨rfl, _⟩, _, rfl⟩ := h0
    refine ⟨⟨h3, h4⟩, by omega, .inr ⟨g, c, cur, rfl, h1, h2, by omega, h4, h5, ?_⟩⟩
    rw [hy] at h6
    have h7 := congrArg (List.take q) h6
    rw [List.take_take, List.take_left' hx] at h7
    rw [← h7]
    congr 1
    omega
/-- What a round over the places owes. -/
def YIv (l y : Nat) (ad : List Nat → Nat × Nat) (S : List Spot) (J : Nat → (Nat → Prop) → World → Prop) (St : (Nat → Prop) → World → Prop) : Prop :=
  ∀ k (hk : k < S.length) T W1 pv, y ≤ W1.heap.size → J k T W1 → W1.ownsRow y 3 1 pv S[k].path.length (ints S[k].path) → (∀ g, pv.ownBlock = some g → ¬ T g) →
    YieldAt Fence.wide 0 Try.prog l #[.agg #[.pointer (some ⟨(ad S[k].path).1, (ad S[k].path).2, none⟩), pv, .int .i64 (S[k].off : Int)]] W1 fun e W' => ∃ T', (e = .returned (.bool true) ∧ Rnd T T' W1 W' ∧ J (k + 1) T' W') ∨ (e = .returned (.bool false) ∧ Rnd (fun j => T j ∨ j = l) (fun j => T' j ∨ j = l) W1 W' ∧ St T' W')

set_option maxRecDepth 100000 in
set_option maxHeartbeats 4000000 in
theorem visit_any (l y : Nat) (ad : List Nat → Nat × Nat) (S : List Spot) (J : Nat → (Nat → Prop) → World → Prop) (St : (Nat → Prop) → World → Prop)
    (HO : Hid (∀ k T A C, J k T A → Oth T y A C → J k T C)) (HZ : Hid (∀ k T A, J k T A → ∀ j, T j → j < A.heap.size)) (HY : Hid (YIv l y ad S J St)) :
    ∀ (d : Nat) (t : Nd) (p : List Nat) (o k : Nat) (T : Nat → Prop) (pv : Value) (V : World), t.dep ≤ d → t.cnt ≤ 100000 → p.length + t.dep ≤ 100000 → o + t.pw ≤ 1000000000 →
      (∀ k T A, J k T A → SH A ad t p) → (∃ pre post, S = pre ++ spots t p o ++ post ∧ pre.length = k) → VSt l y J k T p o pv V →
      CallsIn Fence.wide 0 Try.prog 66 #[.pointer (some ⟨(ad p).1, (ad p).2, none⟩), .pointer (some ⟨y, 0, none⟩), .pointer (some ⟨y + 1, 0, none⟩), .pointer (some ⟨y + 2, 0, none⟩), .pointer (some ⟨y + 3, 0, none⟩)] V
        fun e V' => (e = .returned (.bool true) ∧ ∃ T' pv', VSt l y J (k + t.cnt) T' p (o + t.pw) pv' V') ∨ (e = .returned (.bool false) ∧ ∃ T', St T' V')
  | 0, t, p, o, k, T, pv, V, hd, hc, hpl, hw, hSh, hS, hV => by have := t.dep_eq; omega
  | d + 1, t, p, o, k, T, pv, V, hd, hc, hpl, hw, hSh, hS, hV => by
    obtain ⟨pre, post, hSe, hpre⟩ := hS
    have hse := spots_eq t p o
    obtain ⟨b, f, a, cap, had, hb, hle, hmx, hkad, hcell⟩ := (hSh _ _ _ hV.j).cells
    have hkS : k < S.length := by rw [hSe, List.length_append, List.length_append, spots_len, hpre]; have := t.cnt_eq; omega
    have hSk : S[k] = ⟨p, t, o⟩ := by
      have : S[k]? = some ⟨p, t, o⟩ := by
        rw [hSe, hse, List.append_assoc, List.getElem?_append_right (by omega), hpre, Nat.sub_self]; rfl
      exact (List.getElem?_eq_some_iff.1 this).2
    have hys := hV.size
    have hY := HY.out k hkS T V pv (by omega) hV.j
    rw [hSk] at hY
    have hY1 := hY (own_base2 hV.row (by omega)) hV.noR
    obtain ⟨pa, pc, rfl⟩ := own_slice hV.row
    dsimp only at hY1
    rw [had] at hY1 ⊢
    dsimp only at hY1 ⊢
    obtain ⟨fn, tmps, assign, body, hy, hR⟩ := hY1
    have HR := Lib.hid hR; have HV := Lib.hid hV; have HSH := Lib.hid hSh
    have cb := hV.box.cell; have cp := hV.path.cell; have co := hV.off.cell
    have HAD := Lib.hid had; have HSE := Lib.hid hSe; have HPRE := Lib.hid hpre
    have hpe := t.pw_eq; have hce := t.cnt_eq; have hde := t.dep_eq
    have hkl := t.kids_len
    have hkd : ∀ x ∈ t.kids, x.dep ≤ d ∧ x.cnt ≤ 100000 ∧ x.dep + 1 ≤ t.dep := fun x hx => by have := t.kid_dep hx; have := t.kid_cnt hx; omega
    have HKD := Lib.hid hkd
    obtain ⟨n, hn⟩ : ∃ n, t.kids.length = n := ⟨_, rfl⟩
    obtain ⟨q, hq⟩ : ∃ q, p.length = q := ⟨_, rfl⟩
    have hq5 : q ≤ 100000 := by omega
    have hn5 : n ≤ 100000 := by omega
    rw [hq] at cp hy
    have HN := Lib.hid hn; have HQ := Lib.hid hq
    have HPL := Lib.hid hpl; have HPE := Lib.hid hpe; have HCE := Lib.hid hce; have HW := Lib.hid hw
    clear hR hV hSh hcell hkad hY hse hSk hSe hpre had hpe hce hde hkl hkd hn hq hle hmx hb hd hc hpl hw
    refine callsIn_of_wp Try.func66 rfl trivial ?_ rfl
    simp only [Try.ntmps66, List.size_toArray, List.length_cons, List.length_nil, Nat.reduceAdd, Nat.reduceSub, Array.replicate_succ, Array.replicate_zero, List.push_toArray, List.append_toArray, List.nil_append, List.cons_append]
    gi_wp2
    refine ⟨rfl, HR.out.mono ?_⟩
    rintro e W4 ⟨T4, ⟨rfl, hr, hJ⟩ | ⟨rfl, hr, hJ⟩⟩
    · have HV4 : Hid (VSt l y J (k + 1) T4 p o (.slice pa p.length pc) W4) := HV.out.rnd hr hJ
      obtain ⟨b4, f4, a4, cap4, had4, hb4, hle4, hmx4, hkad4, hcell4⟩ := (HSH.out _ _ _ hJ).cells
      have hbf : b4 = b ∧ f4 = f := by
        have := had4.symm.trans HAD.out
        exact ⟨congrArg Prod.fst this, congrArg Prod.snd this⟩
      obtain ⟨rfl, rfl⟩ := hbf
      have HC4 := Lib.hid hcell4
      obtain ⟨d1, d2, d3⟩ := HC4.out W4 rfl
      have CL := Lib.hid (pisleaf_any t b4 f4 W4 d1)
      have co4 := HV4.out.off.cell
      have hfr := HV4.out.off.frozen
      rw [HN.out] at d3
      obtain ⟨tx, htx⟩ : ∃ x, t.text = x := ⟨_, rfl⟩
      obtain ⟨kd, hkd⟩ : ∃ x, t.kind = x := ⟨_, rfl⟩
      rw [htx] at d2
      rw [hkd] at d1
      have HTX := Lib.hid htx
      have hotx : t.leaf → o + tx.size ≤ 1000000000 := fun h => by
        have h1 := HPE.out; have h2 := HW.out
        rw [if_pos h, HTX.out] at h1; omega
      have HL : Hid (∃ o1, o1 = o + (if t.leaf then tx.size else 0) ∧ o1 + pws t.kids ≤ 1000000000) := ⟨_, rfl, by have h1 := HPE.out; have h2 := HW.out; rw [HTX.out] at h1; omega⟩
      clear hr hJ hy HR HV cb cp co had4 hb4 hle4 hmx4 hkad4 hcell4 htx hkd hys hkS
      have HKC : Hid (∀ k T A, J k T A → ∃ a cap, A.cell? ⟨b4, f4 + 3, none⟩ = some (.slice a n cap) ∧ n ≤ cap ∧ cap ≤ 9223372036854775807 ∧ ∀ i, i < n → ∃ b' o', a = some ⟨b', o', none⟩ ∧ ad (p ++ [i]) = (b', o' + i * 4)) := fun k T A h => by
        obtain ⟨b5, f5, a5, cap5, had5, hb5, hle5, hmx5, hkad5, hcell5⟩ := (HSH.out _ _ _ h).cells
        have hbf : b5 = b4 ∧ f5 = f4 := by
          have := had5.symm.trans HAD.out
          exact ⟨congrArg Prod.fst this, congrArg Prod.snd this⟩
        obtain ⟨rfl, rfl⟩ := hbf
        rw [HN.out] at hle5 hkad5 hcell5
        exact ⟨a5, cap5, (hcell5 A rfl).2.2, hle5, hmx5, hkad5⟩
      by_cases hlf : t.leaf
      case' pos =>
        rw [show decide t.leaf = true by simp [hlf]] at CL
        have hob := hotx hlf
        have m1 : IntKind.i64.wrap ((o : Int) + (tx.size : Int)) = ((o + tx.size : Nat) : Int) := by simp [IntKind.wrap, IntKind.signed, IntKind.bits]; omega
        have HO1 : Hid (∃ o1, o1 = o + tx.size ∧ o1 + pws t.kids ≤ 1000000000 ∧ o1 = o + (if t.leaf then t.text.size else 0)) := by
          obtain ⟨o1, h1, h2⟩ := HL.out
          rw [if_pos hlf] at h1
          exact ⟨o1, h1, h2, by rw [if_pos hlf, HTX.out]; exact h1⟩
        have HV5 : Hid (VSt l y J (k + 1) T4 p (o + tx.size) (.slice pa p.length pc) (W4.setCell ⟨y + 2, 0, none⟩ (.int .i64 ((o : Int) + (tx.size : Int)))).drew) := by
          have := (HV4.out.setOff HO.out (o + tx.size)).drew HO.out
          rwa [Int.natCast_add] at this
        clear hotx HL
        gi_wp2_with (refine ⟨trivial, rfl, ?_⟩; gi_at_call 67; refine (callsIn_wide.2 CL.out).mono ?_; rintro e w' ⟨rfl, rfl⟩)
        gi_region
        obtain ⟨X, hX⟩ : ∃ X, (w'.setCell ⟨y + 2, 0, none⟩ (.int .i64 ((o : Int) + (tx.size : Int)))).drew = X := ⟨_, rfl⟩
        rw [hX] at HV5 ⊢
        obtain ⟨o1, h1, h2, h3⟩ := HO1.out
        rw [← h1] at HV5
        have H1 := Lib.hid h2; have H2 := Lib.hid h3; have H3 := Lib.hid h1
        clear hX h1 h2 h3 d1 d2 d3 co4 hfr HC4 CL HV4 HO1
        obtain ⟨a5, cap5, d3, hle5, hmx5, _⟩ := HKC.out _ _ _ HV5.out.j
        gi_wp2
      case' neg =>
        rw [show decide t.leaf = false by simp [hlf]] at CL
        gi_wp2_with (refine ⟨trivial, rfl, ?_⟩; gi_at_call 67; refine (callsIn_wide.2 CL.out).mono ?_; rintro e w' ⟨rfl, rfl⟩)
        obtain ⟨X, hX⟩ : ∃ X, w' = X := ⟨_, rfl⟩
        rw [hX] at HV4 ⊢
        have HV5 := HV4
        obtain ⟨o1, h1, h2⟩ := HL.out
        rw [if_neg hlf] at h1
        have h3 : o = o1 := by omega
        have H1 := Lib.hid h2
        have H2 : Hid (o1 = o + if t.leaf then t.text.size else 0) := by show _ = _; rw [if_neg hlf]; omega
        rw [h3] at HV5
        have H3 := Lib.hid h3
        clear hX h1 h2 h3 d1 d2 d3 co4 hfr HC4 CL HV4 HL hotx
      all_goals
        clear hlf HTX
        gi_loopw [29] (fun i wr => ∃ (j : Nat) (T' : Nat → Prop) (pv' : Value), i = .int .i64 (j : Int) ∧ j ≤ n ∧ Hid (VSt l y J (k + 1 + cnts (t.kids.take j)) T' p (o1 + pws (t.kids.take j)) pv' wr)) (fun i _ => n - (intOf i).toNat)
        case atStart => exact ⟨0, T4, _, rfl, by omega, by simpa [cnts, pws] using HV5⟩
        case round =>
          obtain ⟨j, T', pv', rfl, hj, HVj⟩ := hrel
          by_cases hjn : j < n
          · have hjn2 : (j : Int) < (n : Int) := by omega
            have m2 : IntKind.i64.wrap ((j : Int) + 1) = (j : Int) + 1 := by simp [IntKind.wrap, IntKind.signed, IntKind.bits]; omega
            have hrowj := HVj.out.row
            obtain ⟨pj, cj, rfl⟩ := own_slice hrowj
            have cpj := HVj.out.path.cell
            have fpj := HVj.out.path.frozen
            rw [HQ.out] at hrowj
            have hysj := HVj.out.size
            obtain ⟨W1, hW1⟩ : ∃ W1, wr.alloc (.cells #[.int .i64 (j : Int)] 3) = W1 := ⟨_, rfl⟩
            have HW1 := Lib.hid hW1
            have hb1 : Below wr.heap.size wr W1 := by rw [← hW1]; exact (Below.refl _ _).alloc (Nat.le_refl _) _
            have HB1 := Lib.hid hb1
            have HRj : Hid (W1.ownsRow (y + 4) 3 1 (.slice pj q cj) q (ints p)) := own_same hrowj (fun g hg => hb1.block g (hrowj.lt g hg).2)
            have HNW : Hid (∀ i u, ([.int .i64 (j : Int)] : List Value)[i]? = some u → W1.cell? ((⟨wr.heap.size, 0, none⟩ : Addr).add i) = some u) := fun i u h => by
              have hk : Blk W1 wr.heap.size 3 #[.int .i64 (j : Int)] := by rw [← hW1]; exact Blk.new _ _ _
              cases i with
              | zero => simp at h; subst h; exact hk.cell 0
              | succ i => simp at h
            have hz1 : y + 4 ≤ W1.heap.size := by have := hb1.size; omega
            obtain ⟨i3, hi3, iy0, iy1, iy2⟩ := info_parts info3
            rw [HQ.out] at cpj
            have hjk : j < t.kids.length := by rw [HN.out]; exact hjn
            obtain ⟨x, hx⟩ : ∃ x, t.kids[j] = x := ⟨_, rfl⟩
            have hxm : x ∈ t.kids := by rw [← hx]; exact List.getElem_mem hjk
            obtain ⟨c, hc⟩ : ∃ c, k + 1 + cnts (t.kids.take j) = c := ⟨_, rfl⟩
            obtain ⟨oj, hoj⟩ : ∃ c, o1 + pws (t.kids.take j) = c := ⟨_, rfl⟩
            rw [hc, hoj] at HVj
            have HNX : Hid (k + 1 + cnts (t.kids.take (j + 1)) = c + x.cnt ∧ o1 + pws (t.kids.take (j + 1)) = oj + x.pw) := by
              rw [cnts_take _ _ hjk, pws_take _ _ hjk, hx, ← hc, ← hoj]
              show _ ∧ _
              omega
            have HREC : Hid (∀ T0 pv0 X0, VSt l y J c T0 (p ++ [j]) oj pv0 X0 → CallsIn Fence.wide 0 Try.prog 66 #[.pointer (some ⟨(ad (p ++ [j])).1, (ad (p ++ [j])).2, none⟩), .pointer (some ⟨y, 0, none⟩), .pointer (some ⟨y + 1, 0, none⟩), .pointer (some ⟨y + 2, 0, none⟩), .pointer (some ⟨y + 3, 0, none⟩)] X0
                fun e V' => (e = .returned (.bool true) ∧ ∃ T' pv', VSt l y J (c + x.cnt) T' (p ++ [j]) (oj + x.pw) pv' V') ∨ (e = .returned (.bool false) ∧ ∃ T', St T' V')) := fun T0 pv0 X0 h => by
              obtain ⟨k1, k2, k3⟩ := HKD.out x hxm
              obtain ⟨pr2, po2, e1, e2⟩ := spotsL_get t.kids p 0 o1 j hjk
              have hb := HNX.out.2
              have hb2 := pws_le t.kids (j + 1)
              have hb3 := H1.out
              have hP := HPL.out
              refine visit_any l y ad S J St HO HZ HY d x (p ++ [j]) oj c T0 pv0 X0 k1 k2 (by rw [List.length_append, List.length_singleton]; omega) (by omega) (fun k T A h => by have := (HSH.out k T A h).kid hjk; rwa [hx] at this) ⟨pre ++ ⟨p, t, o⟩ :: pr2, po2 ++ post, ?_, ?_⟩ h
              · rw [HSE.out, spots_eq, ← H2.out, e1, hx, hoj, Nat.zero_add]
                simp
              · rw [List.length_append, List.length_cons, e2, HPRE.out, ← hc]; omega
            have HPK : Hid (∀ w6, W1.grownBy w6 (Value.slice pj q cj).ownBlock → Boxed w6 (y + 1) 22 (.slice pj q cj)) := fun w6 hg => by
              have h1 := HVj.out.path
              rw [HQ.out] at h1
              refine (hg.block (y + 1) (by omega) (fun e => ?_)).trans ((hb1.block (y + 1) (by omega)).trans h1)
              have := (HRj.out.lt (y + 1) e.symm).1
              omega
            have HAT : Hid (∀ w6 g6 c6, w6.ownsRow (y + 4) 3 1 (.slice (some ⟨g6, 0, none⟩) (q + 1) c6) (q + 1) (ints p ++ [.int .i64 (j : Int)]) → W1.grownBy w6 (Value.slice pj q cj).ownBlock → ((Value.slice (some ⟨g6, 0, none⟩) (q + 1) c6).ownBlock = (Value.slice pj q cj).ownBlock ∨ (Value.slice (some ⟨g6, 0, none⟩) (q + 1) c6).ownBlock = some W1.heap.size) →
                VSt l y J c T' (p ++ [j]) oj (.slice (some ⟨g6, 0, none⟩) (q + 1) c6) (w6.setCell ⟨y + 1, 0, none⟩ (.slice (some ⟨g6, 0, none⟩) (q + 1) c6))) := fun w6 g6 c6 h1 h2 h3 => by
              have hv := HVj.out
              rw [HQ.out] at hv
              refine hv.setPath HO.out HZ.out ⟨h2.os.trans HB1.out.os, h2.tape.trans HB1.out.tape, h2.output.trans HB1.out.output⟩ (Nat.le_trans HB1.out.size h2.size) (fun i hi hne => (h2.block i (by have := HB1.out.size; omega) hne).trans (HB1.out.block i hi)) ?_ (fun g hg => ?_)
              · rw [List.length_append, List.length_singleton, HQ.out, ints, List.map_append]; exact h1
              · rw [hg] at h3
                exact h3.imp Eq.symm (fun e => by have := HB1.out.size; cases e; omega)
            have hmx : Try.prog.follows .mixedOrders = true := by kernel_rfl
            clear hrowj hb1 hW1 hx hxm hc hoj hjk
            gi_wp2_with (gi_at_builtin; rw [show wr.alloc (.cells #[.int .i64 (j : Int)] 3) = W1 from HW1.out]; refine wpListIn_append_own_at _ rfl _ _ 22 rfl (y + 4) 3 i3 (.int .i64 0) 1 8 Try.underlying22 hi3 iy0 iy1 iy2 rfl (by decide) (.slice pj q cj) q (ints p) rfl HRj.out ⟨wr.heap.size, 0, none⟩ 1 1 [.int .i64 (j : Int)] rfl rfl HNW.out (by intro u hu; simp at hu; subst hu; rfl) (by unfold maxLen; omega) (by omega) hz1 ?_; intro v6 w6 hown6 hgrow6 hnn6 hat6; obtain ⟨g6, c6, rfl⟩ := ownsRow_succ hown6; have cp6 := (HPK.out w6 hgrow6).cell; have fp6 := (HPK.out w6 hgrow6).frozen)
            have HV7 := Lib.hid (HAT.out w6 g6 c6 hown6 hgrow6 hat6)
            obtain ⟨W7, hW7⟩ : ∃ W7, w6.setCell ⟨y + 1, 0, none⟩ (.slice (some ⟨g6, 0, none⟩) (q + 1) c6) = W7 := ⟨_, rfl⟩
            rw [hW7] at HV7 ⊢
            have HV8 := Lib.hid (HV7.out.drew HO.out)
            obtain ⟨a7, cap7, d7, hle7, hmx7, hkad7⟩ := HKC.out _ _ _ HV7.out.j
            obtain ⟨b7, f7, rfl, had7⟩ := hkad7 j hjn
            have cv7 := HV7.out.vis.cell
            have HREC8 : Hid (CallsIn Fence.wide 0 Try.prog 66 #[.pointer (some ⟨b7, f7 + j * 4, none⟩), .pointer (some ⟨y, 0, none⟩), .pointer (some ⟨y + 1, 0, none⟩), .pointer (some ⟨y + 2, 0, none⟩), .pointer (some ⟨y + 3, 0, none⟩)] W7.drew
                fun e V' => ∃ bb : Bool, e = .returned (.bool bb) ∧ Hid ((bb = true → ∃ T' pv', VSt l y J (c + x.cnt) T' (p ++ [j]) (oj + x.pw) pv' V') ∧ (bb = false → ∃ T', St T' V'))) := by
              have h := HREC.out _ _ _ HV8.out
              rw [had7] at h
              refine h.mono ?_
              rintro e V' (⟨rfl, h⟩ | ⟨rfl, h⟩)
              · exact ⟨true, rfl, Lib.hid ⟨fun _ => h, (fun e => by cases e)⟩⟩
              · exact ⟨false, rfl, Lib.hid ⟨(fun e => by cases e), fun _ => h⟩⟩
            dsimp only [vstF] at cv7
            clear hW7 hown6 hgrow6 hnn6 hat6 cp6 fp6 hkad7 had7 cpj fpj HREC HPK HAT HVj HB1 HW1 HRj HNW hz1
            gi_region_with_o (first | (refine ⟨trivial, rfl, ?_⟩; gi_at_call 66; refine HREC8.out.mono ?_; rintro e w8 ⟨bb, rfl, H8⟩))
            all_goals
              clear HREC8 HV7 HV8 cv7 d7 hle7 hmx7
              cases bb with
              | false =>
                obtain ⟨T8, h8⟩ := H8.out.2 rfl
                have HF := Lib.hid h8
                clear H8 h8
                gi_wp2
                go_ret
                exact .inr ⟨rfl, T8, HF.out⟩
              | true =>
                obtain ⟨T8, pv8, h8⟩ := H8.out.1 rfl
                have hrow8 := h8.row
                rw [List.length_append, List.length_singleton, HQ.out] at hrow8
                obtain ⟨g8, c8, rfl⟩ := ownsRow_succ hrow8
                obtain ⟨hc8, hrow9⟩ := own_cut hrow8 (by show (ints (p ++ [j])) = ints p ++ [.int .i64 (j : Int)]; simp [ints]) (by simp [ints, HQ.out])
                have cp8 := h8.path.cell
                have fp8 := h8.path.frozen
                have HV9 : Hid (VSt l y J (k + 1 + cnts (t.kids.take (j + 1))) T8 p (o1 + pws (t.kids.take (j + 1))) (.slice (some ⟨g8, 0, none⟩) q c8) (w8.setCell ⟨y + 1, 0, none⟩ (.slice (some ⟨g8, 0, none⟩) q c8))) := by
                  rw [HNX.out.1, HNX.out.2]
                  exact h8.setPath HO.out HZ.out ⟨rfl, rfl, rfl⟩ (Nat.le_refl _) (fun _ _ _ => rfl) (by rw [HQ.out]; exact hrow9) (fun g hg => .inl hg)
                have m3 : IntKind.i64.wrap (((q + 1 : Nat) : Int) - 1) = (q : Int) := by simp [IntKind.wrap, IntKind.signed, IntKind.bits]; omega
                have m4 : IntKind.i64.wrap ((q : Int) + 1 - 1) = (q : Int) := by simp [IntKind.wrap, IntKind.signed, IntKind.bits]; omega
                have hy8 := h8.size
                clear h8 H8 hrow8 hrow9
                gi_wp2
                go_roundw
                case rel => exact ⟨j + 1, T8, _, by go_num, by omega, HV9⟩
                case measure => simp [intOf]; omega
          · have hin2 : ¬ ((j : Int) < (n : Int)) := by omega
            obtain rfl : j = n := by omega
            have hall : t.kids.take j = t.kids := List.take_of_length_le (Nat.le_of_eq HN.out)
            rw [hall] at HVj
            have HFIN : Hid (VSt l y J (k + t.cnt) T' p (o + t.pw) pv' wr) := by
              have h1 := HCE.out; have h2 := HPE.out; have h3 := H2.out
              have h4 := HVj.out
              rw [show k + 1 + cnts t.kids = k + t.cnt by omega, show o1 + pws t.kids = o + t.pw by omega] at h4
              exact h4
            clear hall
            gi_wp2
            go_ret
            exact .inl ⟨rfl, T', pv', HFIN.out⟩
    · gi_wp2
      go_ret
      exact .inr ⟨rfl, T4, hJ⟩

end Go.Proofs.Ytfecajeenmnoeaa
