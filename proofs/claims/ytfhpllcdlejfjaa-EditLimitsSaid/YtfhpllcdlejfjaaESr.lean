/- The contract of the reference's Sources. Conditions: texts of at most 100000 bytes, lists of at most 1000 edits, at most 1000000 sources. -/
import Derived.Test.YtfhpllcdlejfjaaECn
import Derived.Test.YtfhpllcdlejfjaaEVs
namespace Go.Proofs.Ytfhpllcdlejfjaa
open Go.RowKit Go.Shelf
set_option linter.unusedVariables false

/-- Numbers from p on. -/
def rngI : Nat → Nat → List Int
  | _, 0 => []
  | p, m + 1 => (p : Int) :: rngI (p + 1) m
/-- The sources of a text's bytes after edits. -/
def srN (n : Nat) : Nat → List Er → List Int
  | p, [] => rngI p (n - p)
  | p, e :: l => rngI p (e.f.toNat - p) ++ (List.replicate e.x.size (-1) ++ srN n e.t.toNat l)
def enc (z : Int × Option Nat) : Int := match z.2 with
  | some k => (k : Int)
  | none => -1
theorem enc_pcs {S : List Int} : ∀ {m k : Nat}, k + m ≤ S.length → (pcs S k m).map enc = rngI k m := by
  intro m
  induction m with
  | zero => intro k _; rw [pcs_zero]; rfl
  | succ m ih =>
    intro k h
    rw [pcs_cons (by omega), List.map_cons, ih (by omega)]
    rfl
theorem enc_new (x : List Int) : (x.map (fun c => ((c, none) : Int × Option Nat))).map enc = List.replicate x.length (-1) := by
  rw [List.map_map]
  exact List.map_const' ..
theorem enc_srcl {s : ByteArray} : ∀ {l : List Er} {p : Nat}, Vld s.size p (ees l) → (srcl (sb s) p (ees l)).map enc = srN s.size p l := by
  intro l
  induction l with
  | nil =>
    intro p h
    have hp : p ≤ s.size := h
    show (srcl (sb s) p []).map enc = _
    rw [srcl_nil _ _ (by rw [sb_len]; exact hp), enc_pcs (by rw [sb_len]; omega), sb_len]
    rfl
  | cons e l ih =>
    intro p h
    rw [ees_cons] at h ⊢
    obtain ⟨h1, h2, h3, h4⟩ := h
    simp only [Er.ee] at h1 h2 h3 h4
    show (pcs (sb s) p (e.f.toNat - p) ++ ((sb e.x).map (fun c => ((c, none) : Int × Option Nat)) ++ srcl (sb s) e.t.toNat (ees l))).map enc = _
    rw [List.map_append, List.map_append, ih h4, enc_new, enc_pcs (by rw [sb_len]; omega), sb_len]
    rfl

/-- A row of integers of a call's own, and what lay lies as it lay. -/
def OutI (P : Nat) (w wr : World) (ov : Value) (zs : List Int) : Prop := wr.ownsRow P 3 1 ov zs.length (zs.map (Value.int .i64)) ∧ Below P w wr
theorem outi_step {P k : Nat} {w wr w3 : World} {ov v' : Value} {zs : List Int} {x : Int} {tmp : Obj} (h : OutI P w wr ov zs) (hP : P ≤ wr.heap.size) (hown3 : w3.ownsRow P 3 1 v' k (zs.map (Value.int .i64) ++ [.int .i64 x])) (hg : (wr.alloc tmp).grownBy w3 ov.ownBlock) : OutI P w w3 v' (zs ++ [x]) := by
  have h0 : zs.map (Value.int .i64) ++ [.int .i64 x] = (zs ++ [x]).map (Value.int .i64) := by simp
  rw [h0] at hown3
  have hk : k = (zs ++ [x]).length := by have := hown3.1; rw [List.length_map] at this; omega
  subst hk
  exact ⟨hown3, h.2.trans (((Below.refl _ _).alloc hP _).grown hg (by simp; omega) (fun g eg => (h.1.lt g eg).1))⟩
theorem infoI : (Try.prog.info? 3).map (fun i => (i.zero, i.size, i.bytes)) = some (some (.int .i64 0), 1, 8) := by kernel_rfl

set_option maxRecDepth 100000 in
set_option maxHeartbeats 4000000 in
theorem sources_any (n : Nat) (a : Option Addr) (cap : Nat) (es : List Er) (w : World) (hn : n ≤ 100000) (hl : es.length ≤ 1000) (hv : Vld n 0 (ees es)) (hp : ∀ e ∈ es, 0 ≤ e.f ∧ 0 ≤ e.t) (hx : ∀ e ∈ es, e.x.size ≤ 100000) (hm : (srN n 0 es).length ≤ 1000000) (hS : ES w.heap.size w a cap es) :
    Calls Try.prog 43 #[.int .i64 (n : Int), .slice a es.length cap] w (NewRow .i64 3 w (srN n 0 es)) := by
  obtain ⟨i3, hi3, hy0, hy1, hy2⟩ := info_parts infoI
  obtain ⟨P, hP⟩ : ∃ P, w.heap.size = P := ⟨_, rfl⟩
  obtain ⟨R, hR⟩ : ∃ R, srN n 0 es = R := ⟨_, rfl⟩
  obtain ⟨N, hN⟩ : ∃ N, es.length = N := ⟨_, rfl⟩
  have hcap := hS.le
  obtain ⟨b, addr, hab, hcell⟩ := hS.cells.core
  rw [hN] at hl hcap hab hcell ⊢
  rw [hP] at hab
  rw [hR] at hm ⊢
  have HE := Lib.hid hN; have HAB := Lib.hid hab; have HC := Lib.hid hcell; have HP := Lib.hid hP; have HQ := Lib.hid hp; have HX := Lib.hid hx; have HM := Lib.hid hm
  have H0 : Hid ((0 ≤ N → Vld n 0 (ees (es.drop 0)) ∧ R = [] ++ srN n 0 (es.drop 0)) ∧ (0 = N + 1 → R = [])) := ⟨fun _ => ⟨hv, by rw [← hR]; rfl⟩, fun h => by omega⟩
  have HO0 : Hid (OutI P w w (.slice none 0 0) []) := ⟨World.ownsRow_nil _ _ _ _, Below.refl _ _⟩
  clear hS hab hcell hP hp hx hR hv hm hN
  go_enter Try.func43, Try.ntmps43
  go_wp2_with fail
  go_loopw [5, 6, 7] (fun u v q wr => ∃ (k p : Nat) (acc : List Int), k ≤ N + 1 ∧ p ≤ n ∧ v = .int .i64 (p : Int) ∧ q = .int .i64 (k : Int) ∧ Hid ((k ≤ N → Vld n p (ees (es.drop k)) ∧ R = acc ++ srN n p (es.drop k)) ∧ (k = N + 1 → R = acc)) ∧ Hid (OutI P w wr u acc)) (fun _ _ q _ => N + 1 - (intOf q).toNat)
  case atStart => exact ⟨0, 0, [], by omega, by omega, rfl, rfl, H0, HO0⟩
  case round =>
    obtain ⟨k, p, acc, hk, hpn, rfl, rfl, HI, HR⟩ := hrel
    by_cases hkN : k < N
    · obtain ⟨ha, hbB⟩ := HAB.out.resolve_left (by omega)
      subst ha
      have hkl : k < es.length := by rw [HE.out]; exact hkN
      obtain ⟨c0, c1, c2⟩ := HC.out k hkN wr (HR.out.2.block b hbB)
      have hkk : (k : Int) < (N : Int) := by omega
      have hkk2 : (k : Int) ≤ (N : Int) := by omega
      obtain ⟨hvl, hri⟩ := HI.out.1 (by omega)
      rw [eg_drop hkl] at hvl hri
      rw [ees_cons] at hvl
      obtain ⟨p0, p1⟩ := HQ.out _ (eg_mem hkl)
      have hxl := HX.out _ (eg_mem hkl)
      obtain ⟨x, hx1⟩ : ∃ x : Nat, (eg es k).f = (x : Int) := ⟨(eg es k).f.toNat, by omega⟩
      obtain ⟨y, hy1'⟩ : ∃ y : Nat, (eg es k).t = (y : Int) := ⟨(eg es k).t.toNat, by omega⟩
      obtain ⟨z, hz1⟩ : ∃ z, (eg es k).x = z := ⟨_, rfl⟩
      obtain ⟨v1, v2, v3, v4⟩ := hvl
      simp only [Er.ee, hx1, hy1', Int.toNat_natCast] at v1 v2 v3 v4
      simp only [srN, hx1, hy1', hz1, Int.toNat_natCast] at hri
      rw [hx1] at c0
      rw [hz1] at hxl
      have HZ1 := Lib.hid hz1; have HY1 := Lib.hid hy1'
      obtain ⟨T2, hT2⟩ : ∃ T, srN n y (es.drop (k + 1)) = T := ⟨_, rfl⟩
      obtain ⟨T1, hT1⟩ : ∃ T, List.replicate z.size (-1) ++ T2 = T := ⟨_, rfl⟩
      rw [hT2, hT1] at hri
      have HRI := Lib.hid hri; have HT1 := Lib.hid hT1; have HT2 := Lib.hid hT2; have HV4 := Lib.hid v4
      clear hri hT1 hT2 v4 hx1 hy1' hz1 c1 c2
      go_wp2_with fail
      go_loopw [5, 6] (fun u q wr => ∃ (j : Nat) (acc : List Int), p ≤ j ∧ j ≤ x ∧ q = .int .i64 (j : Int) ∧ Hid (R = acc ++ (rngI j (x - j) ++ T1)) ∧ Hid (OutI P w wr u acc)) (fun _ q _ => x - (intOf q).toNat)
      case atStart => exact ⟨p, acc, by omega, by omega, rfl, HRI, HR⟩
      case round =>
        obtain ⟨j, acc, hj1, hj2, rfl, HI, HR⟩ := hrel
        by_cases hjx : j < x
        · have hjx2 : (j : Int) < (x : Int) := by omega
          have HI2 : Hid (R = (acc ++ [(j : Int)]) ++ (rngI (j + 1) (x - (j + 1)) ++ T1)) := Lib.hid (by
            rw [HI.out, show x - j = x - (j + 1) + 1 by omega]; simp [rngI])
          have hown := HR.out.1
          have hP2 : P ≤ wr.heap.size := by have := HR.out.2.size; have := HP.out; omega
          obtain ⟨M, hM⟩ : ∃ M, acc.length = M := ⟨_, rfl⟩
          rw [hM] at hown
          have hMl : M ≤ 1000000 := by have h1 := congrArg List.length HI.out; rw [List.length_append] at h1; have := HM.out; omega
          have HO := Lib.hid hown
          clear hown hM
          go_wp2_with (at_builtin; refine wpList_append_own _ rfl _ _ 23 rfl P 3 i3 (.int .i64 0) 1 8 Try.underlying23 hi3 hy0 hy1 hy2 rfl (by decide) u5 M (acc.map (Value.int .i64)) rfl (HO.out.alloc _) ⟨wr.heap.size, 0, none⟩ 1 1 [.int .i64 (j : Int)] rfl rfl (cell_one_new _ _ _) (fun x hx => by simp at hx; subst hx; rfl) (by unfold maxLen; omega) (by omega) (by simp; omega) ?_; intro v' w3 hown3 hgrow3 _; obtain ⟨A3, k3, rfl⟩ := own_slice hown3)
          have H3 : Hid (OutI P w w3 (.slice A3 (M + 1) k3) (acc ++ [(j : Int)])) := outi_step HR.out hP2 hown3 hgrow3
          clear hown3 hgrow3
          go_wp2
          go_roundw
          case rel => exact ⟨j + 1, _, by omega, by omega, by go_num, HI2, H3⟩
          case measure => simp [intOf]; omega
        · obtain rfl : x = j := by omega
          have hR2 : R = acc ++ T1 := by have := HI.out; rwa [Nat.sub_self, rngI, List.nil_append] at this
          have HI := Lib.hid hR2
          clear hR2 hjx
          have hkk3 : (k : Int) < (N : Int) := hkk
          go_wp2_with fail
          go_loopw [5, 9] (fun u q wr => ∃ (j : Nat) (acc : List Int), j ≤ z.size ∧ q = .int .i64 (j : Int) ∧ Hid (R = acc ++ (List.replicate (z.size - j) (-1) ++ T2)) ∧ Hid (OutI P w wr u acc)) (fun _ q _ => z.size - (intOf q).toNat)
          case atStart => exact ⟨0, acc, by omega, rfl, Lib.hid (by rw [HI.out, ← HT1.out]; rfl), HR⟩
          case round =>
            obtain ⟨j, acc, hj, rfl, HI, HR⟩ := hrel
            obtain ⟨_, c1, c2⟩ := HC.out k hkN wr (HR.out.2.block b hbB)
            rw [HZ1.out] at c2
            rw [HY1.out] at c1
            by_cases hjx : j < z.size
            · have hjx2 : (j : Int) < (z.size : Int) := by omega
              have HI2 : Hid (R = (acc ++ [(-1 : Int)]) ++ (List.replicate (z.size - (j + 1)) (-1) ++ T2)) := Lib.hid (by
                rw [HI.out, show z.size - j = z.size - (j + 1) + 1 by omega, List.replicate_succ]; simp)
              have hown := HR.out.1
              have hP2 : P ≤ wr.heap.size := by have := HR.out.2.size; have := HP.out; omega
              obtain ⟨M, hM⟩ : ∃ M, acc.length = M := ⟨_, rfl⟩
              rw [hM] at hown
              have hMl : M ≤ 1000000 := by have h1 := congrArg List.length HI.out; rw [List.length_append] at h1; have := HM.out; omega
              have HO := Lib.hid hown
              clear hown hM
              go_wp2_with (at_builtin; refine wpList_append_own _ rfl _ _ 23 rfl P 3 i3 (.int .i64 0) 1 8 Try.underlying23 hi3 hy0 hy1 hy2 rfl (by decide) u5 M (acc.map (Value.int .i64)) rfl (HO.out.alloc _) ⟨wr.heap.size, 0, none⟩ 1 1 [.int .i64 (-1)] rfl rfl (cell_one_new _ _ _) (fun x hx => by simp at hx; subst hx; rfl) (by unfold maxLen; omega) (by omega) (by simp; omega) ?_; intro v' w3 hown3 hgrow3 _; obtain ⟨A3, k3, rfl⟩ := own_slice hown3)
              have H3 : Hid (OutI P w w3 (.slice A3 (M + 1) k3) (acc ++ [(-1)])) := outi_step HR.out hP2 hown3 hgrow3
              clear hown3 hgrow3
              go_wp2
              go_roundw
              case rel => exact ⟨j + 1, _, by omega, by go_num, HI2, H3⟩
              case measure => simp [intOf]; omega
            · have hjz : z.size = j := by omega
              have hjx2 : ¬ (j : Int) < (z.size : Int) := by omega
              have hR3 : R = acc ++ T2 := by have := HI.out; rwa [hjz, Nat.sub_self, List.replicate_zero, List.nil_append] at this
              have HF : Hid ((k + 1 ≤ N → Vld n y (ees (es.drop (k + 1))) ∧ R = acc ++ srN n y (es.drop (k + 1))) ∧ (k + 1 = N + 1 → R = acc)) := ⟨fun _ => ⟨HV4.out, by rw [HT2.out]; exact hR3⟩, fun h => by omega⟩
              clear hR3 hjz
              go_wp2
              go_roundw
              case rel => exact ⟨k + 1, y, acc, by omega, by omega, rfl, by go_num, HF, HR⟩
              case measure => simp [intOf]; omega
    · by_cases hke : k = N
      · have hkk : ¬ (k : Int) < (N : Int) := by omega
        have hkk2 : (k : Int) ≤ (N : Int) := by omega
        obtain ⟨hvl, hri⟩ := HI.out.1 (by omega)
        rw [List.drop_eq_nil_of_le (by rw [HE.out]; omega)] at hri
        have HRI : Hid (R = acc ++ (rngI p (n - p) ++ [])) := Lib.hid (by rw [hri, List.append_nil]; rfl)
        clear hvl hri
        go_wp2_with fail
        go_loopw [5, 6] (fun u q wr => ∃ (j : Nat) (acc : List Int), p ≤ j ∧ j ≤ n ∧ q = .int .i64 (j : Int) ∧ Hid (R = acc ++ (rngI j (n - j) ++ [])) ∧ Hid (OutI P w wr u acc)) (fun _ q _ => n - (intOf q).toNat)
        case atStart => exact ⟨p, acc, by omega, by omega, rfl, HRI, HR⟩
        case round =>
          obtain ⟨j, acc, hj1, hj2, rfl, HI, HR⟩ := hrel
          by_cases hjx : j < n
          · have hjx2 : (j : Int) < (n : Int) := by omega
            have HI2 : Hid (R = (acc ++ [(j : Int)]) ++ (rngI (j + 1) (n - (j + 1)) ++ [])) := Lib.hid (by
              rw [HI.out, show n - j = n - (j + 1) + 1 by omega]; simp [rngI])
            have hown := HR.out.1
            have hP2 : P ≤ wr.heap.size := by have := HR.out.2.size; have := HP.out; omega
            obtain ⟨M, hM⟩ : ∃ M, acc.length = M := ⟨_, rfl⟩
            rw [hM] at hown
            have hMl : M ≤ 1000000 := by have h1 := congrArg List.length HI.out; rw [List.length_append] at h1; have := HM.out; omega
            have HO := Lib.hid hown
            clear hown hM
            go_wp2_with (at_builtin; refine wpList_append_own _ rfl _ _ 23 rfl P 3 i3 (.int .i64 0) 1 8 Try.underlying23 hi3 hy0 hy1 hy2 rfl (by decide) u5 M (acc.map (Value.int .i64)) rfl (HO.out.alloc _) ⟨wr.heap.size, 0, none⟩ 1 1 [.int .i64 (j : Int)] rfl rfl (cell_one_new _ _ _) (fun x hx => by simp at hx; subst hx; rfl) (by unfold maxLen; omega) (by omega) (by simp; omega) ?_; intro v' w3 hown3 hgrow3 _; obtain ⟨A3, k3, rfl⟩ := own_slice hown3)
            have H3 : Hid (OutI P w w3 (.slice A3 (M + 1) k3) (acc ++ [(j : Int)])) := outi_step HR.out hP2 hown3 hgrow3
            clear hown3 hgrow3
            go_wp2
            go_roundw
            case rel => exact ⟨j + 1, _, by omega, by omega, by go_num, HI2, H3⟩
            case measure => simp [intOf]; omega
          · obtain rfl : n = j := by omega
            have hR2 : R = acc ++ [] := by have := HI.out; rwa [Nat.sub_self, rngI, List.nil_append] at this
            have HF : Hid ((k + 1 ≤ N → Vld n n (ees (es.drop (k + 1))) ∧ R = acc ++ srN n n (es.drop (k + 1))) ∧ (k + 1 = N + 1 → R = acc)) := ⟨fun h => by omega, fun _ => by rw [hR2, List.append_nil]⟩
            clear hR2 hjx
            go_wp2
            go_roundw
            case rel => exact ⟨k + 1, n, acc, by omega, by omega, rfl, by go_num, HF, HR⟩
            case measure => simp [intOf]; omega
      · have hkk2 : ¬ (k : Int) ≤ (N : Int) := by omega
        have hR2 := HI.out.2 (by omega)
        subst hR2
        have h1 := HR.out
        have H1 := Lib.hid h1
        clear h1
        go_wp2
        go_ret
        exact ⟨_, rfl, by rw [HP.out]; exact H1.out.1, by rw [HP.out]; exact H1.out.2⟩

end Go.Proofs.Ytfhpllcdlejfjaa
