/- Contracts of the reference's encodings: each returns the specified bytes in memory of its own. Conditions: lists of at most 2000 elements. -/
import Derived.Test.YtfnpnomfdfdonaaWEnc
namespace Go.Proofs.Ytfnpnomfdfdonaa
open Go.RowKit Go.Shelf
set_option linter.unusedVariables false

/-- A row of bytes of a call's own, and what lay lies as it lay. -/
def OutI (P : Nat) (w wr : World) (ov : Value) (zs : List Int) : Prop := wr.ownsRow P 5 1 ov zs.length (zs.map (Value.int .u8)) ∧ Below P w wr
theorem out_step {P k : Nat} {w wr w3 : World} {ov v' : Value} {zs E : List Int} (h : OutI P w wr ov zs) (hP : P ≤ wr.heap.size) (hown3 : w3.ownsRow P 5 1 v' k (zs.map (Value.int .u8) ++ E.map (Value.int .u8))) (hg : wr.grownBy w3 ov.ownBlock) : OutI P w w3 v' (zs ++ E) := by
  rw [← List.map_append] at hown3
  have hk : k = (zs ++ E).length := by have := hown3.1; rw [List.length_map] at this; omega
  subst hk
  exact ⟨hown3, h.2.trans ((Below.refl _ _).grown hg hP (fun g eg => (h.1.lt g eg).1))⟩
theorem out_step1 {P k : Nat} {w wr w3 : World} {ov v' : Value} {zs E : List Int} {tmp : Obj} (h : OutI P w wr ov zs) (hP : P ≤ wr.heap.size) (hown3 : w3.ownsRow P 5 1 v' k (zs.map (Value.int .u8) ++ E.map (Value.int .u8))) (hg : (wr.alloc tmp).grownBy w3 ov.ownBlock) : OutI P w w3 v' (zs ++ E) := by
  rw [← List.map_append] at hown3
  have hk : k = (zs ++ E).length := by have := hown3.1; rw [List.length_map] at this; omega
  subst hk
  exact ⟨hown3, h.2.trans (((Below.refl _ _).alloc hP _).grown hg (by simp; omega) (fun g eg => (h.1.lt g eg).1))⟩
theorem vU_ne (n : Nat) : vU n ≠ [] := by intro h; have := vU_pos n; rw [h] at this; simp at this
theorem ru_byte (m : Nat) : IntKind.u8.wrap (128 + (m : Int) % 128) = ((m % 128 + 128 : Nat) : Int) := by
  have hw : ∀ n : Int, IntKind.u8.wrap n = n % 256 := fun n => by simp [IntKind.wrap, IntKind.signed, IntKind.bits]
  rw [hw]; omega

set_option maxRecDepth 100000 in
set_option maxHeartbeats 1000000 in
theorem eU_any (n : Nat) (w : World) (hn : n < 18446744073709551616) :
    Calls Try.prog 40 #[.int .u64 (n : Int)] w (NewOwn .u8 5 w (vU n)) := by
  obtain ⟨i0, hi, hz0, hz1, hz2⟩ := info_parts info5
  have HLEN := Lib.hid (vU_len10 hn)
  go_enter Try.func40, Try.ntmps40
  go_wp2
  go_loopw [0, 3] (fun t o wr => ∃ (m : Nat) (pre : List Int) (ov : Value), m < 18446744073709551616 ∧ t = .int .u64 (m : Int) ∧ o = ov ∧ Hid (vU n = pre ++ vU m) ∧ Hid (OutI w.heap.size w wr ov pre)) (fun t _ _ => (intOf t).toNat)
  case atStart => exact ⟨n, [], _, hn, rfl, rfl, Lib.hid rfl, Lib.hid ⟨World.ownsRow_nil _ _ _ _, Below.refl _ _⟩⟩
  case round =>
    obtain ⟨m, pre, ov, hm, rfl, rfl, HV, HR⟩ := hrel
    have hpl : pre.length ≤ 10 := by
      have h1 := HLEN.out; rw [HV.out] at h1; simp at h1; omega
    obtain ⟨N, hN⟩ : ∃ N, pre.length = N := ⟨_, rfl⟩
    have hown := HR.out.1
    have hP := HR.out.2.size
    rw [hN] at hown hpl
    have HN := Lib.hid hN
    have HO := Lib.hid hown
    clear hN hown
    by_cases hlt : m < 128
    · have hq : ¬ (127 : Int) < (m : Int) := by omega
      go_wp2_with (at_builtin; refine wpList_append_own _ rfl _ _ 24 rfl w.heap.size 5 i0 (.int .u8 0) 1 1 Try.underlying24 hi hz0 hz1 hz2 rfl (by decide) u3 N (pre.map (Value.int .u8)) rfl (HO.out.alloc _) ⟨wr.heap.size, 0, none⟩ 1 1 [.int .u8 (m : Int)] rfl rfl (cell_one_new _ _ _) (fun x hx => by simp at hx; subst hx; rfl) (by unfold maxLen; omega) (by omega) (by simp; omega) ?_; intro v' w3 hown3 hgrow3 _; obtain ⟨g3, k3, rfl⟩ := ownsRow_succ hown3)
      have H3 := Lib.hid (out_step1 (E := [(m : Int)]) HR.out hP hown3 hgrow3)
      clear hown3 hgrow3
      go_wp2
      go_ret
      have he : vU n = pre ++ [(m : Int)] := by rw [HV.out, vU_lo hlt]
      have := H3.out
      rw [← he] at this
      exact ⟨g3, k3, by rw [he, List.length_append, HN.out]; rfl, by have h1 := this.1; rw [show (vU n).length = N + 1 by rw [he, List.length_append, HN.out]; rfl] at h1 ⊢; exact h1, this.2⟩
    · have hq : (127 : Int) < (m : Int) := by omega
      have hb := ru_byte m
      have HBY := Lib.hid hb
      clear hb
      go_wp2_with (at_builtin; refine wpList_append_own _ rfl _ _ 24 rfl w.heap.size 5 i0 (.int .u8 0) 1 1 Try.underlying24 hi hz0 hz1 hz2 rfl (by decide) u3 N (pre.map (Value.int .u8)) rfl (HO.out.alloc _) ⟨wr.heap.size, 0, none⟩ 1 1 [.int .u8 (128 + (m : Int) % 128)] rfl rfl (cell_one_new _ _ _) (fun x hx => by simp at hx; subst hx; rfl) (by unfold maxLen; omega) (by omega) (by simp; omega) ?_; intro v' w3 hown3 hgrow3 _; obtain ⟨g3, k3, rfl⟩ := ownsRow_succ hown3)
      have H3 := Lib.hid (out_step1 (E := [(128 + (m : Int) % 128)]) HR.out hP hown3 hgrow3)
      clear hown3 hgrow3
      go_roundw
      case rel => exact ⟨m / 128, pre ++ [((m % 128 + 128 : Nat) : Int)], _, by omega, by go_num, rfl, Lib.hid (by rw [HV.out, vU_hi hlt]; simp), Lib.hid (by have := H3.out; rwa [show (128 + (m : Int) % 128) = ((m % 128 + 128 : Nat) : Int) by omega] at this)⟩
      case measure => simp [intOf]; omega

theorem rzz_any (n : Int) (w : World) (h1 : -9223372036854775808 ≤ n) (h2 : n ≤ 9223372036854775807) :
    Calls Try.prog 60 #[.int .i64 n] w fun e w' => e = .returned (.int .u64 (zz n : Int)) ∧ w = w' := by
  by_cases hneg : n < 0
  · have hz : 2 * (-(n + 1)) + 1 = (zz n : Int) := by unfold zz; rw [if_pos hneg]; omega
    go_enter Try.func60, Try.ntmps60
    go_wp2
    go_ret
    exact ⟨ret_u64w (by omega), rfl⟩
  · have hz : 2 * n = (zz n : Int) := by unfold zz; rw [if_neg (by omega)]; omega
    go_enter Try.func60, Try.ntmps60
    go_wp2
    go_ret
    exact ⟨ret_u64w (by omega), rfl⟩
theorem eI_any (n : Int) (w : World) (h1 : -9223372036854775808 ≤ n) (h2 : n ≤ 9223372036854775807) :
    Calls Try.prog 41 #[.int .i64 n] w (NewOwn .u8 5 w (vU (zz n))) := by
  obtain ⟨z, hz⟩ : ∃ z, zz n = z := ⟨_, rfl⟩
  have c1 := fun W => rzz_any n W h1 h2
  have c2 := fun W => eU_any z W (by rw [← hz]; exact zz_lt h1 h2)
  rw [hz] at c1 ⊢
  have C1 := Lib.hid c1; have C2 := Lib.hid c2
  clear c1 c2 hz
  go_enter Try.func41, Try.ntmps41
  go_wp2_with fail
  refine (C1.out _).mono ?_
  rintro e w' ⟨rfl, rfl⟩
  go_wp2_with fail
  refine (C2.out _).mono ?_
  rintro e w' ⟨g, k, rfl, hown, hb⟩
  have H := Lib.hid (And.intro hown hb)
  clear hown hb
  go_wp2
  go_ret
  exact ⟨g, k, rfl, H.out.1, H.out.2⟩
theorem own_lit1 (w : World) (x : Int) : (w.alloc (.cells #[.int .u8 x] 5)).ownsRow w.heap.size 5 1 (.slice (some ⟨w.heap.size, 0, none⟩) 1 1) 1 ([x].map (Value.int .u8)) :=
  ⟨rfl, .inr ⟨w.heap.size, 1, #[.int .u8 x], rfl, Nat.le_refl _, World.alloc_heap_new w _, Nat.le_refl _, by unfold maxLen; omega, rfl, rfl⟩⟩
theorem eB_any (b : Bool) (w : World) :
    Calls Try.prog 42 #[.bool b] w (NewOwn .u8 5 w [if b then 1 else 0]) := by
  cases b
  · go_enter Try.func42, Try.ntmps42
    go_wp2
    go_ret
    exact ⟨_, _, rfl, own_lit1 w 0, below_new w _⟩
  · go_enter Try.func42, Try.ntmps42
    go_wp2
    go_ret
    exact ⟨_, _, rfl, own_lit1 w 1, below_new w _⟩
theorem news_of_row {w : World} {base n g cap : Nat} {k : IntKind} {e : TypeId} {zs : List Int} (h : w.ownsRow base e 1 (.slice (some ⟨g, 0, none⟩) n cap) n (zs.map (Value.int k))) :
    ∀ j u, (zs.map (Value.int k))[j]? = some u → w.cell? ((⟨g, 0, none⟩ : Addr).add j) = some u := by
  have := cells_take (sli_row h).cells zs.length
  rwa [List.take_of_length_le (Nat.le_refl _)] at this

set_option maxRecDepth 100000 in
set_option maxHeartbeats 1000000 in
theorem eR_any (a : Option Addr) (cap : Nat) (b : List Int) (w : World) (h : Sli .u8 w a cap b) (hbl : b.length ≤ 2000) :
    Calls Try.prog 43 #[.slice a b.length cap] w (NewOwn .u8 5 w (vU b.length ++ b)) := by
  obtain ⟨i0, hi, hz0, hz1, hz2⟩ := info_parts info5
  obtain ⟨n, hn⟩ : ∃ n, b.length = n := ⟨_, rfl⟩
  obtain ⟨P, hP⟩ : ∃ n, w.heap.size = n := ⟨_, rfl⟩
  have hl10 : (vU n).length ≤ 10 := vU_len10 (by omega)
  have c1 := eU_any n w (by omega)
  rw [hn] at hbl ⊢
  have C1 := Lib.hid c1; have HN := Lib.hid hn; have HS := Lib.hid h; have HP := Lib.hid hP
  have hne : vU n ++ b ≠ [] := by intro h; have := List.append_eq_nil_iff.1 h; exact vU_ne n this.1
  have HNE := Lib.hid hne
  obtain ⟨Y, hY⟩ : ∃ Y, vU n = Y := ⟨_, rfl⟩
  have HY := Lib.hid hY
  rw [hY] at hl10
  clear c1 hn h hP hne hY
  refine Calls.mono ?_ (fun e w' h => newOwn_of_row HNE.out h)
  go_enter Try.func43, Try.ntmps43
  go_wp2_with fail
  refine C1.out.mono ?_
  rintro e w1 ⟨g1, k1, rfl, hown1, hb1⟩
  rw [HP.out, HY.out] at hown1
  rw [HP.out] at hb1
  rw [HY.out]
  have hP2 : P ≤ w1.heap.size := by have := hb1.size; have := HP.out; omega
  obtain ⟨N, hN⟩ : ∃ N, Y.length = N := ⟨_, rfl⟩
  rw [hN] at hown1 hl10 ⊢
  have HO := Lib.hid hown1; have HB := Lib.hid hb1; have HNY := Lib.hid hN
  have HS1 : Hid (Sli .u8 w1 a cap b) := Sli.below HS.out (by rw [HP.out]; exact hb1)
  clear hown1 hb1 hN
  cases a with
  | none =>
    have hcap := HS1.out.nil rfl
    subst hcap
    have hz : n = 0 := by have := HS1.out.le; have := HN.out; omega
    subst hz
    go_wp2_with (at_builtin; refine wpList_append_own_none rfl _ _ 24 rfl P 5 i0 1 Try.underlying24 hi _ N (Y.map (Value.int .u8)) rfl HO.out rfl ?_)
    go_ret
    have hb0 : b = [] := List.eq_nil_of_length_eq_zero HN.out
    refine ⟨_, rfl, ?_, by rw [HP.out]; exact HB.out⟩
    rw [hb0, List.append_nil, HY.out, HNY.out, HP.out]
    exact HO.out
  | some ad =>
    have hnew := cells_take HS1.out.cells n
    rw [List.take_of_length_le (by rw [HN.out]; omega)] at hnew
    have HNEW := Lib.hid hnew
    have hle := HS1.out.le
    have hmx := HS1.out.mx
    rw [HN.out] at hle
    clear hnew
    go_wp2_with (at_builtin; refine wpList_append_own _ rfl _ _ 24 rfl P 5 i0 (.int .u8 0) 1 1 Try.underlying24 hi hz0 hz1 hz2 rfl (by decide) (.slice (some ⟨g1, 0, none⟩) N k1) N (Y.map (Value.int .u8)) rfl HO.out ad n cap (b.map (Value.int .u8)) rfl (by rw [List.length_map, HN.out]; omega) HNEW.out (one_ints _ _) (by unfold maxLen; omega) (by omega) hP2 ?_; intro v' w3 hown3 hgrow3 _; obtain ⟨A3, k3, rfl⟩ := own_slice hown3)
    have H3 := Lib.hid (out_step (E := b) (show OutI P w w1 _ Y from ⟨by rw [HNY.out]; exact HO.out, HB.out⟩) hP2 (by exact hown3) hgrow3)
    clear hown3 hgrow3
    go_wp2
    go_ret
    have h1 := H3.out.1
    refine ⟨_, rfl, ?_, by rw [HP.out]; exact H3.out.2⟩
    rw [HY.out, HP.out]
    rw [List.length_append, HNY.out, HN.out] at h1 ⊢
    exact h1

set_option maxRecDepth 100000 in
set_option maxHeartbeats 1000000 in
theorem eL_any (a : Option Addr) (cap : Nat) (b : List Int) (w : World) (h : Sli .i64 w a cap b) (hi64 : I64 b) (hbl : b.length ≤ 2000) :
    Calls Try.prog 44 #[.slice a b.length cap] w (NewOwn .u8 5 w (vU b.length ++ vL b)) := by
  obtain ⟨i0, hi, hz0, hz1, hz2⟩ := info_parts info5
  obtain ⟨n, hn⟩ : ∃ n, b.length = n := ⟨_, rfl⟩
  obtain ⟨P, hP⟩ : ∃ n, w.heap.size = n := ⟨_, rfl⟩
  have hl10 : (vU n).length ≤ 10 := vU_len10 (by omega)
  have c1 := eU_any n w (by omega)
  rw [hn] at hbl ⊢
  have hcore : ∃ bb off, (n = 0 ∨ (a = some ⟨bb, off, none⟩ ∧ bb < P)) ∧ ∀ j, j < n → w.cell? ⟨bb, off + j, none⟩ = some (.int .i64 (b[j]?.getD 0)) := by
    rcases h.cells with rfl | ⟨bb, off, ha, hlt, hcb⟩
    · exact ⟨0, 0, .inl (by simpa using hn.symm), fun j hj => absurd hj (by simp at hn; omega)⟩
    · exact ⟨bb, off, .inr ⟨ha, by omega⟩, fun j hj => hcb j (by omega)⟩
  obtain ⟨bb, off, hab, hcb⟩ := hcore
  have hne : vU n ++ vL b ≠ [] := by intro h; have := List.append_eq_nil_iff.1 h; exact vU_ne n this.1
  have C1 := Lib.hid c1; have HN := Lib.hid hn; have HP := Lib.hid hP; have HNE := Lib.hid hne; have HAB := Lib.hid hab; have HCB := Lib.hid hcb; have HI := Lib.hid hi64
  clear c1 hn h hP hne hab hcb hi64
  refine Calls.mono ?_ (fun e w' h => newOwn_of_row HNE.out h)
  go_enter Try.func44, Try.ntmps44
  go_wp2_with fail
  refine C1.out.mono ?_
  rintro e w1 ⟨g1, k1, rfl, hown1, hb1⟩
  rw [HP.out] at hown1 hb1
  have H1 : Hid (OutI P w w1 (.slice (some ⟨g1, 0, none⟩) (vU n).length k1) (vU n ++ vL (b.take 0))) := Lib.hid (by simpa [vL] using (show OutI P w w1 _ (vU n) from ⟨hown1, hb1⟩))
  clear hown1 hb1
  go_wp2_with fail
  go_loopw [3, 4] (fun o i wr => ∃ (k : Nat) (ov : Value), k ≤ n ∧ i = .int .i64 k ∧ o = ov ∧ Hid (OutI P w wr ov (vU n ++ vL (b.take k)))) (fun _ i _ => n - (intOf i).toNat)
  case atStart => exact ⟨0, _, Nat.zero_le _, rfl, rfl, H1⟩
  case round =>
    obtain ⟨k, ov, hk, rfl, rfl, HR⟩ := hrel
    by_cases hlt : k < n
    · obtain ⟨ha, hbb⟩ := HAB.out.resolve_left (by omega)
      subst ha
      have hck := (HR.out.2.cell (p := ⟨bb, off + k, none⟩) hbb).trans (HCB.out k hlt)
      have hv := vL_take b k (by rw [HN.out]; exact hlt)
      have hx := HI.out.at_ k
      generalize b[k]?.getD 0 = x at hck hv hx
      obtain ⟨Y, hY⟩ : ∃ Y, vU n ++ vL (b.take k) = Y := ⟨_, rfl⟩
      have hlen : Y.length ≤ 100000 := by
        have h1 := vL_len (HI.out.take k)
        rw [List.length_take] at h1
        rw [← hY, List.length_append]; omega
      have hE10 : (vU (zz x)).length ≤ 10 := vU_len10 (zz_lt hx.1 hx.2)
      have c2 := eI_any x wr hx.1 hx.2
      obtain ⟨E, hE⟩ : ∃ E, vU (zz x) = E := ⟨_, rfl⟩
      rw [hE] at c2 hE10 hv
      obtain ⟨M2, hM2⟩ : ∃ M, E.length = M := ⟨_, rfl⟩
      obtain ⟨N, hN⟩ : ∃ N, Y.length = N := ⟨_, rfl⟩
      have hP2 : P ≤ wr.heap.size := by have := HR.out.2.size; have := HP.out; omega
      rw [hM2] at hE10
      rw [hN] at hlen
      have C2 := Lib.hid c2; have HE := Lib.hid hM2; have HNY := Lib.hid hN; have HV := Lib.hid hv; have HYY := Lib.hid hY
      clear c2 hv hE hM2 hN hY
      go_wp2_with fail
      refine C2.out.mono ?_
      rintro e w2 ⟨g2, k2, rfl, hown2, hb2⟩
      rw [HE.out] at hown2 ⊢
      have HO : Hid (w2.ownsRow P 5 1 u3 N (Y.map (Value.int .u8))) := by
        have := HR.out.1; rw [HYY.out, HNY.out] at this
        exact own_same this (fun g eg => hb2.block g (this.lt g eg).2)
      have HNEW := Lib.hid (news_of_row hown2)
      have HOI : Hid (OutI P w w2 u3 Y) := ⟨by rw [HNY.out]; exact HO.out, HR.out.2.trans (hb2.mono hP2)⟩
      have hk2 : M2 ≤ k2 ∧ k2 ≤ 9223372036854775807 := by have h1 := (sli_row hown2).le; have h2 := (sli_row hown2).mx; rw [HE.out] at h1; exact ⟨h1, h2⟩
      obtain ⟨hk2a, hk2b⟩ := hk2
      have hP2 : P ≤ w2.heap.size := by have := hb2.size; omega
      clear hown2 hb2
      go_wp2_with (at_builtin; refine wpList_append_own _ rfl _ _ 24 rfl P 5 i0 (.int .u8 0) 1 1 Try.underlying24 hi hz0 hz1 hz2 rfl (by decide) u3 N (Y.map (Value.int .u8)) rfl HO.out ⟨g2, 0, none⟩ M2 k2 (E.map (Value.int .u8)) rfl (by rw [List.length_map, HE.out]; omega) HNEW.out (one_ints _ _) (by unfold maxLen; omega) (by omega) hP2 ?_; intro v' w3 hown3 hgrow3 _; obtain ⟨A3, k3, rfl⟩ := own_slice hown3)
      have H3 : Hid (OutI P w w3 (.slice A3 (N + M2) k3) (vU n ++ vL (b.take (k + 1)))) := by
        rw [HV.out, ← List.append_assoc, HYY.out]; exact out_step (E := E) HOI.out hP2 hown3 hgrow3
      clear hown3 hgrow3
      go_wp2
      go_roundw
      case rel => exact ⟨k + 1, _, by omega, by go_num, rfl, H3⟩
      case measure => simp [intOf]; omega
    · obtain rfl : n = k := by omega
      go_wp2
      go_ret
      have h1 := HR.out
      rw [List.take_of_length_le (by rw [HN.out]; exact Nat.le_refl _)] at h1
      exact ⟨_, rfl, by rw [HP.out]; exact h1.1, by rw [HP.out]; exact h1.2⟩

theorem eB2_any (n : Int) (w : World) : Calls Try.prog 42 #[.bool (n == 1)] w (NewOwn .u8 5 w [if n = 1 then 1 else 0]) := by
  have := eB_any (n == 1) w
  by_cases h : n = 1
  · simpa [h] using this
  · have h2 : (n == 1) = false := by simp; exact h
    rw [h2] at this ⊢
    rw [if_neg h]
    exact this
theorem encF_len {v : V} (h : Fit v) : (enc v).length ≤ 20010 := by
  have h1 := vU_len10 h.u64
  have h2 := vU_len10 (zz_lt h.n1 h.n2)
  have h3 := vU_len10 (n := v.b.length) (by have := h.bl; omega)
  have h4 := vU_len10 (n := v.l.length) (by have := h.ll; omega)
  have h5 := vL_len h.i64
  have h6 := h.bl
  have h7 := h.ll
  unfold enc
  split
  · omega
  · split
    · omega
    · split
      · simp
      · split
        · rw [List.length_append]; omega
        · rw [List.length_append]; omega

set_option maxRecDepth 100000 in
set_option maxHeartbeats 4000000 in
theorem rencode_any (base : Nat) (A : Option Addr) (cap : Nat) (vs : List V) (w : World) (h : VRow base w (.slice A vs.length cap) vs) (hg : ∀ v ∈ vs, Fit v) (hl : vs.length ≤ 1000) (hE : (encs vs).length ≤ 100000) :
    Calls Try.prog 17 #[.slice A vs.length cap] w (NewRow .u8 5 w (encs vs)) := by
  obtain ⟨i0, hi, hz0, hz1, hz2⟩ := info_parts info5
  obtain ⟨nn, hn⟩ : ∃ n, vs.length = n := ⟨_, rfl⟩
  rw [hn] at h hl ⊢
  obtain ⟨P, hP⟩ : ∃ P, w.heap.size = P := ⟨_, rfl⟩
  have HE0 := Lib.hid hE
  have HN := Lib.hid hn; have HG := Lib.hid hg; have HVR := Lib.hid h; have HP := Lib.hid hP
  clear hn hg h hP hE
  go_enter Try.func17, Try.ntmps17
  go_wp2_with fail
  go_loopw [3, 4] (fun o i wr => ∃ (k : Nat) (ov : Value), k ≤ nn ∧ i = .int .i64 k ∧ o = ov ∧ Hid (OutI P w wr ov (encs (vs.take k)))) (fun _ i _ => nn - (intOf i).toNat)
  case atStart => exact ⟨0, _, Nat.zero_le _, rfl, rfl, Lib.hid ⟨by simpa [encs] using World.ownsRow_nil w P 5 1, Below.refl _ _⟩⟩
  case round =>
    obtain ⟨k, ov, hk, rfl, rfl, HR⟩ := hrel
    by_cases hlt : k < nn
    · have hvk : vs[k]? = some (vs[k]'(by rw [HN.out]; exact hlt)) := List.getElem?_eq_getElem _
      generalize vs[k]'(by rw [HN.out]; exact hlt) = v at hvk
      obtain ⟨g, cap', ab, cb, al, cl, hA, hg1, hg2, hsb, hsl, q0, q1, q2, q3, q4⟩ := HVR.out.at_ hvk
      have hgood := HG.out v (List.mem_of_getElem? hvk)
      have hb2 := HR.out.2
      have hP2 : P ≤ wr.heap.size := by have := hb2.size; have := HP.out; omega
      rw [HP.out] at hg2
      rw [← hb2.cell (p := ⟨g, k * 5, none⟩) hg2] at q0
      rw [← hb2.cell (p := ⟨g, k * 5 + 1, none⟩) hg2] at q1
      rw [← hb2.cell (p := ⟨g, k * 5 + 2, none⟩) hg2] at q2
      rw [← hb2.cell (p := ⟨g, k * 5 + 3, none⟩) hg2] at q3
      rw [← hb2.cell (p := ⟨g, k * 5 + 4, none⟩) hg2] at q4
      have HSL : Hid (Sli .u8 wr ab cb v.b ∧ Sli .i64 wr al cl v.l) := ⟨Sli.below hsb.sli (by rw [HP.out]; exact hb2), Sli.below hsl.sli (by rw [HP.out]; exact hb2)⟩
      have hs := encs_snoc vs k v hvk
      have hlen := Nat.le_trans (encs_take_le vs k) HE0.out
      obtain ⟨Y, hY⟩ : ∃ Y, encs (vs.take k) = Y := ⟨_, rfl⟩
      obtain ⟨E, hE⟩ : ∃ E, enc v = E := ⟨_, rfl⟩
      have hEl := encF_len hgood
      have hv : encs (vs.take (k + 1)) = Y ++ E := by rw [hs, hY, hE]
      rw [hE] at hEl
      rw [hY] at hlen
      obtain ⟨M2, hM2⟩ : ∃ M, E.length = M := ⟨_, rfl⟩
      obtain ⟨N, hN⟩ : ∃ N, Y.length = N := ⟨_, rfl⟩
      rw [hM2] at hEl
      rw [hN] at hlen
      have HE := Lib.hid hM2; have HNY := Lib.hid hN; have HV := Lib.hid hv; have HYY := Lib.hid hY; have HEE := Lib.hid hE; have HGV := Lib.hid hgood
      simp only [Value.slice.injEq] at hA
      obtain ⟨hA, -, -⟩ := hA
      have hk5 := hgood.k5
      clear hsb hsl hgood hb2 hs hvk hM2 hN hv hY hE hg1 hg2
      subst hA
      obtain ⟨kd, u, n, lb, ll⟩ := v
      simp only at q0 q1 q2 q3 q4 hk5 HSL
      have hways : kd = 0 ∨ kd = 1 ∨ kd = 2 ∨ kd = 3 ∨ kd = 4 ∨ kd = 5 := by omega
      rcases hways with rfl | rfl | rfl | rfl | rfl | rfl
      · have hE := enc_0 ⟨0, u, n, lb, ll⟩ rfl
        have cC := eU_any u wr HGV.out.u64
        rw [← hE] at cC
        have C2 : Hid (Calls Try.prog 40 #[.int .u64 (u : Int)] wr (NewOwn .u8 5 wr E)) := by rw [← HEE.out]; exact cC
        clear cC hE
        go_wp2_with fail
        refine C2.out.mono ?_
        rintro e w2 ⟨g2, k2, rfl, hown2, hb2⟩
        rw [HE.out] at hown2 ⊢
        have HO : Hid (w2.ownsRow P 5 1 u3 N (Y.map (Value.int .u8))) := by
          have := HR.out.1; rw [HYY.out, HNY.out] at this
          exact own_same this (fun g eg => hb2.block g (this.lt g eg).2)
        have HNEW := Lib.hid (news_of_row hown2)
        have HOI : Hid (OutI P w w2 u3 Y) := ⟨by rw [HNY.out]; exact HO.out, HR.out.2.trans (hb2.mono hP2)⟩
        have hk2 : M2 ≤ k2 ∧ k2 ≤ 9223372036854775807 := by have h1 := (sli_row hown2).le; have h2 := (sli_row hown2).mx; rw [HE.out] at h1; exact ⟨h1, h2⟩
        obtain ⟨hk2a, hk2b⟩ := hk2
        have hP3 : P ≤ w2.heap.size := by have := hb2.size; omega
        clear hown2 hb2 q0 q1 q2 q3 q4
        go_wp2_with (at_builtin; refine wpList_append_own _ rfl _ _ 24 rfl P 5 i0 (.int .u8 0) 1 1 Try.underlying24 hi hz0 hz1 hz2 rfl (by decide) u3 N (Y.map (Value.int .u8)) rfl HO.out ⟨g2, 0, none⟩ M2 k2 (E.map (Value.int .u8)) rfl (by rw [List.length_map, HE.out]; omega) HNEW.out (one_ints _ _) (by unfold maxLen; omega) (by omega) hP3 ?_; intro v' w3 hown3 hgrow3 _; obtain ⟨A3, k3, rfl⟩ := own_slice hown3)
        have H3 : Hid (OutI P w w3 (.slice A3 (N + M2) k3) (encs (vs.take (k + 1)))) := by
          rw [HV.out]; exact out_step (E := E) HOI.out hP3 hown3 hgrow3
        clear hown3 hgrow3
        go_wp2
        go_roundw
        case rel => exact ⟨k + 1, _, by omega, by go_num, rfl, H3⟩
        case measure => simp [intOf]; omega
      · have hE := enc_1 ⟨1, u, n, lb, ll⟩ rfl
        have cC := eI_any n wr HGV.out.n1 HGV.out.n2
        rw [← hE] at cC
        have C2 : Hid (Calls Try.prog 41 #[.int .i64 n] wr (NewOwn .u8 5 wr E)) := by rw [← HEE.out]; exact cC
        clear cC hE
        go_wp2_with fail
        refine C2.out.mono ?_
        rintro e w2 ⟨g2, k2, rfl, hown2, hb2⟩
        rw [HE.out] at hown2 ⊢
        have HO : Hid (w2.ownsRow P 5 1 u3 N (Y.map (Value.int .u8))) := by
          have := HR.out.1; rw [HYY.out, HNY.out] at this
          exact own_same this (fun g eg => hb2.block g (this.lt g eg).2)
        have HNEW := Lib.hid (news_of_row hown2)
        have HOI : Hid (OutI P w w2 u3 Y) := ⟨by rw [HNY.out]; exact HO.out, HR.out.2.trans (hb2.mono hP2)⟩
        have hk2 : M2 ≤ k2 ∧ k2 ≤ 9223372036854775807 := by have h1 := (sli_row hown2).le; have h2 := (sli_row hown2).mx; rw [HE.out] at h1; exact ⟨h1, h2⟩
        obtain ⟨hk2a, hk2b⟩ := hk2
        have hP3 : P ≤ w2.heap.size := by have := hb2.size; omega
        clear hown2 hb2 q0 q1 q2 q3 q4
        go_wp2_with (at_builtin; refine wpList_append_own _ rfl _ _ 24 rfl P 5 i0 (.int .u8 0) 1 1 Try.underlying24 hi hz0 hz1 hz2 rfl (by decide) u3 N (Y.map (Value.int .u8)) rfl HO.out ⟨g2, 0, none⟩ M2 k2 (E.map (Value.int .u8)) rfl (by rw [List.length_map, HE.out]; omega) HNEW.out (one_ints _ _) (by unfold maxLen; omega) (by omega) hP3 ?_; intro v' w3 hown3 hgrow3 _; obtain ⟨A3, k3, rfl⟩ := own_slice hown3)
        have H3 : Hid (OutI P w w3 (.slice A3 (N + M2) k3) (encs (vs.take (k + 1)))) := by
          rw [HV.out]; exact out_step (E := E) HOI.out hP3 hown3 hgrow3
        clear hown3 hgrow3
        go_wp2
        go_roundw
        case rel => exact ⟨k + 1, _, by omega, by go_num, rfl, H3⟩
        case measure => simp [intOf]; omega
      · have hE := enc_2 ⟨2, u, n, lb, ll⟩ rfl
        have cC := eB2_any n wr
        rw [← hE] at cC
        have C2 : Hid (Calls Try.prog 42 #[.bool (n == 1)] wr (NewOwn .u8 5 wr E)) := by rw [← HEE.out]; exact cC
        clear cC hE
        go_wp2_with fail
        refine C2.out.mono ?_
        rintro e w2 ⟨g2, k2, rfl, hown2, hb2⟩
        rw [HE.out] at hown2 ⊢
        have HO : Hid (w2.ownsRow P 5 1 u3 N (Y.map (Value.int .u8))) := by
          have := HR.out.1; rw [HYY.out, HNY.out] at this
          exact own_same this (fun g eg => hb2.block g (this.lt g eg).2)
        have HNEW := Lib.hid (news_of_row hown2)
        have HOI : Hid (OutI P w w2 u3 Y) := ⟨by rw [HNY.out]; exact HO.out, HR.out.2.trans (hb2.mono hP2)⟩
        have hk2 : M2 ≤ k2 ∧ k2 ≤ 9223372036854775807 := by have h1 := (sli_row hown2).le; have h2 := (sli_row hown2).mx; rw [HE.out] at h1; exact ⟨h1, h2⟩
        obtain ⟨hk2a, hk2b⟩ := hk2
        have hP3 : P ≤ w2.heap.size := by have := hb2.size; omega
        clear hown2 hb2 q0 q1 q2 q3 q4
        go_wp2_with (at_builtin; refine wpList_append_own _ rfl _ _ 24 rfl P 5 i0 (.int .u8 0) 1 1 Try.underlying24 hi hz0 hz1 hz2 rfl (by decide) u3 N (Y.map (Value.int .u8)) rfl HO.out ⟨g2, 0, none⟩ M2 k2 (E.map (Value.int .u8)) rfl (by rw [List.length_map, HE.out]; omega) HNEW.out (one_ints _ _) (by unfold maxLen; omega) (by omega) hP3 ?_; intro v' w3 hown3 hgrow3 _; obtain ⟨A3, k3, rfl⟩ := own_slice hown3)
        have H3 : Hid (OutI P w w3 (.slice A3 (N + M2) k3) (encs (vs.take (k + 1)))) := by
          rw [HV.out]; exact out_step (E := E) HOI.out hP3 hown3 hgrow3
        clear hown3 hgrow3
        go_wp2
        go_roundw
        case rel => exact ⟨k + 1, _, by omega, by go_num, rfl, H3⟩
        case measure => simp [intOf]; omega
      · have hE := enc_34 ⟨3, u, n, lb, ll⟩ (.inl rfl)
        have cC := eR_any ab cb lb wr HSL.out.1 HGV.out.bl
        rw [← hE] at cC
        have C2 : Hid (Calls Try.prog 43 #[.slice ab lb.length cb] wr (NewOwn .u8 5 wr E)) := by rw [← HEE.out]; exact cC
        clear cC hE
        go_wp2_with fail
        refine C2.out.mono ?_
        rintro e w2 ⟨g2, k2, rfl, hown2, hb2⟩
        rw [HE.out] at hown2 ⊢
        have HO : Hid (w2.ownsRow P 5 1 u3 N (Y.map (Value.int .u8))) := by
          have := HR.out.1; rw [HYY.out, HNY.out] at this
          exact own_same this (fun g eg => hb2.block g (this.lt g eg).2)
        have HNEW := Lib.hid (news_of_row hown2)
        have HOI : Hid (OutI P w w2 u3 Y) := ⟨by rw [HNY.out]; exact HO.out, HR.out.2.trans (hb2.mono hP2)⟩
        have hk2 : M2 ≤ k2 ∧ k2 ≤ 9223372036854775807 := by have h1 := (sli_row hown2).le; have h2 := (sli_row hown2).mx; rw [HE.out] at h1; exact ⟨h1, h2⟩
        obtain ⟨hk2a, hk2b⟩ := hk2
        have hP3 : P ≤ w2.heap.size := by have := hb2.size; omega
        clear hown2 hb2 q0 q1 q2 q3 q4
        go_wp2_with (at_builtin; refine wpList_append_own _ rfl _ _ 24 rfl P 5 i0 (.int .u8 0) 1 1 Try.underlying24 hi hz0 hz1 hz2 rfl (by decide) u3 N (Y.map (Value.int .u8)) rfl HO.out ⟨g2, 0, none⟩ M2 k2 (E.map (Value.int .u8)) rfl (by rw [List.length_map, HE.out]; omega) HNEW.out (one_ints _ _) (by unfold maxLen; omega) (by omega) hP3 ?_; intro v' w3 hown3 hgrow3 _; obtain ⟨A3, k3, rfl⟩ := own_slice hown3)
        have H3 : Hid (OutI P w w3 (.slice A3 (N + M2) k3) (encs (vs.take (k + 1)))) := by
          rw [HV.out]; exact out_step (E := E) HOI.out hP3 hown3 hgrow3
        clear hown3 hgrow3
        go_wp2
        go_roundw
        case rel => exact ⟨k + 1, _, by omega, by go_num, rfl, H3⟩
        case measure => simp [intOf]; omega
      · have hE := enc_34 ⟨4, u, n, lb, ll⟩ (.inr rfl)
        have cC := eR_any ab cb lb wr HSL.out.1 HGV.out.bl
        rw [← hE] at cC
        have C2 : Hid (Calls Try.prog 43 #[.slice ab lb.length cb] wr (NewOwn .u8 5 wr E)) := by rw [← HEE.out]; exact cC
        clear cC hE
        go_wp2_with fail
        refine C2.out.mono ?_
        rintro e w2 ⟨g2, k2, rfl, hown2, hb2⟩
        rw [HE.out] at hown2 ⊢
        have HO : Hid (w2.ownsRow P 5 1 u3 N (Y.map (Value.int .u8))) := by
          have := HR.out.1; rw [HYY.out, HNY.out] at this
          exact own_same this (fun g eg => hb2.block g (this.lt g eg).2)
        have HNEW := Lib.hid (news_of_row hown2)
        have HOI : Hid (OutI P w w2 u3 Y) := ⟨by rw [HNY.out]; exact HO.out, HR.out.2.trans (hb2.mono hP2)⟩
        have hk2 : M2 ≤ k2 ∧ k2 ≤ 9223372036854775807 := by have h1 := (sli_row hown2).le; have h2 := (sli_row hown2).mx; rw [HE.out] at h1; exact ⟨h1, h2⟩
        obtain ⟨hk2a, hk2b⟩ := hk2
        have hP3 : P ≤ w2.heap.size := by have := hb2.size; omega
        clear hown2 hb2 q0 q1 q2 q3 q4
        go_wp2_with (at_builtin; refine wpList_append_own _ rfl _ _ 24 rfl P 5 i0 (.int .u8 0) 1 1 Try.underlying24 hi hz0 hz1 hz2 rfl (by decide) u3 N (Y.map (Value.int .u8)) rfl HO.out ⟨g2, 0, none⟩ M2 k2 (E.map (Value.int .u8)) rfl (by rw [List.length_map, HE.out]; omega) HNEW.out (one_ints _ _) (by unfold maxLen; omega) (by omega) hP3 ?_; intro v' w3 hown3 hgrow3 _; obtain ⟨A3, k3, rfl⟩ := own_slice hown3)
        have H3 : Hid (OutI P w w3 (.slice A3 (N + M2) k3) (encs (vs.take (k + 1)))) := by
          rw [HV.out]; exact out_step (E := E) HOI.out hP3 hown3 hgrow3
        clear hown3 hgrow3
        go_wp2
        go_roundw
        case rel => exact ⟨k + 1, _, by omega, by go_num, rfl, H3⟩
        case measure => simp [intOf]; omega
      · have hE := enc_5 ⟨5, u, n, lb, ll⟩ rfl
        have cC := eL_any al cl ll wr HSL.out.2 HGV.out.i64 HGV.out.ll
        rw [← hE] at cC
        have C2 : Hid (Calls Try.prog 44 #[.slice al ll.length cl] wr (NewOwn .u8 5 wr E)) := by rw [← HEE.out]; exact cC
        clear cC hE
        go_wp2_with fail
        refine C2.out.mono ?_
        rintro e w2 ⟨g2, k2, rfl, hown2, hb2⟩
        rw [HE.out] at hown2 ⊢
        have HO : Hid (w2.ownsRow P 5 1 u3 N (Y.map (Value.int .u8))) := by
          have := HR.out.1; rw [HYY.out, HNY.out] at this
          exact own_same this (fun g eg => hb2.block g (this.lt g eg).2)
        have HNEW := Lib.hid (news_of_row hown2)
        have HOI : Hid (OutI P w w2 u3 Y) := ⟨by rw [HNY.out]; exact HO.out, HR.out.2.trans (hb2.mono hP2)⟩
        have hk2 : M2 ≤ k2 ∧ k2 ≤ 9223372036854775807 := by have h1 := (sli_row hown2).le; have h2 := (sli_row hown2).mx; rw [HE.out] at h1; exact ⟨h1, h2⟩
        obtain ⟨hk2a, hk2b⟩ := hk2
        have hP3 : P ≤ w2.heap.size := by have := hb2.size; omega
        clear hown2 hb2 q0 q1 q2 q3 q4
        go_wp2_with (at_builtin; refine wpList_append_own _ rfl _ _ 24 rfl P 5 i0 (.int .u8 0) 1 1 Try.underlying24 hi hz0 hz1 hz2 rfl (by decide) u3 N (Y.map (Value.int .u8)) rfl HO.out ⟨g2, 0, none⟩ M2 k2 (E.map (Value.int .u8)) rfl (by rw [List.length_map, HE.out]; omega) HNEW.out (one_ints _ _) (by unfold maxLen; omega) (by omega) hP3 ?_; intro v' w3 hown3 hgrow3 _; obtain ⟨A3, k3, rfl⟩ := own_slice hown3)
        have H3 : Hid (OutI P w w3 (.slice A3 (N + M2) k3) (encs (vs.take (k + 1)))) := by
          rw [HV.out]; exact out_step (E := E) HOI.out hP3 hown3 hgrow3
        clear hown3 hgrow3
        go_wp2
        go_roundw
        case rel => exact ⟨k + 1, _, by omega, by go_num, rfl, H3⟩
        case measure => simp [intOf]; omega
    · obtain rfl : nn = k := by omega
      go_wp2
      go_ret
      have h1 := HR.out
      rw [List.take_of_length_le (by rw [HN.out]; exact Nat.le_refl _)] at h1
      exact ⟨_, rfl, by rw [HP.out]; exact h1.1, by rw [HP.out]; exact h1.2⟩

end Go.Proofs.Ytfnpnomfdfdonaa
