/- Contracts of the reference's Reader: Raw and Ints. Conditions: at most 100000 bytes are left. -/
import Derived.Test.YtfnpnomfdfdonaaQVals
namespace Go.Proofs.Ytfnpnomfdfdonaa
open Go.RowKit Go.Shelf
set_option linter.unusedVariables false

def QRawPost (base p : Nat) (Z : List Int) (st : Rs) (w : World) (e : Ending) (w' : World) : Prop :=
  ∃ ab cb, e = .returned (.slice ab Z.length cb) ∧ SliAt .u8 p w' ab cb Z ∧ Rq w' base p st ∧ Only (fun j => j = p) w w'
theorem rdN_ok {st : Rs} {n : Nat} {r : List Int} (h : rdN st = (n, .ok r)) : n ≤ r.length := by
  unfold rdN at h
  split at h
  · cases h
  · split at h
    · cases h
    · cases h; omega
theorem rdN_bad {st : Rs} {n : Nat} {e : Int} (h : rdN st = (n, .bad e)) : n = 0 := by
  unfold rdN at h
  split at h
  · cases h; rfl
  · split at h
    · cases h; rfl
    · cases h

set_option maxRecDepth 100000 in
set_option maxHeartbeats 2000000 in
theorem qraw_any (base p : Nat) (st : Rs) (w : World) (h : Rq w base p st) :
    Calls Try.prog 52 #[.pointer (some ⟨p, 0, none⟩)] w (QRawPost base p (rdRaw st).1 (rdRaw st).2 w) := by
  have c1 := qlen_any base p st w h
  rw [rdRaw_eq]
  obtain ⟨⟨n, s⟩, hR⟩ : ∃ R, rdN st = R := ⟨_, rfl⟩
  rw [hR] at c1 ⊢
  have C1 := Lib.hid c1
  clear c1 h
  cases s with
  | bad x =>
    simp only
    obtain rfl := rdN_bad hR
    clear hR
    go_enter Try.func52, Try.ntmps52
    go_wp2_with fail
    refine C1.out.mono ?_
    rintro e w1 ⟨rfl, h1, ho⟩
    obtain ⟨hc1, hx⟩ := h1.bad_err
    have hq2 : (x != 0) = true := by simp; omega
    have H1 := Lib.hid (And.intro h1 ho)
    clear h1 ho
    go_wp2
    go_ret
    exact ⟨none, 0, rfl, ⟨by simp, by omega, fun _ => rfl, .inl rfl⟩, H1.out⟩
  | ok r =>
    simp only
    have hnr := rdN_ok hR
    clear hR
    go_enter Try.func52, Try.ntmps52
    go_wp2_with fail
    refine C1.out.mono ?_
    rintro e w1 ⟨rfl, h1, ho⟩
    obtain ⟨a, cap, hc0, hf0, hle, hmx, hloc, hat, hcut, htk⟩ := h1.cut
    obtain ⟨hc1, hf1, herr⟩ := h1.ok_err
    have hlen := h1.byt.2
    have htn : (r.take n).length = n := by rw [List.length_take]; omega
    have HTN := Lib.hid htn
    obtain ⟨L, hL⟩ : ∃ L, r.length = L := ⟨_, rfl⟩
    rw [hL] at hc0 hle hlen hloc hat hcut htk hnr
    have HTK := Lib.hid (htk n hnr); have HCUT := Lib.hid hcut; have HO := Lib.hid ho
    clear h1 hat htk hcut herr htn hL ho
    rcases hloc with ⟨rfl, rfl, rfl⟩ | ⟨b, off, rfl, hb⟩
    · obtain rfl : n = 0 := by omega
      have H2 := Lib.hid (HCUT.out 0 (by omega) none 0 rfl (.inl ⟨rfl, rfl, rfl⟩))
      go_wp2
      go_ret
      refine ⟨none, 0, by rw [HTN.out]; rfl, HTK.out.keep (fun b hb => Below.heap_setCell w1 ⟨p, 0, none⟩ _ b (by show b ≠ p; omega)), H2.out.1, HO.out.trans H2.out.2⟩
    · by_cases hcn : cap = n
      · subst hcn
        have hl0 : L - cap = 0 := by omega
        have h2 := HCUT.out cap (by omega) (some ⟨b, off, none⟩) 0 (by omega) (.inr ⟨b, off, off, rfl, rfl, .inr (by omega)⟩)
        rw [hl0] at h2
        have H2 := Lib.hid h2
        clear h2
        go_wp2
        go_ret
        refine ⟨some ⟨b, off, none⟩, cap, by rw [HTN.out]; rfl, HTK.out.keep (fun b hb => Below.heap_setCell w1 ⟨p, 0, none⟩ _ b (by show b ≠ p; omega)), H2.out.1, HO.out.trans H2.out.2⟩
      · have H2 := Lib.hid (HCUT.out n (by omega) (some ⟨b, off + n, none⟩) (cap - n) rfl (.inr ⟨b, off, off + n, rfl, rfl, .inl rfl⟩))
        go_wp2
        go_ret
        refine ⟨some ⟨b, off, none⟩, cap, by rw [HTN.out]; rfl, HTK.out.keep (fun b hb => Below.heap_setCell w1 ⟨p, 0, none⟩ _ b (by show b ≠ p; omega)), H2.out.1, HO.out.trans H2.out.2⟩

theorem itS_add (f : Rs → Int × Rs) (st : Rs) (k j : Nat) : itS f st (k + j) = itS f (itS f st k) j := by
  induction j with
  | zero => rfl
  | succ j ih => rw [← Nat.add_assoc, itS, ih]; rfl
theorem it_bad2 (e : Int) (k : Nat) : itS rdI (.bad e) k = .bad e := by
  induction k with
  | zero => rfl
  | succ k ih => rw [itS, ih]; rfl
theorem rdInts_nbad {st : Rs} {n : Nat} {e : Int} (h : rdN st = (n, .bad e)) : rdInts st = ([], .bad e) := by unfold rdInts rdList; rw [h]
theorem rdInts_bad {st : Rs} {n : Nat} {r : List Int} {e : Int} (h : rdN st = (n, .ok r)) (h2 : itS rdI (.ok r) n = .bad e) : rdInts st = ([], .bad e) := by unfold rdInts rdList; rw [h]; simp only [h2]
theorem rdInts_ok {st : Rs} {n : Nat} {r r' : List Int} (h : rdN st = (n, .ok r)) (h2 : itS rdI (.ok r) n = .ok r') : rdInts st = (itL rdI (.ok r) n, .ok r') := by unfold rdInts rdList; rw [h]; simp only [h2]
/-- What holds in the loop of Ints. -/
def QIntsI (base p P k : Nat) (r : List Int) (ov : Value) (w wr : World) : Prop :=
  Rq wr base p (itS rdI (.ok r) k) ∧ Only (fun j => j = p) w wr ∧ ∀ r', itS rdI (.ok r) k = .ok r' → wr.ownsRow P 3 1 ov k ((itL rdI (.ok r) k).map (Value.int .i64))
def QIntsPost (base p P : Nat) (Z : List Int) (st : Rs) (w : World) (e : Ending) (w' : World) : Prop :=
  ∃ al cl, e = .returned (.slice al Z.length cl) ∧ SlT .i64 3 P w' al cl Z ∧ Rq w' base p st ∧ Only (fun j => j = p) w w'

set_option maxRecDepth 100000 in
set_option maxHeartbeats 2000000 in
theorem qints_any (base p : Nat) (st : Rs) (w : World) (h : Rq w base p st) :
    Calls Try.prog 53 #[.pointer (some ⟨p, 0, none⟩)] w (QIntsPost base p w.heap.size (rdInts st).1 (rdInts st).2 w) := by
  obtain ⟨i3, hi3, hy0, hy1, hy2⟩ := info_parts info3
  have c1 := qlen_any base p st w h
  have hpw := h.lt.2
  obtain ⟨⟨n, s⟩, hR⟩ : ∃ R, rdN st = R := ⟨_, rfl⟩
  rw [hR] at c1
  obtain ⟨P, hP⟩ : ∃ P, w.heap.size = P := ⟨_, rfl⟩
  have C1 := Lib.hid c1; have HP := Lib.hid hP
  rw [hP] at hpw ⊢
  clear c1 h hP
  cases s with
  | bad x =>
    rw [rdInts_nbad hR]
    obtain rfl := rdN_bad hR
    clear hR
    go_enter Try.func53, Try.ntmps53
    go_wp2_with fail
    refine C1.out.mono ?_
    rintro e w1 ⟨rfl, h1, ho⟩
    have H1 := Lib.hid (And.intro h1 ho)
    clear h1 ho
    go_wp2_with fail
    go_loopw [4, 5] (fun o i wr => i = .int .i64 0 ∧ wr = w1) (fun _ _ _ => 0)
    case atStart => exact ⟨rfl, rfl⟩
    case round =>
      obtain ⟨rfl, rfl⟩ := hrel
      obtain ⟨hc1, hx⟩ := H1.out.1.bad_err
      have hq2 : (x != 0) = true := by simp; omega
      go_wp2
      go_ret
      exact ⟨none, 0, rfl, SlT.nil_ _ _ _ _, H1.out⟩
  | ok r =>
    have hnr := rdN_ok hR
    have HN := Lib.hid hR
    clear hR
    obtain ⟨Q, hQ⟩ : ∃ Q, rdInts st = Q := ⟨_, rfl⟩
    have HQ := Lib.hid hQ
    rw [hQ]
    clear hQ
    go_enter Try.func53, Try.ntmps53
    go_wp2_with fail
    refine C1.out.mono ?_
    rintro e w1 ⟨rfl, h1, ho⟩
    have hrl := h1.byt.2
    have hn5 : n ≤ 100000 := by omega
    have hP1 : P ≤ w1.heap.size := by have := ho.size; have := HP.out; omega
    have H1 : Hid (QIntsI base p P 0 r (.slice none 0 0) w w1) := ⟨h1, ho, fun r' _ => World.ownsRow_nil _ _ _ _⟩
    clear h1 ho
    go_wp2_with fail
    go_loopw [4, 5] (fun o i wr => ∃ (k : Nat) (ov : Value), k ≤ n ∧ i = .int .i64 k ∧ o = ov ∧ Hid (QIntsI base p P k r ov w wr)) (fun _ i _ => n - (intOf i).toNat)
    case atStart => exact ⟨0, _, Nat.zero_le _, rfl, rfl, H1⟩
    case round =>
      obtain ⟨k, ov, hk, rfl, rfl, HR⟩ := hrel
      obtain ⟨hrq, hon, hrow⟩ := HR.out
      obtain ⟨s, hs⟩ : ∃ s, itS rdI (.ok r) k = s := ⟨_, rfl⟩
      rw [hs] at hrq hrow
      have HS := Lib.hid hs
      clear hs
      cases s with
      | bad x =>
        obtain ⟨hc1, hx⟩ := hrq.bad_err
        have hq : (x == 0) = false := by simp; omega
        have hq2 : (x != 0) = true := by simp; omega
        have H2 : Hid (Rq wr base p (.bad x) ∧ Only (fun j => j = p) w wr) := ⟨hrq, hon⟩
        have hfin : itS rdI (.ok r) n = .bad x := by
          rw [show n = k + (n - k) by omega, itS_add, HS.out, it_bad2]
        have hq3 := HQ.out
        rw [rdInts_bad HN.out hfin] at hq3
        have HQ3 := Lib.hid hq3
        clear hrq hon hrow hfin hq3 HR
        by_cases hlt : k < n
        · go_wp2
          go_ret
          rw [← HQ3.out]
          exact ⟨none, 0, rfl, SlT.nil_ _ _ _ _, H2.out⟩
        · go_wp2
          go_ret
          rw [← HQ3.out]
          exact ⟨none, 0, rfl, SlT.nil_ _ _ _ _, H2.out⟩
      | ok r1 =>
        obtain ⟨hc1, _, _⟩ := hrq.ok_err
        by_cases hlt : k < n
        · have c2 := qint_any base p (.ok r1) wr hrq
          have hnx : itS rdI (.ok r) (k + 1) = (rdI (.ok r1)).2 := by rw [itS, HS.out]
          have hel : itL rdI (.ok r) (k + 1) = itL rdI (.ok r) k ++ [(rdI (.ok r1)).1] := by rw [itL_succ, itE, HS.out]
          obtain ⟨⟨x, s2⟩, hR2⟩ : ∃ R, rdI (.ok r1) = R := ⟨_, rfl⟩
          rw [hR2] at c2 hnx hel
          have hwp := hrq.lt.2
          have hsz := hon.size
          rw [HP.out] at hsz
          have C2 := Lib.hid c2; have HNX := Lib.hid hnx; have HEL := Lib.hid hel
          have HRW := Lib.hid (hrow r1 rfl); have HON := Lib.hid hon
          obtain ⟨xs, hxs⟩ : ∃ xs, itL rdI (.ok r) k = xs := ⟨_, rfl⟩
          have HXS := Lib.hid hxs
          clear c2 hnx hel hrq hon hrow hR2 HR hxs
          go_wp2_with fail
          refine C2.out.mono ?_
          rintro e w2 ⟨rfl, hr2, ho2⟩
          have hsz2 := ho2.size
          have HO : Hid (w2.ownsRow P 3 1 u4 k (xs.map (Value.int .i64))) := by
            have := HRW.out; rw [HXS.out] at this
            exact own_same this (fun g eg => ho2.block g (this.lt g eg).2 (by have := (this.lt g eg).1; omega))
          have H2 := Lib.hid (And.intro hr2 (HON.out.trans ho2))
          clear hr2 ho2
          go_wp2_with (at_builtin; refine wpList_append_own _ rfl _ _ 22 rfl P 3 i3 (.int .i64 0) 1 8 Try.underlying22 hi3 hy0 hy1 hy2 rfl (by decide) u4 k (xs.map (Value.int .i64)) rfl (HO.out.alloc _) ⟨w2.heap.size, 0, none⟩ 1 1 [.int .i64 x] rfl rfl (cell_one_new _ _ _) (fun x hx => by simp at hx; subst hx; rfl) (by unfold maxLen; omega) (by omega) (by simp; omega) ?_; intro v' w3 hown3 hgrow3 _; obtain ⟨g3, k3, rfl⟩ := ownsRow_succ hown3)
          have hb3 : Below P w2 w3 := ((Below.refl _ _).alloc (by omega) _).grown hgrow3 (by simp; omega) (fun g eg => (HO.out.lt g eg).1)
          have H3 : Hid (QIntsI base p P (k + 1) r (.slice (some ⟨g3, 0, none⟩) (k + 1) k3) w w3) := by
            refine ⟨by rw [HNX.out]; exact H2.out.1.keep (fun b h2 => hb3.block b (by have := H2.out.1.lt.1; omega)), ?_, fun r' _ => by rw [HEL.out, HXS.out, List.map_append]; exact hown3⟩
            exact ⟨hb3.os.trans H2.out.2.os, hb3.tape.trans H2.out.2.tape, hb3.output.trans H2.out.2.output, Nat.le_trans H2.out.2.size hb3.size, fun j hj hT => (hb3.block j (by rw [HP.out] at hj; exact hj)).trans (H2.out.2.block j hj hT)⟩
          clear hown3 hgrow3 hb3
          go_wp2
          go_roundw
          case rel => exact ⟨k + 1, _, by omega, by go_num, rfl, H3⟩
          case measure => simp [intOf]; omega
        · obtain rfl : n = k := by omega
          have hq3 := HQ.out
          rw [rdInts_ok HN.out HS.out] at hq3
          have HQ3 := Lib.hid hq3
          obtain ⟨A, c, rfl⟩ := own_slice (hrow r1 rfl)
          have HT := Lib.hid (slT_of_own (hrow r1 rfl))
          have H2 := Lib.hid (And.intro hrq hon)
          clear hq3 hrq hon hrow HR
          go_wp2
          go_ret
          rw [← HQ3.out]
          exact ⟨A, c, by rw [itL_len]; rfl, HT.out, H2.out⟩

end Go.Proofs.Ytfnpnomfdfdonaa
