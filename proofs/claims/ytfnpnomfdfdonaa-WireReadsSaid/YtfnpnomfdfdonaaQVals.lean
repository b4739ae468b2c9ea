/- Contracts of the reference's Reader: Int, Bool, length, Raw, Ints and End. Conditions: at most 100000 bytes are left. -/
import Derived.Test.YtfnpnomfdfdonaaQUint
namespace Go.Proofs.Ytfnpnomfdfdonaa
open Go.RowKit Go.Shelf
set_option linter.unusedVariables false

theorem back_any (z : Nat) (w : World) (h : z < 18446744073709551616) :
    Calls Try.prog 62 #[.int .u64 (z : Int)] w fun e w' => e = .returned (.int .i64 (unz z)) ∧ w = w' := by
  by_cases hz : z % 2 = 1
  · have hq : ((z : Int) % 2 == 1) = true := by simp; omega
    have hr : unz z = -((z : Int) / 2) - 1 := by rw [unz, if_pos hz]; omega
    rw [hr]
    clear hz hr
    go_enter Try.func62, Try.ntmps62
    go_wp2
    go_ret
    exact ⟨rfl, rfl⟩
  · have hq : ((z : Int) % 2 == 1) = false := by simp; omega
    have hr : unz z = (z : Int) / 2 := by rw [unz, if_neg hz]; omega
    rw [hr]
    clear hz hr
    go_enter Try.func62, Try.ntmps62
    go_wp2
    go_ret
    exact ⟨rfl, rfl⟩

theorem qint_any (base p : Nat) (st : Rs) (w : World) (h : Rq w base p st) :
    Calls Try.prog 50 #[.pointer (some ⟨p, 0, none⟩)] w (QPost base p (.int .i64 (rdI st).1) (rdI st).2 w) := by
  have c1 := quint_any base p st w h
  have hlt := h.u_lt
  unfold rdI
  obtain ⟨⟨n, s⟩, hR⟩ : ∃ R, rdU st = R := ⟨_, rfl⟩
  rw [hR] at c1 hlt ⊢
  have c2 := fun W => back_any n W hlt
  have C1 := Lib.hid c1; have C2 := Lib.hid c2
  clear c1 c2 h hR hlt
  go_enter Try.func50, Try.ntmps50
  go_wp2_with fail
  refine C1.out.mono ?_
  rintro e w1 ⟨rfl, h1⟩
  have H1 := Lib.hid h1
  clear h1
  go_wp2_with fail
  refine (C2.out _).mono ?_
  rintro e w2 ⟨rfl, rfl⟩
  go_wp2
  go_ret
  exact ⟨rfl, H1.out⟩

set_option maxRecDepth 100000 in
set_option maxHeartbeats 2000000 in
theorem qbool_any (base p : Nat) (st : Rs) (w : World) (h : Rq w base p st) :
    Calls Try.prog 51 #[.pointer (some ⟨p, 0, none⟩)] w (QPost base p (.bool (rdB st).1) (rdB st).2 w) := by
  have HQ := Lib.hid h
  cases st with
  | bad x =>
    obtain ⟨hc1, hx⟩ := h.bad_err
    have hq : (x == 0) = false := by simp; omega
    have hq2 : (x != 0) = true := by simp; omega
    clear h
    go_enter Try.func51, Try.ntmps51
    go_wp2
    go_ret
    exact ⟨rfl, HQ.out, Only.refl _ _⟩
  | ok zs =>
    obtain ⟨a, cap, hc0, hf0, hle, hmx, _, hat, hcut, _⟩ := h.cut
    obtain ⟨hc1, hf1, herr⟩ := h.ok_err
    have HERR := Lib.hid herr
    cases zs with
    | nil =>
      simp only [List.length_nil] at hc0
      clear h hat hcut herr
      go_enter Try.func51, Try.ntmps51
      go_wp2
      go_ret
      exact ⟨rfl, HERR.out 3 (.inr rfl)⟩
    | cons c t =>
      obtain ⟨hb0, hb1, _⟩ := h.byt.1.cons
      have hl := h.byt.2
      simp only [List.length_cons] at hc0 hle hat hcut hl
      obtain ⟨b, off, rfl, hb, hck⟩ := hat 0 (by omega)
      simp at hck
      have hlen : ((t.length : Int) + 1 == 0) = false := by simp; omega
      by_cases hc : 1 < c
      · have hr : rdB (.ok (c :: t)) = (false, .bad 2) := by simp only [rdB, if_pos hc]
        rw [hr]
        clear hr h hat hcut herr
        go_enter Try.func51, Try.ntmps51
        go_wp2
        go_ret
        exact ⟨rfl, HERR.out 2 (.inl rfl)⟩
      · have hr : rdB (.ok (c :: t)) = (c == 1, .ok t) := by simp only [rdB, if_neg hc]; rfl
        rw [hr]
        by_cases hcap : cap = 1
        · subst hcap
          have hc2 := hcut 1 (by omega) (some ⟨b, off, none⟩) 0 (by omega) (.inr ⟨b, off, off, rfl, rfl, .inr (by omega)⟩)
          rw [show t.length + 1 - 1 = 0 by omega] at hc2
          have HC2 := Lib.hid hc2
          clear hr h hat hcut herr hc2
          go_enter Try.func51, Try.ntmps51
          go_wp2
          go_ret
          exact ⟨rfl, HC2.out⟩
        · have hc2 := hcut 1 (by omega) (some ⟨b, off + 1, none⟩) (cap - 1) rfl (.inr ⟨b, off, _, rfl, rfl, .inl rfl⟩)
          rw [show t.length + 1 - 1 = t.length by omega] at hc2
          have HC2 := Lib.hid hc2
          clear hr h hat hcut herr hc2
          go_enter Try.func51, Try.ntmps51
          go_wp2
          go_ret
          exact ⟨rfl, HC2.out⟩

theorem qend_any (base p : Nat) (st : Rs) (w : World) (h : Rq w base p st) :
    Calls Try.prog 25 #[.pointer (some ⟨p, 0, none⟩)] w fun e w' => e = .returned (.int .i64 (rdEnd st)) ∧ w = w' := by
  cases st with
  | bad x =>
    obtain ⟨hc1, hx⟩ := h.bad_err
    have hq : (x == 0) = false := by simp; omega
    clear h
    go_enter Try.func25, Try.ntmps25
    go_wp2
    go_ret
    exact ⟨rfl, rfl⟩
  | ok zs =>
    obtain ⟨a, cap, hc0, hf0, hle, hmx, _, hat, hcut, _⟩ := h.cut
    obtain ⟨hc1, hf1, herr⟩ := h.ok_err
    clear hat hcut herr h
    cases zs with
    | nil =>
      simp only [List.length_nil] at hc0
      go_enter Try.func25, Try.ntmps25
      go_wp2
      go_ret
      exact ⟨rfl, rfl⟩
    | cons c t =>
      simp only [List.length_cons] at hc0
      go_enter Try.func25, Try.ntmps25
      go_wp2
      go_ret
      exact ⟨rfl, rfl⟩

set_option maxRecDepth 100000 in
set_option maxHeartbeats 2000000 in
theorem qlen_any (base p : Nat) (st : Rs) (w : World) (h : Rq w base p st) :
    Calls Try.prog 63 #[.pointer (some ⟨p, 0, none⟩)] w (QPost base p (.int .i64 ((rdN st).1 : Int)) (rdN st).2 w) := by
  have c1 := quint_any base p st w h
  have hlt := h.u_lt
  unfold rdN
  obtain ⟨⟨n, s⟩, hR⟩ : ∃ R, rdU st = R := ⟨_, rfl⟩
  rw [hR] at c1 hlt ⊢
  have C1 := Lib.hid c1
  simp only at hlt
  clear c1 h
  cases s with
  | bad x =>
    simp only
    obtain rfl := rdU_bad hR
    clear hR
    go_enter Try.func63, Try.ntmps63
    go_wp2_with fail
    refine C1.out.mono ?_
    rintro e w1 ⟨rfl, h1, ho⟩
    obtain ⟨hc1, hx⟩ := h1.bad_err
    have hq : (x == 0) = false := by simp; omega
    have hq2 : (x != 0) = true := by simp; omega
    have H1 := Lib.hid (And.intro h1 ho)
    clear h1 ho
    go_wp2
    go_ret
    exact ⟨rfl, H1.out⟩
  | ok r =>
    simp only
    clear hR
    by_cases hn : r.length < n
    · rw [if_pos hn]
      go_enter Try.func63, Try.ntmps63
      go_wp2_with fail
      refine C1.out.mono ?_
      rintro e w1 ⟨rfl, h1, ho⟩
      obtain ⟨a, cap, hc0, hf0, hle, hmx, _, hat, hcut, _⟩ := h1.cut
      obtain ⟨hc1, hf1, herr⟩ := h1.ok_err
      have hlen := h1.byt.2
      have H1 : Hid (Rq (w1.setCell ⟨p, 1, none⟩ (.int .i64 3)) base p (.bad 3) ∧ Only (fun k => k = p) w (w1.setCell ⟨p, 1, none⟩ (.int .i64 3))) := ⟨(herr 3 (.inr rfl)).1, ho.trans (herr 3 (.inr rfl)).2⟩
      clear h1 ho hat hcut herr
      go_wp2
      go_ret
      exact ⟨rfl, H1.out⟩
    · rw [if_neg hn]
      go_enter Try.func63, Try.ntmps63
      go_wp2_with fail
      refine C1.out.mono ?_
      rintro e w1 ⟨rfl, h1, ho⟩
      obtain ⟨a, cap, hc0, hf0, hle, hmx, _, hat, hcut, _⟩ := h1.cut
      obtain ⟨hc1, hf1, herr⟩ := h1.ok_err
      have hlen := h1.byt.2
      have H1 := Lib.hid (And.intro h1 ho)
      clear h1 ho hat hcut herr
      go_wp2
      go_ret
      exact ⟨rfl, H1.out⟩

end Go.Proofs.Ytfnpnomfdfdonaa
