/- The program's Equal. Conditions: trees of at most 100000 nodes. -/
import Derived.Test.YtfecajeenmnoeaaSEq
namespace Go.Proofs.Ytfecajeenmnoeaa
open Go.RowKit Go.Shelf
set_option linter.unusedVariables false

abbrev eqF : Nat := 52
set_option maxRecDepth 100000 in
set_option maxHeartbeats 4000000 in
theorem eqfunc_any (ks ks2 : List Nd) (a : Option Addr) (n cap : Nat) (a' : Option Addr) (n' cap' : Nat) (w : World) (G : Nat → Prop) (hK : KV G w a n cap ks) (hK' : KV G w a' n' cap' ks2) (hn : n ≤ 100000)
    (hrec : ∀ x y (u : Option Addr) (un uc : Nat) (v : Option Addr) (vn vc : Nat) W, x ∈ ks → y ∈ ks2 → KV G W u un uc x.kids → KV G W v vn vc y.kids → Calls Try.prog 21 #[ndv x u un uc, ndv y v vn vc] W fun e w' => e = .returned (.bool (x.eqv y)) ∧ Below W.heap.size W w') :
    Calls Try.prog eqF #[.slice a n cap, .slice a' n' cap', .func (.func 21) #[] #[]] w fun e w' => e = .returned (.bool (eqvs ks ks2)) ∧ Below w.heap.size w w' := by
  obtain ⟨hkl, hnc, hcm⟩ := hK.len
  obtain ⟨hkl', hnc', hcm'⟩ := hK'.len
  have HK1 := Lib.hid hK; have HK2 := Lib.hid hK'; have HREC := Lib.hid hrec; have HKN := Lib.hid hkl; have HKN2 := Lib.hid hkl'
  have hmx : Try.prog.follows .mixedOrders = true := by kernel_rfl
  clear hK hK' hrec hkl hkl' hnc hcm hnc' hcm'
  by_cases e3 : n = n'
  · subst e3
    unfold eqF
    go_enter Try.func52, Try.ntmps52
    go_wp2_with fail
    go_loopw [17] (fun g wr => ∃ i : Nat, g = .int .i64 (i : Int) ∧ i ≤ n ∧ Hid (∀ j (h1 : j < ks.length) (h2 : j < ks2.length), j < i → ks[j].eqv ks2[j] = true) ∧ Hid (Below w.heap.size w wr)) (fun g _ => n - (intOf g).toNat)
    case atStart => exact ⟨0, rfl, by omega, fun j _ _ h => by omega, Lib.hid (Below.refl _ _)⟩
    case round =>
      obtain ⟨i, rfl, hi, HE, HR⟩ := hrel
      by_cases hin : i < n
      · have hin2 : (i : Int) < (n : Int) := by omega
        have m1 : IntKind.i64.wrap ((i : Int) + 1) = (i : Int) + 1 := by simp [IntKind.wrap, IntKind.signed, IntKind.bits]; omega
        have hik : i < ks.length := by rw [HKN.out]; exact hin
        have hik2 : i < ks2.length := by rw [HKN2.out]; exact hin
        obtain ⟨b, off, u, un, uc, rfl, hG, hb, hku, hcell⟩ := HK1.out.kid hik
        obtain ⟨b2, off2, u2, un2, uc2, rfl, hG2, hb2, hku2, hcell2⟩ := HK2.out.kid hik2
        obtain ⟨x, hx⟩ : ∃ x, ks[i] = x := ⟨_, rfl⟩
        obtain ⟨y, hy⟩ : ∃ x, ks2[i] = x := ⟨_, rfl⟩
        rw [hx] at hku hcell
        rw [hy] at hku2 hcell2
        have hxm : x ∈ ks := by rw [← hx]; exact List.getElem_mem hik
        have hym : y ∈ ks2 := by rw [← hy]; exact List.getElem_mem hik2
        have HC : Hid (∀ W, Below wr.heap.size wr W → Calls Try.prog 21 #[ndv x u un uc, ndv y u2 un2 uc2] W fun e w' => e = .returned (.bool (x.eqv y)) ∧ Below W.heap.size W w') := fun W hW => by
          have hb1 := HR.out.trans (hW.mono HR.out.size)
          exact HREC.out x y u un uc u2 un2 uc2 W hxm hym (hku.on hb1) (hku2.on hb1)
        have HNO : Hid (x.eqv y = false → eqvs ks ks2 = false) := fun h => eqvs_no hik hik2 (by rw [hx, hy]; exact h)
        have HYES : Hid (x.eqv y = true → ∀ j (h1 : j < ks.length) (h2 : j < ks2.length), j < i + 1 → ks[j].eqv ks2[j] = true) := fun h j h1 h2 h3 => by
          by_cases he : j = i
          · subst he; rw [hx, hy]; exact h
          · exact HE.out j h1 h2 (by omega)
        obtain ⟨d0, d1, d2, d3⟩ := hcell wr (HR.out.block b hb)
        obtain ⟨W5, hW5⟩ : ∃ W, wr.alloc (.cells (ndc x u un uc) 25) = W := ⟨_, rfl⟩
        have b5 : Below wr.heap.size wr W5 := by rw [← hW5]; exact (Below.refl _ _).alloc (Nat.le_refl _) _
        obtain ⟨g0, g1, g2, g3⟩ := hcell2 W5 ((b5.block b2 (by have := HR.out.size; omega)).trans (HR.out.block b2 hb2))
        have HB5 := Lib.hid b5
        have b6 : Below wr.heap.size wr (W5.alloc (.cells (ndc y u2 un2 uc2) 25)) := b5.alloc b5.size _
        have HB6 := Lib.hid b6
        unfold ndv at HC
        unfold ndc at hW5 HB6
        obtain ⟨xi, hxi⟩ : ∃ z, x.id = z := ⟨_, rfl⟩
        obtain ⟨xk, hxk⟩ : ∃ z, x.kind = z := ⟨_, rfl⟩
        obtain ⟨xt, hxt⟩ : ∃ z, x.text = z := ⟨_, rfl⟩
        obtain ⟨yi, hyi⟩ : ∃ z, y.id = z := ⟨_, rfl⟩
        obtain ⟨yk, hyk⟩ : ∃ z, y.kind = z := ⟨_, rfl⟩
        obtain ⟨yt, hyt⟩ : ∃ z, y.text = z := ⟨_, rfl⟩
        obtain ⟨bb, hbb⟩ : ∃ z, x.eqv y = z := ⟨_, rfl⟩
        rw [hxi, hxk, hxt, hyi, hyk, hyt] at HC
        rw [hbb] at HC HNO HYES
        rw [hxi, hxk, hxt] at hW5
        rw [hyi, hyk, hyt] at HB6
        rw [hxi] at d0; rw [hxk] at d1; rw [hxt] at d2
        rw [hyi] at g0; rw [hyk] at g1; rw [hyt] at g2
        rw [← hW5] at g0 g1 g2 g3 HB6
        clear hG hG2 hb hb2 hku hku2 hcell hcell2 hx hy hxm hym hxi hxk hxt hyi hyk hyt hik hik2 hbb b5 b6 hW5
        go_wp2_with fail
        refine (HC.out _ HB6.out).mono ?_
        rintro e w5 ⟨rfl, b5⟩
        have H5 : Hid (Below w.heap.size w w5) := HR.out.trans ((HB6.out.trans (b5.mono HB6.out.size)).mono HR.out.size)
        clear b5 d0 d1 d2 d3 g0 g1 g2 g3
        cases bb with
        | false =>
          have HNF := Lib.hid (HNO.out rfl)
          go_wp2_with fail
          go_ret
          exact ⟨by simp [HNF.out], H5.out⟩
        | true =>
          have HY2 := Lib.hid (HYES.out rfl)
          go_wp2_with fail
          go_roundw
          case rel => exact ⟨i + 1, by go_num, by omega, HY2.out, H5⟩
          case measure => simp [intOf]; omega
      · have hin2 : ¬ ((i : Int) < (n : Int)) := by omega
        obtain rfl : i = n := by omega
        have hall : eqvs ks ks2 = true := (eqvs_iff ks ks2).2 ⟨by rw [HKN.out, HKN2.out], fun j h1 h2 => HE.out j h1 h2 (by rw [← HKN.out]; exact h1)⟩
        have HAL := Lib.hid hall
        clear hall hi
        go_wp2_with fail
        go_ret
        exact ⟨by simp [HAL.out], HR.out⟩
  · have hne : eqvs ks ks2 = false := eqvs_len (by rw [HKN.out, HKN2.out]; exact e3)
    have e3' : ¬ ((n : Int) = (n' : Int)) := by omega
    rw [hne]
    unfold eqF
    go_enter Try.func52, Try.ntmps52
    go_wp2_with fail
    go_ret
    exact ⟨rfl, Below.refl _ _⟩

set_option maxRecDepth 100000 in
set_option maxHeartbeats 4000000 in
theorem pequal_any : ∀ (d : Nat) (s t : Nd) (a : Option Addr) (n cap : Nat) (a' : Option Addr) (n' cap' : Nat) (w : World) (G : Nat → Prop), s.dep ≤ d → KV G w a n cap s.kids → KV G w a' n' cap' t.kids → s.cnt ≤ 100000 →
    Calls Try.prog 21 #[ndv s a n cap, ndv t a' n' cap'] w fun e w' => e = .returned (.bool (s.eqv t)) ∧ Below w.heap.size w w'
  | 0, s, t, a, n, cap, a', n', cap', w, G, hd, hK, hK', hc => by have := s.dep_eq; omega
  | d + 1, s, t, a, n, cap, a', n', cap', w, G, hd, hK, hK', hc => by
    obtain ⟨W1, hW1⟩ : ∃ W, (w.alloc (.cells (ndc s a n cap) 25)).alloc (.cells (ndc t a' n' cap') 25) = W := ⟨_, rfl⟩
    have b1 : Below w.heap.size w W1 := by rw [← hW1]; exact ((Below.refl _ _).alloc (Nat.le_refl _) _).alloc (by simp) _
    have heq := s.eqv_eq t
    have hkn := s.kids_len
    have hkl := hK.len
    have HEF : Hid (Calls Try.prog eqF #[.slice a n cap, .slice a' n' cap', .func (.func 21) #[] #[]] W1 fun e w' => e = .returned (.bool (eqvs s.kids t.kids)) ∧ Below W1.heap.size W1 w') :=
      eqfunc_any s.kids t.kids a n cap a' n' cap' W1 G (hK.on b1) (hK'.on b1) (by omega) (fun x y u un uc v vn vc W hx hy h1 h2 => by
        have := s.kid_dep hx
        have := s.kid_cnt hx
        exact pequal_any d x y u un uc v vn vc W G (by omega) h1 h2 (by omega))
    obtain ⟨i1, hi1⟩ : ∃ x, s.id = x := ⟨_, rfl⟩
    obtain ⟨kd, hkd⟩ : ∃ x, s.kind = x := ⟨_, rfl⟩
    obtain ⟨tx, htx⟩ : ∃ x, s.text = x := ⟨_, rfl⟩
    obtain ⟨i2, hi2⟩ : ∃ x, t.id = x := ⟨_, rfl⟩
    obtain ⟨kd2, hkd2⟩ : ∃ x, t.kind = x := ⟨_, rfl⟩
    obtain ⟨tx2, htx2⟩ : ∃ x, t.text = x := ⟨_, rfl⟩
    obtain ⟨bb, hbb⟩ : ∃ z, eqvs s.kids t.kids = z := ⟨_, rfl⟩
    unfold ndv ndc at *
    rw [hi1, hkd, htx, hi2, hkd2, htx2] at hW1 ⊢
    rw [hkd, htx, hkd2, htx2, hbb] at heq
    rw [hbb] at HEF
    have HW1 := Lib.hid hW1; have HB1 := Lib.hid b1
    rw [heq]
    clear hK hK' hd hc hW1 b1 hi1 hkd htx hi2 hkd2 htx2 heq hkn hkl hbb
    unfold eqF at HEF
    by_cases e1 : kd = kd2
    · by_cases e2 : tx = tx2
      · subst e1 e2
        have qt : (tx.toList == tx.toList) = true := by simp
        simp only [decide_true, Bool.true_and]
        go_enter Try.func21, Try.ntmps21
        go_wp2_with (go_at_call 52; rw [show (w.alloc (.cells #[.int .i64 i1, .int .i64 kd, .string tx, .slice a n cap] 25)).alloc (.cells #[.int .i64 i2, .int .i64 kd, .string tx, .slice a' n' cap'] 25) = W1 from HW1.out]; refine HEF.out.mono ?_; rintro e w5 ⟨rfl, b5⟩)
        have H5 := Lib.hid (HB1.out.trans (b5.mono HB1.out.size))
        clear b5
        go_wp2_with fail
        go_ret
        exact ⟨by simp, H5.out⟩
      · have e2' : (tx.toList == tx2.toList) = false := seq_ne e2
        subst e1
        simp only [decide_true, Bool.true_and, decide_eq_false e2, Bool.false_and]
        go_enter Try.func21, Try.ntmps21
        go_wp2_with fail
        rw [show (w.alloc (.cells #[.int .i64 i1, .int .i64 kd, .string tx, .slice a n cap] 25)).alloc (.cells #[.int .i64 i2, .int .i64 kd, .string tx2, .slice a' n' cap'] 25) = W1 from HW1.out]
        go_ret
        exact ⟨rfl, HB1.out⟩
    · simp only [decide_eq_false e1, Bool.false_and]
      go_enter Try.func21, Try.ntmps21
      go_wp2_with fail
      rw [show (w.alloc (.cells #[.int .i64 i1, .int .i64 kd, .string tx, .slice a n cap] 25)).alloc (.cells #[.int .i64 i2, .int .i64 kd2, .string tx2, .slice a' n' cap'] 25) = W1 from HW1.out]
      go_ret
      exact ⟨rfl, HB1.out⟩

end Go.Proofs.Ytfecajeenmnoeaa
