/- The reference's Equal. Conditions: trees of at most 100000 nodes. -/
import Derived.Test.YtfecajeenmnoeaaSR2
import Derived.Deep.RegionHeld3
namespace Go.Proofs.Ytfecajeenmnoeaa
open Go.RowKit Go.Shelf
set_option linter.unusedVariables false

theorem seq_eq {a b : ByteArray} (h : a = b) : (a.toList == b.toList) = true := by subst h; simp
theorem seq_inj {a b : ByteArray} (h : a.toList = b.toList) : a = b := by
  rw [ByteArray.toList_eq, ByteArray.toList_eq] at h
  exact ByteArray.ext (Array.toList_inj.1 h)
theorem seq_ne {a b : ByteArray} (h : a ≠ b) : (a.toList == b.toList) = false := by
  rw [beq_eq_false_iff_ne]; exact fun e => h (seq_inj e)

mutual
/-- Trees are equal but for their IDs. -/
def Nd.eqv : Nd → Nd → Bool
  | .mk _ k x ks, .mk _ k' x' ks' => decide (k = k') && decide (x = x') && eqvs ks ks'
def eqvs : List Nd → List Nd → Bool
  | [], [] => true
  | a :: l, b :: l' => a.eqv b && eqvs l l'
  | [], _ :: _ => false
  | _ :: _, [] => false
end
theorem Nd.eqv_eq (s t : Nd) : s.eqv t = (decide (s.kind = t.kind) && decide (s.text = t.text) && eqvs s.kids t.kids) := by cases s; cases t; rw [Nd.eqv]; rfl
theorem eqvs_iff : ∀ (a b : List Nd), eqvs a b = true ↔ a.length = b.length ∧ ∀ i (h1 : i < a.length) (h2 : i < b.length), a[i].eqv b[i] = true
  | [], [] => by simp [eqvs]
  | [], _ :: _ => by simp [eqvs]
  | _ :: _, [] => by simp [eqvs]
  | x :: a, y :: b => by
    rw [eqvs, Bool.and_eq_true, eqvs_iff a b]
    constructor
    · rintro ⟨h1, h2, h3⟩
      refine ⟨by simp [h2], fun i g1 g2 => ?_⟩
      cases i with
      | zero => exact h1
      | succ i => exact h3 i (by simpa using g1) (by simpa using g2)
    · rintro ⟨h1, h2⟩
      exact ⟨h2 0 (by simp) (by simp), by simpa using h1, fun i g1 g2 => h2 (i + 1) (by simpa using g1) (by simpa using g2)⟩
theorem eqvs_no {a b : List Nd} {i : Nat} (h1 : i < a.length) (h2 : i < b.length) (h : a[i].eqv b[i] = false) : eqvs a b = false := by
  cases hc : eqvs a b with
  | false => rfl
  | true => have := ((eqvs_iff a b).1 hc).2 i h1 h2; rw [h] at this; cases this
theorem eqvs_len {a b : List Nd} (h : a.length ≠ b.length) : eqvs a b = false := by
  cases hc : eqvs a b with
  | false => rfl
  | true => exact absurd ((eqvs_iff a b).1 hc).1 h

set_option maxRecDepth 100000 in
set_option maxHeartbeats 4000000 in
theorem requal_any : ∀ (d : Nat) (s t : Nd) (a : Option Addr) (n cap : Nat) (a' : Option Addr) (n' cap' : Nat) (w : World) (G : Nat → Prop), s.dep ≤ d → KV G w a n cap s.kids → KV G w a' n' cap' t.kids → s.cnt ≤ 100000 → t.cnt ≤ 100000 →
    Calls Try.prog 22 #[ndv s a n cap, ndv t a' n' cap'] w fun e w' => e = .returned (.bool (s.eqv t)) ∧ Below w.heap.size w w'
  | 0, s, t, a, n, cap, a', n', cap', w, G, hd, hK, hK', hc, hc' => by have := s.dep_eq; omega
  | d + 1, s, t, a, n, cap, a', n', cap', w, G, hd, hK, hK', hc, hc' => by
    obtain ⟨hkl, hnc, hcm⟩ := hK.len
    obtain ⟨hkl', hnc', hcm'⟩ := hK'.len
    obtain ⟨W1, hW1⟩ : ∃ W, (w.alloc (.cells (ndc s a n cap) 25)).alloc (.cells (ndc t a' n' cap') 25) = W := ⟨_, rfl⟩
    have b1 : Below w.heap.size w W1 := by rw [← hW1]; exact ((Below.refl _ _).alloc (Nat.le_refl _) _).alloc (by simp) _
    have k1 : Blk W1 w.heap.size 25 (ndc s a n cap) := by rw [← hW1]; exact (Blk.new _ _ _).alloc _
    have k2 : Blk W1 (w.heap.size + 1) 25 (ndc t a' n' cap') := by
      rw [← hW1]
      have := Blk.new (w.alloc (.cells (ndc s a n cap) 25)) 25 (ndc t a' n' cap')
      rwa [World.size_alloc] at this
    have hK1 := hK.on b1
    have hK2 := hK'.on b1
    obtain ⟨q, hq⟩ : ∃ q, w.heap.size = q := ⟨_, rfl⟩
    rw [hq] at k1 k2
    have HX : Hid (∀ W, Below W1.heap.size W1 W → W.cell? ⟨q, 1, none⟩ = some (.int .i64 s.kind) ∧ W.cell? ⟨q, 2, none⟩ = some (.string s.text) ∧ W.cell? ⟨q, 3, none⟩ = some (.slice a n cap) ∧ W.cell? ⟨q + 1, 1, none⟩ = some (.int .i64 t.kind) ∧ W.cell? ⟨q + 1, 2, none⟩ = some (.string t.text) ∧ W.cell? ⟨q + 1, 3, none⟩ = some (.slice a' n' cap') ∧ Below q w W) := fun W hW => by
      have kk := k1.same (hW.block q k1.lt)
      have kk2 := k2.same (hW.block (q + 1) k2.lt)
      exact ⟨kk.cell 1, kk.cell 2, kk.cell 3, kk2.cell 1, kk2.cell 2, kk2.cell 3, by rw [← hq]; exact b1.trans (hW.mono b1.size)⟩
    have heq := s.eqv_eq t
    obtain ⟨i1, hi1⟩ : ∃ x, s.id = x := ⟨_, rfl⟩
    obtain ⟨kd, hkd⟩ : ∃ x, s.kind = x := ⟨_, rfl⟩
    obtain ⟨tx, htx⟩ : ∃ x, s.text = x := ⟨_, rfl⟩
    obtain ⟨ks, hks⟩ : ∃ x, s.kids = x := ⟨_, rfl⟩
    obtain ⟨i2, hi2⟩ : ∃ x, t.id = x := ⟨_, rfl⟩
    obtain ⟨kd2, hkd2⟩ : ∃ x, t.kind = x := ⟨_, rfl⟩
    obtain ⟨tx2, htx2⟩ : ∃ x, t.text = x := ⟨_, rfl⟩
    obtain ⟨ks2, hks2⟩ : ∃ x, t.kids = x := ⟨_, rfl⟩
    have hdk : ∀ x ∈ ks, x.dep ≤ d ∧ x.cnt ≤ 100000 := fun x hx => by rw [← hks] at hx; have := s.kid_dep hx; have := s.kid_cnt hx; omega
    have hdk2 : ∀ x ∈ ks2, x.cnt ≤ 100000 := fun x hx => by rw [← hks2] at hx; have := t.kid_cnt hx; omega
    have hkn := s.kids_len
    unfold ndv ndc at *
    rw [hi1, hkd, htx, hi2, hkd2, htx2] at hW1 ⊢
    rw [hkd, htx, hkd2, htx2] at HX
    rw [hkd, htx, hkd2, htx2, hks, hks2] at heq
    rw [hks] at hK1 hkl hkn
    rw [hks2] at hK2 hkl'
    have HK1 := Lib.hid hK1; have HK2 := Lib.hid hK2; have HDK := Lib.hid hdk; have HDK2 := Lib.hid hdk2; have HW1 := Lib.hid hW1; have HQ := Lib.hid hq; have HKN := Lib.hid hkl; have HKN2 := Lib.hid hkl'
    have HREC : Hid (∀ x y (u : Option Addr) (un uc : Nat) (v : Option Addr) (vn vc : Nat) W, x ∈ ks → y ∈ ks2 → KV G W u un uc x.kids → KV G W v vn vc y.kids → Calls Try.prog 22 #[ndv x u un uc, ndv y v vn vc] W fun e w' => e = .returned (.bool (x.eqv y)) ∧ Below W.heap.size W w') := fun x y u un uc v vn vc W hx hy h1 h2 => requal_any d x y u un uc v vn vc W G (HDK.out x hx).1 h1 h2 (HDK.out x hx).2 (HDK2.out y hy)
    rw [heq]
    have hn5 : n ≤ 100000 := by omega
    have hmx : Try.prog.follows .mixedOrders = true := by kernel_rfl
    clear hK hK' hK1 hK2 hdk hdk2 hd hc hc' hkl hkl' hW1 b1 k1 k2 hi1 hkd htx hks hi2 hkd2 htx2 hks2 heq hkn hnc hcm hnc' hcm'
    obtain ⟨c1, c2, c3, c4, c5, c6, z1⟩ := HX.out W1 (Below.refl _ _)
    have HZ := Lib.hid z1
    clear z1
    by_cases e1 : kd = kd2
    · by_cases e2 : tx = tx2
      · by_cases e3 : n = n'
        · subst e1 e2 e3
          simp only [decide_true, Bool.true_and]
          go_enter Try.func22, Try.ntmps22
          go_wp2_with fail
          rw [show (w.alloc (.cells #[.int .i64 i1, .int .i64 kd, .string tx, .slice a n cap] 25)).alloc (.cells #[.int .i64 i2, .int .i64 kd, .string tx, .slice a' n cap'] 25) = W1 from HW1.out]
          have qt : (tx.toList == tx.toList) = true := by simp
          have HN2 : Hid (ks2.length = n) := HKN2.out
          go_loopw [5] (fun g wr => ∃ i : Nat, g = .int .i64 (i : Int) ∧ i ≤ n ∧ Hid (∀ j (h1 : j < ks.length) (h2 : j < ks2.length), j < i → ks[j].eqv ks2[j] = true) ∧ Hid (Below W1.heap.size W1 wr)) (fun g _ => n - (intOf g).toNat)
          case atStart => exact ⟨0, rfl, by omega, fun j _ _ h => by omega, Lib.hid (Below.refl _ _)⟩
          case round =>
            obtain ⟨i, rfl, hi, HE, HR⟩ := hrel
            obtain ⟨c1, c2, c3, c4, c5, c6, z1⟩ := HX.out wr HR.out
            by_cases hin : i < n
            · have hin2 : (i : Int) < (n : Int) := by omega
              have m1 : IntKind.i64.wrap ((i : Int) + 1) = (i : Int) + 1 := by simp [IntKind.wrap, IntKind.signed, IntKind.bits]; omega
              have hik : i < ks.length := by rw [HKN.out]; exact hin
              have hik2 : i < ks2.length := by rw [HN2.out]; exact hin
              obtain ⟨b, off, u, un, uc, rfl, hG, hb, hku, hcell⟩ := HK1.out.kid hik
              obtain ⟨b2, off2, u2, un2, uc2, rfl, hG2, hb2, hku2, hcell2⟩ := HK2.out.kid hik2
              obtain ⟨x, hx⟩ : ∃ x, ks[i] = x := ⟨_, rfl⟩
              obtain ⟨y, hy⟩ : ∃ x, ks2[i] = x := ⟨_, rfl⟩
              rw [hx] at hku hcell
              rw [hy] at hku2 hcell2
              have hxm : x ∈ ks := by rw [← hx]; exact List.getElem_mem hik
              have hym : y ∈ ks2 := by rw [← hy]; exact List.getElem_mem hik2
              have HC : Hid (∀ W, Below wr.heap.size wr W → Calls Try.prog 22 #[ndv x u un uc, ndv y u2 un2 uc2] W fun e w' => e = .returned (.bool (x.eqv y)) ∧ Below W.heap.size W w') := fun W hW => by
                have hb1 := HR.out.trans (hW.mono HR.out.size)
                exact HREC.out x y u un uc u2 un2 uc2 W hxm hym (hku.on hb1) (hku2.on hb1)
              have HNO : Hid (x.eqv y = false → eqvs ks ks2 = false) := fun h => eqvs_no hik hik2 (by rw [hx, hy]; exact h)
              have HYES : Hid (x.eqv y = true → ∀ j (h1 : j < ks.length) (h2 : j < ks2.length), j < i + 1 → ks[j].eqv ks2[j] = true) := fun h j h1 h2 h3 => by
                by_cases he : j = i
                · subst he; rw [hx, hy]; exact h
                · exact HE.out j h1 h2 (by omega)
              have HKF : Hid (∀ W, Below wr.heap.size wr W → W.cell? ⟨q, 3, none⟩ = some (.slice (some ⟨b, off, none⟩) n cap) ∧ W.cell? ⟨q + 1, 3, none⟩ = some (.slice (some ⟨b2, off2, none⟩) n cap') ∧
                  W.cell? ⟨b, off + i * 4, none⟩ = some (.int .i64 x.id) ∧ W.cell? ⟨b, off + i * 4 + 1, none⟩ = some (.int .i64 x.kind) ∧ W.cell? ⟨b, off + i * 4 + 2, none⟩ = some (.string x.text) ∧ W.cell? ⟨b, off + i * 4 + 3, none⟩ = some (.slice u un uc) ∧
                  W.cell? ⟨b2, off2 + i * 4, none⟩ = some (.int .i64 y.id) ∧ W.cell? ⟨b2, off2 + i * 4 + 1, none⟩ = some (.int .i64 y.kind) ∧ W.cell? ⟨b2, off2 + i * 4 + 2, none⟩ = some (.string y.text) ∧ W.cell? ⟨b2, off2 + i * 4 + 3, none⟩ = some (.slice u2 un2 uc2)) := fun W hW => by
                have hb1 := HR.out.trans (hW.mono HR.out.size)
                obtain ⟨_, _, g3, _, _, g6, _⟩ := HX.out W hb1
                obtain ⟨k0, k1, k2, k3⟩ := hcell W (hb1.block b hb)
                obtain ⟨l0, l1, l2, l3⟩ := hcell2 W (hb1.block b2 hb2)
                exact ⟨g3, g6, k0, k1, k2, k3, l0, l1, l2, l3⟩
              unfold ndv at HC
              obtain ⟨xi, hxi⟩ : ∃ z, x.id = z := ⟨_, rfl⟩
              obtain ⟨xk, hxk⟩ : ∃ z, x.kind = z := ⟨_, rfl⟩
              obtain ⟨xt, hxt⟩ : ∃ z, x.text = z := ⟨_, rfl⟩
              obtain ⟨yi, hyi⟩ : ∃ z, y.id = z := ⟨_, rfl⟩
              obtain ⟨yk, hyk⟩ : ∃ z, y.kind = z := ⟨_, rfl⟩
              obtain ⟨yt, hyt⟩ : ∃ z, y.text = z := ⟨_, rfl⟩
              obtain ⟨bb, hbb⟩ : ∃ z, x.eqv y = z := ⟨_, rfl⟩
              rw [hxi, hxk, hxt, hyi, hyk, hyt] at HC HKF
              rw [hbb] at HC HNO HYES
              obtain ⟨s0, s1, s2, s3, s4, s5, s6, s7, s8, s9⟩ := HKF.out wr (Below.refl _ _)
              have HBB := Lib.hid hbb
              clear hG hG2 hb hb2 hku hku2 hcell hcell2 hx hy hxm hym z1 hxi hxk hxt hyi hyk hyt hik hik2 hbb c1 c2 c3 c4 c5 c6
              go_wp2_with fail
              go_region_held3 (fun W => W.cell? ⟨q, 3, none⟩ = some (.slice (some ⟨b, off, none⟩) n cap) ∧ W.cell? ⟨q + 1, 3, none⟩ = some (.slice (some ⟨b2, off2, none⟩) n cap') ∧
                  W.cell? ⟨b, off + i * 4, none⟩ = some (.int .i64 xi) ∧ W.cell? ⟨b, off + i * 4 + 1, none⟩ = some (.int .i64 xk) ∧ W.cell? ⟨b, off + i * 4 + 2, none⟩ = some (.string xt) ∧ W.cell? ⟨b, off + i * 4 + 3, none⟩ = some (.slice u un uc) ∧
                  W.cell? ⟨b2, off2 + i * 4, none⟩ = some (.int .i64 yi) ∧ W.cell? ⟨b2, off2 + i * 4 + 1, none⟩ = some (.int .i64 yk) ∧ W.cell? ⟨b2, off2 + i * 4 + 2, none⟩ = some (.string yt) ∧ W.cell? ⟨b2, off2 + i * 4 + 3, none⟩ = some (.slice u2 un2 uc2)) (first | with_reducible exact sE | exact HKF.out _ (Below.refl wr.heap.size wr).drew)
                (first | (go_at_call 22; refine (HC.out _ (Below.refl wr.heap.size wr).drew).mono ?_; rintro e wE ⟨rfl, bE⟩; have sE := HKF.out _ ((Below.refl _ wr).drew.trans bE)))
              all_goals
                have H5 : Hid (Below W1.heap.size W1 wE) := HR.out.trans (((Below.refl _ wr).drew.trans bE).mono HR.out.size)
                clear bE sE s0 s1 s2 s3 s4 s5 s6 s7 s8 s9
                cases bb with
                | false =>
                  have hno := HNO.out rfl
                  have HZ5 := Lib.hid (HX.out wE H5.out).2.2.2.2.2.2
                  have HNF := Lib.hid hno
                  clear hno
                  go_wp2_with fail
                  go_ret
                  exact ⟨by simp [HNF.out], HZ5.out⟩
                | true =>
                  have HY2 := Lib.hid (HYES.out rfl)
                  go_wp2_with fail
                  go_roundw
                  case rel => exact ⟨i + 1, by go_num, by omega, HY2.out, H5⟩
                  case measure => simp [intOf]; omega
            · have hin2 : ¬ ((i : Int) < (n : Int)) := by omega
              obtain rfl : i = n := by omega
              have hall : eqvs ks ks2 = true := (eqvs_iff ks ks2).2 ⟨by rw [HKN.out, HN2.out], fun j h1 h2 => HE.out j h1 h2 (by rw [← HKN.out]; exact h1)⟩
              have HAL := Lib.hid hall
              have HZ5 := Lib.hid z1
              clear hall z1 hi
              go_wp2_with fail
              go_ret
              exact ⟨by simp [HAL.out], HZ5.out⟩
        · have hne : eqvs ks ks2 = false := eqvs_len (by rw [HKN.out, HKN2.out]; exact e3)
          have e3' : ¬ ((n : Int) = (n' : Int)) := by omega
          subst e1 e2
          simp only [decide_true, Bool.true_and, hne]
          go_enter Try.func22, Try.ntmps22
          go_wp2_with fail
          rw [show (w.alloc (.cells #[.int .i64 i1, .int .i64 kd, .string tx, .slice a n cap] 25)).alloc (.cells #[.int .i64 i2, .int .i64 kd, .string tx, .slice a' n' cap'] 25) = W1 from HW1.out]
          go_ret
          exact ⟨rfl, by rw [HQ.out]; exact HZ.out⟩
      · have e2' : (tx.toList == tx2.toList) = false := seq_ne e2
        subst e1
        simp only [decide_true, Bool.true_and, decide_eq_false e2, Bool.false_and]
        go_enter Try.func22, Try.ntmps22
        go_wp2_with fail
        rw [show (w.alloc (.cells #[.int .i64 i1, .int .i64 kd, .string tx, .slice a n cap] 25)).alloc (.cells #[.int .i64 i2, .int .i64 kd, .string tx2, .slice a' n' cap'] 25) = W1 from HW1.out]
        go_ret
        exact ⟨rfl, by rw [HQ.out]; exact HZ.out⟩
    · simp only [decide_eq_false e1, Bool.false_and]
      go_enter Try.func22, Try.ntmps22
      go_wp2_with fail
      rw [show (w.alloc (.cells #[.int .i64 i1, .int .i64 kd, .string tx, .slice a n cap] 25)).alloc (.cells #[.int .i64 i2, .int .i64 kd2, .string tx2, .slice a' n' cap'] 25) = W1 from HW1.out]
      go_ret
      exact ⟨rfl, by rw [HQ.out]; exact HZ.out⟩

end Go.Proofs.Ytfecajeenmnoeaa
