/- Texts of one claim, put together: DPrt, DSh, DFrm, DSnc, DCn, DLk, DLv0, DLv, DRs, DCk, DCy. Each part says what it proves and under which conditions. -/
import Derived.Test.YtkehgoailhpenaaGreatPD08
import Derived.Lib.MinMax
import Derived.Shelf.SlMaps.Clone
import Derived.Ground.SlmcProg
import Derived.Test.YtkehgoailhpenaaGreatProg
import Derived.Deep.RegionWith

/- The contracts of part, and of Chain where no change is asked for. It has no conditions. -/
namespace Go.Proofs.YtkehgoailhpenaaGreat
open Go.RowKit Go.Shelf
set_option linter.unusedVariables false

set_option maxRecDepth 100000 in
set_option maxHeartbeats 2000000 in
theorem part_any (a : Option Addr) (cap : Nat) (ls : List Int) (x n : Nat) (w : World) (h : Sli .i64 w a cap ls) (hx : x ≤ 1000000) (hn : n ≤ 1000000) :
    Calls Tryz.prog 30 #[.slice a ls.length cap, .int .i64 (x : Int), .int .i64 (n : Int)] w fun e w' => w = w' ∧ ∃ a' c', e = .returned (.slice a' ((ls.drop x).take n).length c') ∧ Sli .i64 w a' c' ((ls.drop x).take n) := by
  obtain ⟨hle, hmx, hnil, hc⟩ := h
  obtain ⟨N, hN⟩ : ∃ N, ls.length = N := ⟨_, rfl⟩
  obtain ⟨A, hA⟩ : ∃ A, min x N = A := ⟨_, rfl⟩
  obtain ⟨H, hH⟩ : ∃ H, min N (A + n) = H := ⟨_, rfl⟩
  have hlen : ((ls.drop x).take n).length = H - A := by rw [List.length_take, List.length_drop]; omega
  have m1 : min (x : Int) (N : Int) = (A : Int) := by omega
  have m2 : min (N : Int) ((A : Int) + (n : Int)) = (H : Int) := by omega
  have hAH : (A : Int) ≤ (H : Int) := by omega
  have hHc : (H : Int) ≤ (cap : Int) := by omega
  have hA0 : (0 : Int) ≤ (A : Int) := by omega
  rw [hN, hlen]
  have HC := Lib.hid hc; have HN := Lib.hid hN; have HA := Lib.hid hA; have HH := Lib.hid hH; have HL := Lib.hid hlen
  cases a with
  | none =>
    obtain rfl : cap = 0 := hnil rfl
    obtain rfl : N = 0 := by omega
    obtain rfl : A = 0 := by omega
    obtain rfl : H = 0 := by omega
    have r1 : min (x : Int) 0 = 0 := by omega
    have r2 : min (0 : Int) (n : Int) = 0 := by omega
    have r3 : min (0 : Int) (0 + (n : Int)) = 0 := by omega
    clear hc hN hA hH hlen hnil m1 m2
    go_enter Tryz.func30, Tryz.ntmps30
    go_wp2
    go_ret
    have h0 : (ls.drop x).take n = [] := List.eq_nil_of_length_eq_zero HL.out
    exact ⟨rfl, none, 0, rfl, ⟨by rw [h0]; simp, by omega, fun _ => rfl, by rw [h0]; exact .inl rfl⟩⟩
  | some ad =>
    have HS : Hid (∀ a' c', (H - A = 0 ∧ c' = 0 ∧ a' ≠ none) ∨ (a' = some (ad.add A) ∧ c' = cap - A) → Sli .i64 w a' c' ((ls.drop x).take n)) := by
      intro a' c' h
      rcases h with ⟨h0, rfl, h1⟩ | ⟨rfl, rfl⟩
      · have he : (ls.drop x).take n = [] := List.eq_nil_of_length_eq_zero (by omega)
        exact ⟨by rw [he]; simp, by omega, fun _ => rfl, by rw [he]; exact .inl rfl⟩
      · refine ⟨by omega, by omega, (fun h => by cases h), ?_⟩
        by_cases h0 : H - A = 0
        · exact .inl (List.eq_nil_of_length_eq_zero (by omega))
        · rcases hc with rfl | ⟨b, off, ha, hlt, hcc⟩
          · simp at hN; omega
          · cases ha
            have hAx : A = x := by omega
            refine .inr ⟨b, off + A, ?_, hlt, fun j hj => ?_⟩
            · by_cases hz : A = 0 <;> simp [Addr.add, hz]
            · rw [show off + A + j = off + (x + j) by omega, hcc (x + j) (by omega)]
              rw [List.getElem?_take, if_pos (by omega), List.getElem?_drop]
    clear hc hN hA hH hlen hnil
    go_enter Tryz.func30, Tryz.ntmps30
    go_wp2
    all_goals
      go_ret
      first
        | exact ⟨rfl, _, _, rfl, HS.out _ _ (.inr ⟨rfl, rfl⟩)⟩
        | exact ⟨rfl, _, _, rfl, HS.out _ _ (.inl ⟨by omega, by omega, by simp⟩)⟩

set_option maxRecDepth 100000 in
set_option maxHeartbeats 2000000 in
theorem chain0_any (a : Option Addr) (cap : Nat) (ls : List Int) (w : World) (h : Sli .i64 w a cap ls) (hi : ∀ n ∈ ls, -9223372036854775808 ≤ n ∧ n ≤ 9223372036854775807) :
    Calls Tryz.prog 6 #[.slice a ls.length cap, .int .i64 0] w fun e w' => ∃ S, e = .returned (.tuple #[.string S, .slice none 0 0]) ∧ S.size ≤ 96 ∧ Whl (sb S) ∧ Below w.heap.size w w' := by
  have C1 := Lib.hid (part_any a cap ls 0 12 w h (by omega) (by omega))
  have hi2 : ∀ n ∈ (ls.drop 0).take 12, -9223372036854775808 ≤ n ∧ n ≤ 9223372036854775807 := fun n hn => hi n (List.mem_of_mem_drop (List.mem_of_mem_take hn))
  obtain ⟨L, hL⟩ : ∃ l, (ls.drop 0).take 12 = l := ⟨_, rfl⟩
  obtain ⟨N, hN⟩ : ∃ l, ls.length = l := ⟨_, rfl⟩
  rw [hL] at C1 hi2
  rw [hN] at C1 ⊢
  have HI2 := Lib.hid hi2
  clear h hi hi2 hL hN
  go_enter Tryz.func6, Tryz.ntmps6
  go_wp2_with fail
  refine C1.out.mono ?_
  rintro e w0 ⟨rfl, a1, c1, rfl, hs⟩
  have C2 := Lib.hid (rtext_any a1 c1 L w hs HI2.out)
  clear hs
  go_wp2_with fail
  refine C2.out.mono ?_
  rintro e w1 ⟨S, rfl, hSl, hSw, b1⟩
  have HB := Lib.hid b1; have HW := Lib.hid hSw
  clear b1 hSw
  go_wp2_with fail
  go_loopw [7, 8, 9] (fun s o q wr => s = .string S ∧ o = .slice none 0 0 ∧ q = .int .i64 0 ∧ Hid (Below w.heap.size w wr)) (fun _ _ _ _ => 0)
  case atStart => exact ⟨rfl, rfl, rfl, HB⟩
  case round =>
    obtain ⟨rfl, rfl, rfl, HR⟩ := hrel
    go_wp2_with fail
    go_ret2
    exact ⟨S, rfl, hSl, HW.out, HR.out⟩

end Go.Proofs.YtkehgoailhpenaaGreat

/- The contract of Shuffled. Conditions: at most 16 changes. -/
namespace Go.Proofs.YtkehgoailhpenaaGreat
open Go.RowKit Go.Shelf Go.Maps
set_option linter.unusedVariables false

/-- An order in which changes arrive: every one of them, none else. -/
structure Arr (n : Nat) (ks : List Nat) : Prop where
  lt : ∀ k ∈ ks, k < n
  all : ∀ k, k < n → k ∈ ks
def pickL (vs : List (Int × Value)) (ks : List Nat) : List (Int × Value) := ks.map (cG vs)
theorem pickL_len (vs : List (Int × Value)) (ks : List Nat) : (pickL vs ks).length = ks.length := by simp [pickL]
theorem cG_pickL {vs : List (Int × Value)} {ks : List Nat} {i : Nat} (h : i < ks.length) : cG (pickL vs ks) i = cG vs (ks[i]) := by
  unfold pickL
  rw [show cG (ks.map (cG vs)) i = ((ks.map (cG vs))[i]?).getD (0, .slice none 0 0) from rfl, List.getElem?_map, List.getElem?_eq_getElem h]
  rfl
theorem pickL_range (vs : List (Int × Value)) : pickL vs (List.range vs.length) = vs := by
  unfold pickL
  refine List.ext_getElem (by simp) (fun i h1 h2 => ?_)
  rw [List.getElem_map, List.getElem_range]
  unfold cG
  rw [List.getElem?_eq_getElem h2]; rfl
theorem pickL_ok {vs : List (Int × Value)} {ks : List Nat} (hv : VOk vs) (hk : ∀ k ∈ ks, k < vs.length) : VOk (pickL vs ks) := by
  intro x hx
  obtain ⟨k, h1, rfl⟩ := List.mem_map.1 hx
  exact hv _ (cG_mem (hk k h1))
theorem cv_put : ∀ (us : List (Int × Value)) (k : Nat) (h : k < us.length) (x : Int) (u : Value), ((cv us).set (k * 2) (.int .i64 x)).set (k * 2 + 1) u = cv (us.set k (x, u)) := by
  intro us
  induction us with
  | nil => intro k h; simp at h
  | cons y us ih =>
    intro k h x u
    have e : cv (y :: us) = Value.int .i64 y.1 :: y.2 :: cv us := rfl
    rw [e]
    cases k with
    | zero => rfl
    | succ k =>
      have := ih k (by simpa using h) x u
      rw [show (k + 1) * 2 = (k * 2) + 1 + 1 by omega, List.set_cons_succ, List.set_cons_succ, List.set_cons_succ, List.set_cons_succ, this]
      rfl
/-- Two are exchanged. -/
theorem pickL_swap (vs : List (Int × Value)) {ks : List Nat} {i k : Nat} (hi : i < ks.length) (hk : k < ks.length) : ((pickL vs ks).set i (cG (pickL vs ks) k)).set k (cG (pickL vs ks) i) = pickL vs ((ks.set i ks[k]).set k ks[i]) := by
  rw [cG_pickL hi, cG_pickL hk]
  unfold pickL
  rw [List.map_set, List.map_set]
theorem Arr.swap {n : Nat} {ks : List Nat} (h : Arr n ks) {i k : Nat} (hi : i < ks.length) (hk : k < ks.length) : Arr n ((ks.set i ks[k]).set k ks[i]) := by
  have hp := List.set_set_perm hi hk
  exact ⟨fun x hx => h.lt x (hp.mem_iff.1 hx), fun x hx => hp.mem_iff.2 (h.all x hx)⟩
theorem Arr.range (n : Nat) : Arr n (List.range n) := ⟨fun k hk => List.mem_range.1 hk, fun k hk => List.mem_range.2 hk⟩
theorem Arr.put {n : Nat} {ks : List Nat} (h : Arr n ks) {x : Nat} (hx : x < n) (k : Nat) : Arr n (ks.take k ++ [x] ++ ks.drop k) := by
  refine ⟨fun y hy => ?_, fun y hy => ?_⟩
  · rcases List.mem_append.1 hy with h1 | h1
    · rcases List.mem_append.1 h1 with h2 | h2
      · exact h.lt y (List.mem_of_mem_take h2)
      · simp at h2; omega
    · exact h.lt y (List.mem_of_mem_drop h1)
  · have := h.all y hy
    rw [← List.take_append_drop k ks] at this
    rcases List.mem_append.1 this with h1 | h1
    · exact List.mem_append_left _ (List.mem_append_left _ h1)
    · exact List.mem_append_right _ h1
theorem pickL_put (vs : List (Int × Value)) (ks : List Nat) (x k : Nat) : (pickL vs ks).take k ++ [cG vs x] ++ (pickL vs ks).drop k = pickL vs (ks.take k ++ [x] ++ ks.drop k) := by
  unfold pickL
  simp [List.map_take, List.map_drop]
/-- The row behind a store of a change. -/
theorem row_put {w : World} {lo g n cap : Nat} {us : List (Int × Value)} (h : w.ownsRow lo 47 2 (.slice (some ⟨g, 0, none⟩) n cap) n (cv us)) {k : Nat} (hk : k < us.length) (x : Int) (u : Value) :
    ((w.setCell ⟨g, k * 2, none⟩ (.int .i64 x)).setCell ⟨g, k * 2 + 1, none⟩ u).ownsRow lo 47 2 (.slice (some ⟨g, 0, none⟩) n cap) n (cv (us.set k (x, u))) := by
  have h1 := (h.stored (k * 2) (.int .i64 x)).1
  have h2 := (h1.stored (k * 2 + 1) u).1
  rw [cv_put us k hk] at h2
  exact h2

theorem cv_take : ∀ (us : List (Int × Value)) (k : Nat), cv (us.take k) = (cv us).take (k * 2) := by
  intro us
  induction us with
  | nil => intro k; simp [cv]
  | cons x us ih =>
    intro k
    cases k with
    | zero => simp [cv]
    | succ k =>
      have e : cv (x :: us) = Value.int .i64 x.1 :: x.2 :: cv us := rfl
      have e2 : cv ((x :: us).take (k + 1)) = Value.int .i64 x.1 :: x.2 :: cv (us.take k) := rfl
      rw [e, e2, ih k, show (k + 1) * 2 = k * 2 + 1 + 1 by omega]; rfl
theorem cv_drop : ∀ (us : List (Int × Value)) (k : Nat), cv (us.drop k) = (cv us).drop (k * 2) := by
  intro us
  induction us with
  | nil => intro k; simp [cv]
  | cons x us ih =>
    intro k
    cases k with
    | zero => simp [cv]
    | succ k =>
      have e : cv (x :: us) = Value.int .i64 x.1 :: x.2 :: cv us := rfl
      rw [e, List.drop_succ_cons, ih k, show (k + 1) * 2 = k * 2 + 1 + 1 by omega]; rfl
/-- The cells of a row's changes, from one on. -/
theorem row_news {w : World} {lo g n cap : Nat} {us : List (Int × Value)} (h : w.ownsRow lo 47 2 (.slice (some ⟨g, 0, none⟩) n cap) n (cv us)) (hn : us.length = n) :
    (∀ r, ∀ j u, (cv (us.take r))[j]? = some u → w.cell? ((⟨g, 0, none⟩ : Addr).add j) = some u) ∧ (∀ r, ∀ j u, (cv (us.drop r))[j]? = some u → w.cell? ((⟨g, r * 2, none⟩ : Addr).add j) = some u) := by
  have hl : (cv us).length = n * 2 := by rw [cv_len, hn]
  refine ⟨fun r j u hj => ?_, fun r j u hj => ?_⟩
  · rw [cv_take, List.getElem?_take] at hj
    split at hj
    · have hlt := (List.getElem?_eq_some_iff.1 hj).1
      rw [addr_add, Nat.zero_add, h.cellAt j (by omega), hj]
    · cases hj
  · rw [cv_drop, List.getElem?_drop] at hj
    have hlt := (List.getElem?_eq_some_iff.1 hj).1
    rw [addr_add, h.cellAt (r * 2 + j) (by omega), hj]
theorem own_some {w : World} {base e size n g cap : Nat} {xs : List Value} (h : w.ownsRow base e size (.slice (some ⟨g, 0, none⟩) n cap) n xs) (j : Nat) (hj : j < n * size) : ∃ u, w.cell? ⟨g, j, none⟩ = some u := by
  have hl := h.1
  exact ⟨xs[j]'(by omega), by rw [h.cellAt j hj, List.getElem?_eq_getElem (by omega)]⟩

end Go.Proofs.YtkehgoailhpenaaGreat

/- The contract of from. It has no conditions. -/
namespace Go.Proofs.YtkehgoailhpenaaGreat
open Go.RowKit Go.Shelf Go.Maps
set_option linter.unusedVariables false

/-- The oldest version that is remembered. -/
def oldS (s : DS) : Int := s.v - s.ss.length + 1
/-- The states of a document, wherever a walk reads them. -/
theorem DocI.states {T G : Nat → Prop} {w : World} {p : Nat} {s : DS} (h : DocI T G w p s) : ∃ g cap m vs, w.cell? ⟨p, 0, none⟩ = some (.int .i64 s.v) ∧ w.cell? ⟨p, 1, none⟩ = some (.slice (some ⟨g, 0, none⟩) s.ss.length cap) ∧ w.cell? ⟨p, 2, none⟩ = some (.map (some m)) ∧ s.ss.length ≤ cap ∧ T g ∧ All2 (StOk G w) vs s.ss ∧
    ∀ V : World, V.heap[g]? = w.heap[g]? → ∀ i (hi : i < vs.length), V.cell? ⟨g, i * 2, none⟩ = some (.string (vs[i]).1) ∧ V.cell? ⟨g, i * 2 + 1, none⟩ = some (vs[i]).2 := by
  obtain ⟨g, cap, m, D, vs, h1, h2, h3, h4, h5, h6, h7⟩ := h.mem
  have hl := h3.len
  have c0 := h1.cell 0
  have c1 := h1.cell 1
  have c2 := h1.cell 2
  simp only [List.getElem?_toArray, List.getElem?_cons_zero, List.getElem?_cons_succ] at c0 c1 c2
  have hcap : vs.length ≤ cap := by
    rcases h2.2 with ⟨hv, _⟩ | ⟨g', cp, cur, hv, _, _, h1, _⟩
    · simp at hv
    · simp only [Value.slice.injEq] at hv; omega
  rw [hl] at c1 hcap
  refine ⟨g, cap, m, vs, c0, c1, c2, hcap, h6, h3, fun V hV i hi => ?_⟩
  have e : ∀ j, V.cell? ⟨g, j, none⟩ = w.cell? ⟨g, j, none⟩ := fun j => by simp only [World.cell?, hV]
  rw [e, e, h2.cellAt (i * 2) (by omega), h2.cellAt (i * 2 + 1) (by omega)]
  exact svals_get vs i hi

set_option maxRecDepth 100000 in
set_option maxHeartbeats 2000000 in
theorem from_any (T G : Nat → Prop) (p : Nat) (s : DS) (w : World) (h : DocI T G w p s) (x : Int) (hx1 : -9223372036854775808 ≤ x) (hx2 : x ≤ 9223372036854775807) :
    Calls Tryz.prog 58 #[.pointer (some ⟨p, 0, none⟩), .int .i64 x] w fun e w' => Below w.heap.size w w' ∧
      ((¬ (oldS s ≤ x ∧ x ≤ s.v) ∧ e = .returned (.slice none 0 0)) ∨
       ((oldS s ≤ x ∧ x ≤ s.v) ∧ ∃ (g cap : Nat) (vs : List (ByteArray × Value)) (k : Nat), (k : Int) = x - oldS s ∧ k < s.ss.length ∧ e = .returned (.slice (some ⟨g, k * 2, none⟩) (s.ss.length - k) (cap - k)) ∧ s.ss.length ≤ cap ∧ T g ∧ All2 (StOk G w) vs s.ss ∧
         ∀ V : World, V.heap[g]? = w.heap[g]? → ∀ i (hi : i < vs.length), V.cell? ⟨g, i * 2, none⟩ = some (.string (vs[i]).1) ∧ V.cell? ⟨g, i * 2 + 1, none⟩ = some (vs[i]).2)) := by
  have hv0 := h.ok.v0
  have hv1 := h.ok.v1
  have hlen := h.ok.len
  have hne : 0 < s.ss.length := List.length_pos_iff.2 h.ok.ne
  obtain ⟨g, cap, m, vs, c0, c1, c2, hcap, hTg, h3, hst⟩ := h.states
  obtain ⟨v, hv⟩ : ∃ v, s.v = v := ⟨_, rfl⟩
  obtain ⟨n, hn⟩ : ∃ n, s.ss.length = n := ⟨_, rfl⟩
  obtain ⟨o, ho⟩ : ∃ o, oldS s = o := ⟨_, rfl⟩
  have ho2 : o = v - (n : Int) + 1 := by rw [← ho, ← hv, ← hn]; rfl
  rw [hv] at c0 hv0 hv1 ⊢
  rw [hn] at c1 hcap hlen hne ⊢
  rw [ho]
  have hw1 : IntKind.i64.wrap (v - (n : Int)) = v - (n : Int) := by simp [IntKind.wrap, IntKind.signed, IntKind.bits]; omega
  have hw2 : IntKind.i64.wrap (v - (n : Int) + 1) = o := by rw [ho2]; simp [IntKind.wrap, IntKind.signed, IntKind.bits]; omega
  have H3 := Lib.hid h3; have HST := Lib.hid hst; have HO := Lib.hid ho2
  have ho3 : -1000 ≤ o ∧ o ≤ 1099511627777 := by omega
  clear h h3 hst hv hn ho ho2 c2
  by_cases h1 : x < o
  · have hN : ¬ (o ≤ x ∧ x ≤ v) := by omega
    have HN := Lib.hid hN
    clear hN
    go_enter Tryz.func58, Tryz.ntmps58
    go_wp2_with fail
    go_quiet (fail)
    go_wp2
    go_ret
    exact ⟨below_drewN (Below.refl _ _) _, .inl ⟨HN.out, rfl⟩⟩
  · by_cases h2 : v < x
    · have hN : ¬ (o ≤ x ∧ x ≤ v) := by omega
      have HN := Lib.hid hN
      clear hN
      go_enter Tryz.func58, Tryz.ntmps58
      go_wp2_with fail
      go_quiet (fail)
      go_wp2
      go_ret
      exact ⟨below_drewN (Below.refl _ _) _, .inl ⟨HN.out, rfl⟩⟩
    · obtain ⟨k, hk⟩ : ∃ k : Nat, x - o = (k : Int) := ⟨(x - o).toNat, by omega⟩
      have hkn : k < n := by have := HO.out; omega
      have HN : Hid (o ≤ x ∧ x ≤ v) := ⟨by omega, by omega⟩
      have hkw : IntKind.i64.wrap (x - o) = (k : Int) := by rw [hk]; simp [IntKind.wrap, IntKind.signed, IntKind.bits]; omega
      have hk1 : (k : Int) ≤ (n : Int) := by omega
      have HK := Lib.hid hk
      clear hk
      go_enter Tryz.func58, Tryz.ntmps58
      go_wp2_with fail
      go_quiet (fail)
      go_wp2
      go_ret
      exact ⟨below_drewN (Below.refl _ _) _, .inr ⟨HN.out, g, cap, vs, k, HK.out.symm, hkn, rfl, hcap, hTg, H3.out, HST.out⟩⟩

end Go.Proofs.YtkehgoailhpenaaGreat

/- The contract of Since where no composition has an error. Conditions: as SncOk says. -/
namespace Go.Proofs.YtkehgoailhpenaaGreat
open Go.RowKit Go.Shelf Go.Maps
set_option linter.unusedVariables false

/-- The compositions go through, and end at r. -/
def SncOk (t : ByteArray) : List Er → List (List Er) → List Er → Prop
  | x, [], r => x = r
  | x, y :: l, r => cmE t x y = 0 ∧ (apS t x).size ≤ 1000000 ∧ (apS (apS t x) y).size ≤ 1000000 ∧ (∀ e ∈ cmS t x y, e.Fit) ∧ (cmS t x y).length ≤ 64 ∧ SncOk t (cmS t x y) l r
/-- The edits of the versions behind the k-th state. -/
def nexts (s : DS) (k : Nat) : List (List Er) := ((s.ss.drop k).take (s.ss.length - k - 1)).map Prod.snd
theorem nexts_len {s : DS} {k : Nat} (hk : k < s.ss.length) : (nexts s k).length = s.ss.length - k - 1 := by
  unfold nexts
  rw [List.length_map, List.length_take, List.length_drop]
  omega
theorem nexts_at {s : DS} {k i : Nat} (hk : k < s.ss.length) (hi : i < (nexts s k).length) : (nexts s k)[i]? = (s.ss[k + i]?).map Prod.snd := by
  rw [nexts_len hk] at hi
  unfold nexts
  rw [List.getElem?_map, List.getElem?_take, if_pos (by omega), List.getElem?_drop]
theorem nexts_get {s : DS} {k i : Nat} (hk : k < s.ss.length) (hi : i < (nexts s k).length) : (nexts s k)[i] = (s.ss[k + i]'(by rw [nexts_len hk] at hi; omega)).2 := by
  simp [nexts]

set_option maxRecDepth 100000 in
set_option maxHeartbeats 4000000 in
theorem since_any (T G : Nat → Prop) (p : Nat) (s : DS) (w : World) (h : DocI T G w p s) (x : Int) (hx1 : -9223372036854775808 ≤ x) (hx2 : x ≤ 9223372036854775807) (hin : oldS s ≤ x ∧ x ≤ s.v) (k : Nat) (hkx : (k : Int) = x - oldS s) (hk : k < s.ss.length) (R : List Er) (hok : SncOk (s.ss[k]).1 [] (nexts s k) R) :
    Calls Tryz.prog 27 #[.pointer (some ⟨p, 0, none⟩), .int .i64 x] w (NewES w R 0) := by
  have CF := Lib.hid (from_any T G p s w h x hx1 hx2)
  have HNG : Hid (∀ i, i < (nexts s k).length → (nexts s k)[i]? = (s.ss[k + i]?).map Prod.snd) := fun i hi => nexts_at hk hi
  have hlen := h.ok.len
  have hets := h.ok.eds
  obtain ⟨t, ht⟩ : ∃ t, (s.ss[k]).1 = t := ⟨_, rfl⟩
  rw [ht] at hok
  have htz : t.size ≤ 4096 := by rw [← ht]; exact h.ok.text _ (List.getElem_mem _)
  have hTl := h.lt
  have hGl := h.glt
  obtain ⟨n, hn⟩ : ∃ n, s.ss.length = n := ⟨_, rfl⟩
  have hnl := nexts_len hk
  have HET := Lib.hid hets; have HTX := Lib.hid ht; have HTL := Lib.hid hTl; have HGL := Lib.hid hGl; have HIN := Lib.hid hin; have HNL := Lib.hid hnl; have HNN := Lib.hid hn
  obtain ⟨L, hL⟩ : ∃ l, nexts s k = l := ⟨_, rfl⟩
  have HL := Lib.hid hL
  rw [hL] at hok
  have HOK := Lib.hid hok
  have HKX := Lib.hid hkx
  have HK := Lib.hid hk
  have hk' : k < n := by omega
  have hn17 : n ≤ 17 := by omega
  clear hok hL hnl hets hTl hGl hin ht hkx h hn hlen
  go_enter Tryz.func27, Tryz.ntmps27
  go_wp2_with fail
  refine CF.out.mono ?_
  rintro e w1 ⟨b1, hw⟩
  have B1 := Lib.hid b1
  obtain ⟨g, cap, vs, k2, hk2, hk3, he, hcap, hTg, h3, hst⟩ := (hw.resolve_left (fun hh => hh.1 HIN.out)).2
  obtain rfl : k2 = k := by have := HKX.out; omega
  subst he
  have hvl := h3.len
  have hglt := HTL.out g hTg
  have hgk : ∀ V, Below w.heap.size w V → V.heap[g]? = w.heap[g]? := fun V hV => hV.block g hglt
  rw [HNN.out] at hcap ⊢
  have hvn : vs.length = n := by rw [hvl]; exact HNN.out
  have HALL : Hid (∀ i, k2 + i < n → ∃ (y : ByteArray × List Er) (nx : Value), s.ss[k2 + i]? = some y ∧ EsG G w nx y.2 ∧ ∀ V, Below w.heap.size w V → V.cell? ⟨g, k2 * 2 + i * 2, none⟩ = some (.string y.1) ∧ V.cell? ⟨g, k2 * 2 + i * 2 + 1, none⟩ = some nx) := fun i hi => by
    have h9 := h3.at_ (k2 + i) (by omega) (by omega)
    refine ⟨s.ss[k2 + i]'(by omega), (vs[k2 + i]'(by omega)).2, List.getElem?_eq_getElem _, h9.2, fun V hV => ?_⟩
    have := hst V (hgk V hV) (k2 + i) (by omega)
    rw [show (k2 + i) * 2 = k2 * 2 + i * 2 by omega, h9.1] at this
    exact this
  obtain ⟨y0, nx0, hy0, _, hc0⟩ := HALL.out 0 (by omega)
  have c0 := (hc0 w1 B1.out).1
  have ht0 : y0.1 = t := by
    have hk9 := HK.out
    rw [Nat.add_zero, List.getElem?_eq_getElem hk9] at hy0
    rw [← Option.some.inj hy0]; exact HTX.out
  rw [ht0] at c0
  simp only [Nat.zero_mul, Nat.add_zero] at c0
  obtain ⟨N, hN⟩ : ∃ N, n - k2 = N := ⟨_, rfl⟩
  obtain ⟨M, hM⟩ : ∃ M, M + 1 = N := ⟨N - 1, by omega⟩
  have hML : L.length = M := by rw [← HL.out, HNL.out, HNN.out]; omega
  obtain ⟨cp, hcp⟩ : ∃ c, cap - k2 = c := ⟨_, rfl⟩
  rw [hN, hcp]
  have hN1 : IntKind.i64.wrap ((N : Int) - 1) = (M : Int) := by simp [IntKind.wrap, IntKind.signed, IntKind.bits]; omega
  have hNn : ¬ (N : Int) = 0 := by omega
  have hN0 : (0 : Int) < (N : Int) := by omega
  have hMN : (M : Int) ≤ (cp : Int) := by omega
  have hM17 : M ≤ 17 := by omega
  have hNz : ((N : Int) == 0) = false := by simp; omega
  have HVN := Lib.hid hvn; have HMM := Lib.hid (And.intro hM hN); have HML := Lib.hid hML
  have HE0 : Hid (ES w1.heap.size w1 none 0 [] ∧ (∀ e ∈ ([] : List Er), e.Fit) ∧ ([] : List Er).length ≤ 64 ∧ SncOk t [] (L.drop 0) R) := ⟨ES.none _ _, fun e he => by simp at he, Nat.zero_le _, HOK.out⟩
  clear hw b1 hk2 hk3 h3 hst hvl hgk hvn ht0 hN hM hML hcp hc0 hy0
  go_wp2_with fail
  go_loopw [8, 29] (fun u q wr => ∃ (i : Nat) (xs : List Er) (ax : Option Addr) (cx : Nat), i ≤ M ∧ q = .int .i64 (i : Int) ∧ u = .slice ax xs.length cx ∧ Hid (ES wr.heap.size wr ax cx xs ∧ (∀ e ∈ xs, e.Fit) ∧ xs.length ≤ 64 ∧ SncOk t xs (L.drop i) R) ∧ Hid (Below w.heap.size w wr)) (fun _ q _ => M - (intOf q).toNat)
  case atStart => exact ⟨0, [], none, 0, by omega, rfl, rfl, HE0, B1.out⟩
  case round =>
    obtain ⟨i, xs, ax, cx, hi, rfl, rfl, HX, HR⟩ := hrel
    by_cases hlt : i < M
    · have hkk : (i : Int) < (M : Int) := by omega
      obtain ⟨y, nx, hy, hnx, hcl⟩ := HALL.out i (by have := HMM.out; omega)
      obtain ⟨an, cn, rfl, hEn⟩ := hnx.es
      obtain ⟨d0, d1⟩ := hcl wr HR.out
      obtain ⟨yt, ye⟩ := y
      simp only at d0 d1 hEn hnx
      obtain ⟨e1, e2, e3, e4⟩ := HX.out
      have hLi : L.drop i = ye :: L.drop (i + 1) := by
        have h8 : i < L.length := by rw [HML.out]; exact hlt
        rw [List.drop_eq_getElem_cons h8]
        congr 1
        have := HNG.out i (by rw [HL.out]; exact h8)
        rw [hy, HL.out, List.getElem?_eq_getElem h8] at this
        simpa using this
      rw [hLi] at e4
      obtain ⟨q1, q2, q3, q4, q5, q6⟩ := e4
      have hye := HET.out (yt, ye) (List.mem_of_getElem? hy)
      simp only at hye
      obtain ⟨ln, hln⟩ : ∃ n, ye.length = n := ⟨_, rfl⟩
      rw [hln] at d1
      have HC : Hid (∀ W, Below wr.heap.size wr W → Calls Tryz.prog 59 #[.string t, .slice ax xs.length cx, .slice an ln cn] W fun e w' => NewES W (cmS t xs ye) 0 e w') := fun W hW => by
        have h1 : ES W.heap.size W an cn ye := hEn.on (HR.out.trans (hW.mono HR.out.size))
        have := pcompose_any t ax an cx cn xs ye W (by omega) q2 q3 (by omega) (by omega) e2 hye.2 (e1.on hW) h1
        rw [q1, hln] at this
        exact this
      obtain ⟨X, hX⟩ : ∃ x, cmS t xs ye = x := ⟨_, rfl⟩
      rw [hX] at q4 q5 q6 HC
      have HQ : Hid ((∀ e ∈ X, e.Fit) ∧ X.length ≤ 64 ∧ SncOk t X (L.drop (i + 1)) R) := ⟨q4, q5, q6⟩
      have HBW : Hid (Below wr.heap.size wr (wr.alloc (.cells #[.string yt, .slice an ln cn] 68))) := (Below.refl _ _).alloc (Nat.le_refl _) _
      clear hy hnx hcl hEn e1 e2 e3 hLi q1 q2 q3 q4 q5 q6 hye hln hX
      go_wp2_with fail
      refine (HC.out _ HBW.out).mono ?_
      rintro e w7 ⟨a7, c7, rfl, hE7, b7⟩
      have HX7 : Hid (ES w7.heap.size w7 a7 c7 X ∧ (∀ e ∈ X, e.Fit) ∧ X.length ≤ 64 ∧ SncOk t X (L.drop (i + 1)) R) := ⟨hE7, HQ.out.1, HQ.out.2.1, HQ.out.2.2⟩
      have H7 : Hid (Below w.heap.size w w7) := HR.out.trans ((HBW.out.trans (b7.mono HBW.out.size)).mono HR.out.size)
      clear hE7 b7
      go_wp2
      go_roundw
      case rel => exact ⟨i + 1, X, a7, c7, by omega, by go_num, rfl, HX7, H7⟩
      case measure => simp [intOf]; omega
    · obtain rfl : M = i := by omega
      have hR := HX.out.2.2.2
      rw [List.drop_eq_nil_of_le (by rw [HML.out]; omega)] at hR
      have hRR : xs = R := hR
      subst hRR
      clear hR
      go_wp2_with fail
      go_ret2
      exact ⟨ax, cx, rfl, HX.out.1, HR.out⟩

end Go.Proofs.YtkehgoailhpenaaGreat

/- The mathematics of composing no edits with a list. It has no conditions. -/
namespace Go.Proofs.YtkehgoailhpenaaGreat
open Go.RowKit Go.Shelf
set_option linter.unusedVariables false

theorem canon_norm {s : List Int} {l : List Ee} (h : Vld s.length 0 l) : norml s (canon s.length 0 [] (srcl s 0 l)) = norml s l := by
  have h1 := cmpl_nil h
  unfold cmpl at h1
  have hz : (srcl s 0 l).map Prod.fst = appl s 0 l := srcl_fst s l 0
  have ht : thru (srcl s 0 l) (srcl (appl s 0 l) 0 []) = srcl s 0 l := by
    rw [srcl_nil _ _ (Nat.zero_le _), thru_slice hz, List.drop_zero, Nat.sub_zero, List.take_of_length_le (by rw [← hz, List.length_map]; exact Nat.le_refl _)]
  rwa [ht] at h1
theorem thru_id {s : List Int} {z : List (Int × Option Nat)} (h : Src s 0 z) : thru (srcl s 0 []) z = z := by
  unfold thru
  rw [srcl_nil _ _ (Nat.zero_le _)]
  conv => rhs; rw [← List.map_id z]
  refine List.map_congr_left fun y hy => ?_
  obtain ⟨c, o⟩ := y
  cases o with
  | none => rfl
  | some k =>
    obtain ⟨i, hi⟩ := List.mem_iff_getElem?.1 hy
    have hk := ((src_iff.1 h).2.1 i k c hi).2
    have hlt := (List.getElem?_eq_some_iff.1 hk).1
    simp only [Option.bind_some, pcs_at, Nat.sub_zero, Nat.zero_add]
    rw [if_pos hlt, hk]
    rfl
/-- Composing no edits with a list gives its normal form. -/
theorem nil_cmpl {s : List Int} {l : List Ee} (h : Vld s.length 0 l) : cmpl s [] l = norml s l := by
  unfold cmpl
  have ha : appl s 0 [] = s := by simp [appl]
  rw [ha, thru_id (srcl_src h)]
  exact canon_norm h
theorem nil_cm {s : ByteArray} {es : List Er} (hv : vErr (s.size : Int) es = 0) : cmE s [] es = 0 ∧ cmS s [] es = nmS s es := by
  have hvld := (vErr_ok hv).2.1
  have hl := (vErr_ok hv).1
  have h1 : cmpl (sb s) (ees []) (ees es) = norml (sb s) (ees es) := nil_cmpl (by rw [sb_len]; exact hvld)
  have h2 : (norml (sb s) (ees es)).length ≤ 64 := by have := norml_len (sb s) (ees es); rw [ees_len] at this; omega
  have hE : cmE s [] es = 0 := by
    unfold cmE
    rw [if_pos (show vErr (s.size : Int) [] = 0 from rfl), apS_nil, if_pos hv, h1, if_neg (by omega)]
  refine ⟨hE, ?_⟩
  unfold cmS nmS
  rw [hE, if_pos rfl, if_pos hv, h1]

end Go.Proofs.YtkehgoailhpenaaGreat

/- The states of a document lead from one to the next, and the way back to its first version: mathematics, no conditions. -/
namespace Go.Proofs.YtkehgoailhpenaaGreat
open Go.RowKit Go.Shelf Go.Maps
set_option linter.unusedVariables false

/-- A state leads to the next by at most five edits. -/
def Stp1 (x y : ByteArray × List Er) : Prop := vErr (x.1.size : Int) x.2 = 0 ∧ apS x.1 x.2 = y.1 ∧ x.2.length ≤ 5
def LinkL : List (ByteArray × List Er) → Prop
  | [] => True
  | [_] => True
  | x :: y :: l => Stp1 x y ∧ LinkL (y :: l)
theorem LinkL.tail {x : ByteArray × List Er} {l : List (ByteArray × List Er)} (h : LinkL (x :: l)) : LinkL l := by
  cases l with
  | nil => trivial
  | cons y l => exact h.2
theorem LinkL.drop {l : List (ByteArray × List Er)} (h : LinkL l) : LinkL (l.drop 1) := by
  cases l with
  | nil => exact h
  | cons x l => exact h.tail
theorem LinkL.snoc : ∀ {l : List (ByteArray × List Er)} {x y : ByteArray × List Er}, LinkL (l ++ [x]) → Stp1 x y → LinkL (l ++ [x] ++ [y]) := by
  intro l
  induction l with
  | nil => intro x y _ h; exact ⟨h, trivial⟩
  | cons z l ih =>
    intro x y h k
    cases l with
    | nil => exact ⟨h.1, k, trivial⟩
    | cons u l => exact ⟨h.1, ih h.2 k⟩
theorem LinkL.last : ∀ {l : List (ByteArray × List Er)} {x : ByteArray × List Er} {es : List Er}, LinkL (l ++ [x]) → LinkL (l ++ [(x.1, es)]) := by
  intro l
  induction l with
  | nil => intro x es _; trivial
  | cons z l ih =>
    intro x es h
    cases l with
    | nil => exact ⟨h.1, trivial⟩
    | cons u l => exact ⟨h.1, ih h.2⟩
structure Lnk (s : DS) : Prop where
  v0 : 0 ≤ s.v
  len : (s.ss.length : Int) = min (s.v + 1) 17
  lk : LinkL s.ss
  hl : ∀ x ∈ s.hs, x.2.length ≤ 5
theorem Lnk.new (t : ByteArray) (v : Int) (h : v = 0) : Lnk (newS t v) := ⟨by show 0 ≤ v; omega, by show ((1 : Nat) : Int) = min (v + 1) 17; omega, trivial, fun x hx => by simp [newS] at hx⟩
theorem set_last {α : Type} (l : List α) (x y : α) : (l ++ [x]).set ((l ++ [x]).length - 1) y = l ++ [y] := by
  rw [List.length_append, List.set_append_right _ _ (by simp)]
  simp
theorem Lnk.adv {s : DS} (h : Lnk s) {es : List Er} (hv : vErr (s.text.size : Int) es = 0) (hn : es.length ≤ 5) : Lnk (advS s es) := by
  have hl := h.len
  have hv0 := h.v0
  have hne : s.ss ≠ [] := fun e => by rw [e] at hl; simp at hl; omega
  obtain ⟨l, x, hx⟩ : ∃ l x, s.ss = l ++ [x] := ⟨s.ss.dropLast, s.ss.getLast hne, (List.dropLast_concat_getLast hne).symm⟩
  have ht : s.text = x.1 := by unfold DS.text; rw [hx]; simp
  have hA : s.ss.set (s.ss.length - 1) (s.text, es) = l ++ [(x.1, es)] := by rw [hx, set_last, ht]
  have hlk : LinkL (l ++ [(x.1, es)]) := by have := h.lk; rw [hx] at this; exact this.last
  have hlen : s.ss.length = l.length + 1 := by rw [hx]; simp
  refine ⟨by show 0 ≤ s.v + 1; omega, ?_, ?_, h.hl⟩
  · show (((remS (s.ss.set (s.ss.length - 1) (s.text, es)) (apS s.text es)).length : Nat) : Int) = min (s.v + 1 + 1) 17
    rw [remS_len, List.length_set]
    split <;> omega
  · show LinkL (remS (s.ss.set (s.ss.length - 1) (s.text, es)) (apS s.text es))
    have hst : Stp1 (x.1, es) (apS s.text es, []) := ⟨by rw [← ht]; exact hv, by rw [ht], hn⟩
    unfold remS
    rw [hA]
    split
    · cases l with
      | nil => rename_i h1; simp at h1
      | cons z l => exact LinkL.snoc (l := l) (LinkL.tail hlk) hst
    · exact LinkL.snoc hlk hst
theorem apl_zero {s : DS} {ps : List PE} (h : aplE s ps = 0) : vErr (s.text.size : Int) (pL s.text ps) = 0 := by
  unfold aplE at h
  split at h
  · unfold advE at h
    split at h
    · assumption
    · exact h
  · rename_i h1; exact absurd h h1
theorem Lnk.apl {s : DS} (h : Lnk s) {ps : List PE} (ha : aplE s ps = 0) (hn : ps.length ≤ 5) : Lnk (aplS s ps) :=
  h.adv (apl_zero ha) (by have := (pL_len s.text ps).1; omega)
theorem Lnk.drp {s : DS} (h : Lnk s) : Lnk (dropH s) := ⟨h.v0, h.len, h.lk, fun x hx => h.hl x (List.mem_filter.1 hx).1⟩
theorem Lnk.hld : ∀ (f : Nat) {s : DS}, Lnk s → Lnk (hldF f s).2 := by
  intro f
  induction f with
  | zero => intro s h; exact h
  | succ f ih =>
    intro s h
    simp only [hldF]
    split
    · rename_i hin
      split
      · rename_i ha
        exact ih (h.drp.apl ha (h.hl _ (lookH_mem hin)))
      · exact h.drp
    · exact h
theorem Lnk.rcv {s : DS} (h : Lnk s) (cv : Int) {ps : List PE} (hn : ps.length ≤ 5) : Lnk (rcvF s cv ps).2 := by
  unfold rcvF
  split
  · exact h
  · split
    · exact ⟨h.v0, h.len, h.lk, fun x hx => by
        rcases List.mem_append.1 hx with hx | hx
        · exact h.hl x hx
        · simp only [List.mem_singleton] at hx; subst hx; exact hn⟩
    · split
      · exact h
      · rename_i _ _ ha
        exact Lnk.hld _ (h.apl (by simpa using ha) hn)
/-- Edits that follow each other from a text. -/
def ChE : ByteArray → List (List Er) → Prop
  | _, [] => True
  | u, y :: l => vErr (u.size : Int) y = 0 ∧ y.length ≤ 5 ∧ (apS u y).size ≤ 4096 ∧ ChE (apS u y) l
theorem link_ch : ∀ (l : List (ByteArray × List Er)) (x : ByteArray × List Er), LinkL (x :: l) → (∀ z ∈ x :: l, z.1.size ≤ 4096) → ChE x.1 (((x :: l).take l.length).map Prod.snd) := by
  intro l
  induction l with
  | nil => intro x _ _; exact trivial
  | cons y l ih =>
    intro x h hs
    have h1 := h.1
    have h2 := ih y h.2 (fun z hz => hs z (List.mem_cons_of_mem _ hz))
    show ChE x.1 (x.2 :: ((y :: l).take l.length).map Prod.snd)
    exact ⟨h1.1, h1.2.2, by rw [h1.2.1]; exact hs y (by simp), by rw [h1.2.1]; exact h2⟩
theorem snc_ex : ∀ (l : List (List Er)) (t u : ByteArray) (x : List Er) (n : Nat), vErr (t.size : Int) x = 0 → apS t x = u → x.length ≤ 8 * n → n + l.length ≤ 8 → t.size ≤ 4096 → u.size ≤ 4096 → ChE u l → ∃ R, SncOk t x l R ∧ R.length ≤ 64 := by
  intro l
  induction l with
  | nil => intro t u x n h1 h2 h3 h4 h5 h6 h7; exact ⟨x, rfl, by simp at h4; omega⟩
  | cons y l ih =>
    intro t u x n h1 h2 h3 h4 h5 h6 h7
    obtain ⟨c1, c2, c3, c4⟩ := h7
    simp only [List.length_cons] at h4
    obtain ⟨k1, _, k3, k4, k5, k6⟩ := comp_ok (s := t) (a := x) (b := y) h1 (by rw [h2]; exact c1) (by omega)
    rw [h2] at k4 k6
    have hfit := fit_of k3 (by omega) (fun e he => by have := k6 e he; omega)
    obtain ⟨R, r1, r2⟩ := ih t (apS u y) (cmS t x y) (n + 1) k3 k4 (by omega) (by omega) h5 c3 c4
    exact ⟨R, ⟨k1, by rw [h2]; omega, by rw [h2]; omega, hfit, by omega, r1⟩, r2⟩
/-- The first version is remembered, and Since leads to it. -/
theorem Lnk.since {s : DS} (h : Lnk s) (hv : s.v ≤ 8) (ht : ∀ x ∈ s.ss, x.1.size ≤ 4096) : ∃ (hk : 0 < s.ss.length) (R : List Er), oldS s = 0 ∧ SncOk (s.ss[0]).1 [] (nexts s 0) R ∧ R.length ≤ 64 := by
  have hl := h.len
  have hv0 := h.v0
  have hk : 0 < s.ss.length := by omega
  refine ⟨hk, ?_⟩
  obtain ⟨x, l, hs⟩ : ∃ x l, s.ss = x :: l := by
    cases hq : s.ss with
    | nil => rw [hq] at hk; simp at hk
    | cons x l => exact ⟨x, l, rfl⟩
  have h0 : s.ss[0] = x := by
    have h1 : s.ss[0]? = some x := by rw [hs]; rfl
    rw [List.getElem?_eq_getElem hk] at h1
    exact Option.some.inj h1
  have hlk := h.lk
  rw [hs] at hlk
  have hl2 : l.length + 1 = s.ss.length := by rw [hs]; rfl
  have hc := link_ch l x hlk (by rw [← hs]; exact ht)
  have hx := ht x (by rw [hs]; simp)
  have hnx : nexts s 0 = ((x :: l).take l.length).map Prod.snd := by
    unfold nexts
    rw [hs]
    simp
  obtain ⟨R, r1, r2⟩ := snc_ex (((x :: l).take l.length).map Prod.snd) x.1 x.1 [] 0 rfl (apS_nil x.1) (by simp) (by
    rw [List.length_map, List.length_take]
    simp only [List.length_cons]
    omega) hx hx hc
  refine ⟨R, by unfold oldS; omega, ?_, r2⟩
  rw [h0, hnx]
  exact r1
/-- A document receives changes, by their numbers in a list. -/
noncomputable def run (cs : List (List PE)) : List Nat → DS → DS
  | [], s => s
  | k :: l, s => run cs l (rcvF s ((k : Int) + 1) (cs[k]?.getD [])).2
theorem run_snoc (cs : List (List PE)) : ∀ (l : List Nat) (k : Nat) (s : DS), run cs (l ++ [k]) s = (rcvF (run cs l s) ((k : Int) + 1) (cs[k]?.getD [])).2 := by
  intro l
  induction l with
  | nil => intro k s; rfl
  | cons j l ih => intro k s; exact ih k _
theorem run_step {cs : List (List PE)} {ks : List Nat} {i : Nat} (hi : i < ks.length) (hk : ks[i] < cs.length) (s : DS) : run cs (ks.take (i + 1)) s = (rcvF (run cs (ks.take i) s) ((ks[i] : Int) + 1) (cs[ks[i]])).2 := by
  rw [List.take_succ_eq_append_getElem hi, run_snoc, List.getElem?_eq_getElem hk]; rfl
theorem run_ok {S : ByteArray} {cs : List (List PE)} (hF : Fits S cs) (hn : cs.length ≤ 16) : ∀ (l : List Nat) (s : DS), (∀ k ∈ l, k < cs.length) → Ord S cs s → Lnk s → Ord S cs (run cs l s) ∧ Lnk (run cs l s) := by
  intro l
  induction l with
  | nil => intro s _ h1 h2; exact ⟨h1, h2⟩
  | cons k l ih =>
    intro s hk h1 h2
    have hkn := hk k (by simp)
    obtain ⟨n, e, s', hr, o1, _⟩ := ord_step hF hn h1 hkn
    have h3 := h2.rcv ((k : Int) + 1) (ps := cs[k]) (hF.mem hkn).1
    show Ord S cs (run cs l (rcvF s ((k : Int) + 1) (cs[k]?.getD [])).2) ∧ _
    have he : cs[k]?.getD [] = cs[k] := by rw [List.getElem?_eq_getElem hkn]; rfl
    show Ord S cs (run cs l (rcvF s ((k : Int) + 1) (cs[k]?.getD [])).2) ∧ Lnk (run cs l (rcvF s ((k : Int) + 1) (cs[k]?.getD [])).2)
    rw [he]
    refine ih _ (fun j hj => hk j (List.mem_cons_of_mem _ hj)) (by rw [hr]; exact o1) h3

end Go.Proofs.YtkehgoailhpenaaGreat

/- The example of the chapter on documents, in the words of the specification. It has no conditions. -/
namespace Go.Proofs.YtkehgoailhpenaaGreat
open Go.RowKit Go.Shelf Go.Maps
set_option linter.unusedVariables false

abbrev lvA : ByteArray := ⟨#[97, 98]⟩
abbrev lvB : ByteArray := ⟨#[97, 120, 98]⟩
abbrev lvC : ByteArray := ⟨#[97, 120, 98, 121]⟩
abbrev lvX : ByteArray := ⟨#[120]⟩
abbrev lvY : ByteArray := ⟨#[121]⟩
def lp1 : PE := ⟨0, 3, 0, 3, lvY⟩
def lp2 : PE := ⟨0, 1, 0, 1, lvX⟩
def le1 : Er := ⟨1, 1, lvX⟩
def le2 : Er := ⟨3, 3, lvY⟩
def le3 : Er := ⟨2, 2, lvY⟩
theorem lv_sbA : sb lvA = [97, 98] := by decide +kernel
theorem lv_sbB : sb lvB = [97, 120, 98] := by decide +kernel
theorem lv_posA : Pos [97, 98] 1 0 1 := ⟨⟨1, bord_of (n := 12) (by decide +kernel)⟩, by decide +kernel, by rw [show (lf [97, 98] 1).2 = 0 by decide +kernel]; exact bord_of (n := 12) (by decide +kernel)⟩
theorem lv_posB : Pos [97, 120, 98] 3 0 3 := ⟨⟨3, bord_of (n := 12) (by decide +kernel)⟩, by decide +kernel, by rw [show (lf [97, 120, 98] 3).2 = 0 by decide +kernel]; exact bord_of (n := 12) (by decide +kernel)⟩
theorem lv_ed2 : edD (sb lvA) lp2 = (⟨1, 1, lvX⟩, 0) := by
  rw [lv_sbA]
  exact edD_eq (ed_there lvX lv_posA lv_posA (Nat.le_refl _))
theorem lv_ed1 : edD (sb lvB) lp1 = (⟨3, 3, lvY⟩, 0) := by
  rw [lv_sbB]
  exact edD_eq (ed_there lvY lv_posB lv_posB (Nat.le_refl _))
theorem lv_pE2 : pE lvA [lp2] = 0 ∧ pL lvA [lp2] = [le1] := by
  have h : pE lvA [lp2] = 0 := by
    unfold pE
    rw [if_neg (by decide)]
    simp only [pE0, lv_ed2, if_true]
  refine ⟨h, ?_⟩
  unfold pL
  rw [if_pos h]
  simp only [List.map_cons, List.map_nil, lv_ed2]
  rfl
theorem lv_pE1 : pE lvB [lp1] = 0 ∧ pL lvB [lp1] = [le2] := by
  have h : pE lvB [lp1] = 0 := by
    unfold pE
    rw [if_neg (by decide)]
    simp only [pE0, lv_ed1, if_true]
  refine ⟨h, ?_⟩
  unfold pL
  rw [if_pos h]
  simp only [List.map_cons, List.map_nil, lv_ed1]
  rfl
def lvS0 : DS := newS lvA 3
def lvS1 : DS := ⟨3, [(lvA, [])], [(5, [lp1])]⟩
def lvS2 : DS := ⟨4, [(lvA, [le1]), (lvB, [])], [(5, [lp1])]⟩
def lvS3 : DS := ⟨5, [(lvA, [le1]), (lvB, [le2]), (lvC, [])], []⟩
theorem lv_r1 : rcvF lvS0 5 [lp1] = ((0, 0), lvS1) := by
  have h1 : chkE lvS0 5 [lp1].length = 0 := by decide +kernel
  have h2 : lvS0.v + 1 < 5 := by decide +kernel
  unfold rcvF
  rw [h1, if_neg (by simp), if_pos h2]
  rfl
theorem lv_apl2 : aplE lvS1 [lp2] = 0 ∧ aplS lvS1 [lp2] = lvS2 := by
  have ht : lvS1.text = lvA := by kernel_rfl
  unfold aplE aplS
  rw [ht, lv_pE2.1, lv_pE2.2, if_pos rfl]
  exact ⟨by decide +kernel, by kernel_rfl⟩
theorem lv_apl1 : aplE (dropH lvS2) [lp1] = 0 ∧ aplS (dropH lvS2) [lp1] = lvS3 := by
  have ht : (dropH lvS2).text = lvB := by kernel_rfl
  unfold aplE aplS
  rw [ht, lv_pE1.1, lv_pE1.2, if_pos rfl]
  exact ⟨by decide +kernel, by kernel_rfl⟩
theorem lv_hld : hldF 1 lvS2 = (1, lvS3) := by
  have h1 : lvS2.v + 1 ∈ lvS2.hs.map Prod.fst := by decide +kernel
  have h2 : lookH lvS2.hs (lvS2.v + 1) = [lp1] := by kernel_rfl
  simp only [hldF]
  rw [if_pos h1, h2, if_pos lv_apl1.1, lv_apl1.2]
theorem lv_r2 : rcvF lvS1 4 [lp2] = ((2, 0), lvS3) := by
  have h1 : chkE lvS1 4 [lp2].length = 0 := by decide +kernel
  have h2 : ¬ lvS1.v + 1 < 4 := by decide +kernel
  unfold rcvF
  rw [h1, if_neg (by simp), if_neg h2, lv_apl2.1, if_neg (by simp), lv_apl2.2, show lvS1.hs.length = 1 from rfl, lv_hld]
  rfl
theorem lv_r3 : rcvF lvS3 4 [lp2] = ((0, 8), lvS3) := by
  have h1 : chkE lvS3 4 [lp2].length = 8 := by decide +kernel
  unfold rcvF
  rw [h1, if_pos (by decide)]
theorem lv_snc : SncOk lvA [] (nexts lvS3 0) [le1, le3] := by
  have h0 : nexts lvS3 0 = [[le1], [le2]] := by kernel_rfl
  have h1 : cmS lvA [] [le1] = [le1] := by kernel_rfl
  have h2 : cmS lvA [le1] [le2] = [le1, le3] := by kernel_rfl
  have f1 : le1.Fit := ⟨by decide, by decide, by decide, by decide, by decide⟩
  have f3 : le3.Fit := ⟨by decide, by decide, by decide, by decide, by decide⟩
  rw [h0]
  refine ⟨by decide +kernel, by decide +kernel, by decide +kernel, ?_, by rw [h1]; decide, ?_⟩
  · rw [h1]; intro e he; simp only [List.mem_singleton] at he; subst he; exact f1
  rw [h1]
  refine ⟨by decide +kernel, by decide +kernel, by decide +kernel, ?_, by rw [h2]; decide, h2⟩
  rw [h2]
  intro e he
  simp only [List.mem_cons, List.not_mem_nil, or_false] at he
  rcases he with rfl | rfl
  · exact f1
  · exact f3

end Go.Proofs.YtkehgoailhpenaaGreat

/- The documented example holds. It has no conditions. -/
namespace Go.Proofs.YtkehgoailhpenaaGreat
open Go.RowKit Go.Shelf Go.Maps
set_option linter.unusedVariables false

/-- One edit by positions in a new block. -/
theorem ps_one (w : World) (p : PE) : PS (w.alloc (.cells p.vals.toArray 78)).heap.size (w.alloc (.cells p.vals.toArray 78)) (some ⟨w.heap.size, 0, none⟩) 1 [p] := by
  refine ⟨Nat.le_refl _, by omega, .inr ⟨w.heap.size, 0, rfl, by simp, fun k hk i hi => ?_⟩⟩
  obtain rfl : k = 0 := by simp at hk; exact hk
  rw [(Blk.new w 78 p.vals.toArray).cell]
  simp [pG]
theorem es_two (w : World) (x y : Er) : ES (w.alloc (.cells (rv [x, y]).toArray 84)).heap.size (w.alloc (.cells (rv [x, y]).toArray 84)) (some ⟨w.heap.size, 0, none⟩) 2 [x, y] := by
  refine ⟨Nat.le_refl _, by omega, (fun h => by cases h), .inr ⟨w.heap.size, 0, rfl, by simp, fun k hk i hi => ?_⟩⟩
  rw [(Blk.new w 84 (rv [x, y]).toArray).cell, List.getElem?_toArray, Nat.zero_add]
  exact rv_get [x, y] k i hk hi
theorem lp_fit (p : PE) (h : p = lp1 ∨ p = lp2) : p.fit ∧ p.t.size ≤ 100000 := by
  rcases h with rfl | rfl <;> exact ⟨⟨⟨by decide, by decide⟩, ⟨by decide, by decide⟩, ⟨by decide, by decide⟩, ⟨by decide, by decide⟩⟩, by decide⟩

/-- What lay when the example began lies as it lay. -/
structure LvO (w W : World) (T : Nat → Prop) : Prop where
  b : Below w.heap.size w W
  t : ∀ b, T b → w.heap.size ≤ b
theorem LvO.below {w W W' : World} {T : Nat → Prop} (h : LvO w W T) (hb : Below W.heap.size W W') : LvO w W' T := ⟨h.b.trans (hb.mono h.b.size), h.t⟩
theorem LvO.step {w W W' : World} {T G T' G' : Nat → Prop} (h : LvO w W T) (k : Stp T G T' G' W W') : LvO w W' T' :=
  ⟨h.b.trans (k.below h.b.size h.t), fun b hb => (k.t b hb).elim (h.t b) (fun e => by have := h.b.size; omega)⟩

set_option maxRecDepth 100000 in
set_option maxHeartbeats 4000000 in
theorem lives_any (w : World) : Calls Tryz.prog 22 #[] w fun e w' => e = .returned (.bool true) ∧ Below w.heap.size w w' := by
  have CN := Lib.hid (new_any lvA 3 w)
  have hE : newE lvA 3 = 0 := by decide +kernel
  rw [hE] at CN
  have HCR : Hid (∀ (T G : Nat → Prop) (p : Nat) (s s' : DS) (cv : Int) (q : PE) (x y : Int) (W : World) (a : Option Addr), DocI T G W p s → (cv = 5 ∨ cv = 4) → (q = lp1 ∨ q = lp2) → PS W.heap.size W a 1 [q] → rcvF s cv [q] = ((x, y), s') →
      Calls Tryz.prog 17 #[.pointer (some ⟨p, 0, none⟩), .agg #[.int .i64 cv, .slice a 1 1]] W fun e w' => e = .returned (.tuple #[.int .i64 x, .int .i64 y]) ∧ ∃ T' G', DocI T' G' w' p s' ∧ Stp T G T' G' W w') := fun T G p s s' cv q x y W a hd hc hq hp hr => by
    have := receive_any T G p s W hd cv (by rcases hc with rfl | rfl <;> decide) (by rcases hc with rfl | rfl <;> decide) a 1 [q] hp (by simp) (fun r h => by simp only [List.mem_singleton] at h; subst h; exact lp_fit r hq)
    rw [hr] at this
    exact this
  clear hE
  go_enter Tryz.func22, Tryz.ntmps22
  go_wp2_with fail
  refine CN.out.mono ?_
  rintro e w1 hw
  obtain ⟨p, rfl, hd1, b1⟩ : ∃ p, e = .returned (.tuple #[.pointer (some ⟨p, 0, none⟩), .int .i64 0]) ∧ DocI (newB w w1) (fun _ => False) w1 p lvS0 ∧ Below w.heap.size w w1 := by
    rcases hw with ⟨h, _⟩ | ⟨_, p, h1, h2, h3⟩
    · exact absurd rfl h
    · exact ⟨p, h1, h2, h3⟩
  have HL1 : Hid (LvO w w1 (newB w w1)) := ⟨b1, fun b hb => hb.1⟩
  have HD1 := Lib.hid hd1
  clear hw hd1 b1
  obtain ⟨W1, hW1⟩ : ∃ W, w1.alloc (.cells lp1.vals.toArray 78) = W := ⟨_, rfl⟩
  have k1 : Below w1.heap.size w1 W1 := by rw [← hW1]; exact (Below.refl _ _).alloc (Nat.le_refl _) _
  have C1 := HCR.out _ _ p lvS0 lvS1 5 lp1 0 0 W1 (some ⟨w1.heap.size, 0, none⟩) (HD1.out.below k1) (.inl rfl) (.inl rfl) (by rw [← hW1]; exact ps_one w1 lp1) lv_r1
  have HC1 := Lib.hid C1; have HK1 := Lib.hid k1; have HW1 : Hid (w1.alloc (.cells #[.int .i64 0, .int .i64 3, .int .i64 0, .int .i64 3, .string ⟨#[121]⟩] 78) = W1) := hW1
  clear C1 k1 hW1
  go_wp2_with fail
  rw [HW1.out]
  refine HC1.out.mono ?_
  rintro e w2 ⟨rfl, T2, G2, hd2, hs2⟩
  have HL2 : Hid (LvO w w2 T2) := (HL1.out.below HK1.out).step hs2
  have HD2 := Lib.hid hd2
  clear hd2 hs2 HC1 HW1 HK1
  obtain ⟨q, hq⟩ : ∃ q, w2.heap.size = q := ⟨_, rfl⟩
  obtain ⟨W2, hW2⟩ : ∃ W, w2.alloc (.cells lp2.vals.toArray 78) = W := ⟨_, rfl⟩
  obtain ⟨W3, hW3⟩ : ∃ W, W2.alloc (.cells #[.int .i64 4, .slice (some ⟨q, 0, none⟩) 1 1] 47) = W := ⟨_, rfl⟩
  have z2 : W2.heap.size = q + 1 := by rw [← hW2, ← hq]; simp
  have k2 : Below w2.heap.size w2 W2 := by rw [← hW2]; exact (Below.refl _ _).alloc (Nat.le_refl _) _
  have k3 : Below W2.heap.size W2 W3 := by rw [← hW3]; exact (Below.refl _ _).alloc (Nat.le_refl _) _
  have kc : Blk W3 (q + 1) 47 #[.int .i64 4, .slice (some ⟨q, 0, none⟩) 1 1] := by rw [← hW3, ← z2]; exact Blk.new _ _ _
  have hp2 : PS W2.heap.size W2 (some ⟨q, 0, none⟩) 1 [lp2] := by rw [← hW2, ← hq]; exact ps_one w2 lp2
  have k23 : Below w2.heap.size w2 W3 := k2.trans (k3.mono k2.size)
  have hp3 := hp2.on k3
  have C2 := HCR.out _ _ p lvS1 lvS3 4 lp2 2 0 W3 (some ⟨q, 0, none⟩) (HD2.out.below k23) (.inr rfl) (.inr rfl) hp3 lv_r2
  have u0 := kc.cell 0
  have u1 := kc.cell 1
  simp only [List.getElem?_toArray, List.getElem?_cons_zero, List.getElem?_cons_succ] at u0 u1
  have HC2 := Lib.hid C2; have HK23 := Lib.hid k23; have HKC := Lib.hid kc; have HP3 := Lib.hid hp3
  have HW3 : Hid ((w2.alloc (.cells #[.int .i64 0, .int .i64 1, .int .i64 0, .int .i64 1, .string ⟨#[120]⟩] 78)).alloc (.cells #[.int .i64 4, .slice (some ⟨q, 0, none⟩) 1 1] 47) = W3) := by rw [← hW3, ← hW2]; rfl
  have HTQ : Hid (∀ b, T2 b → b < q) := fun b hb => by rw [← hq]; exact HD2.out.lt b hb
  have hzq : q + 2 = W3.heap.size := by rw [← hW3]; simp [z2]
  have HZQ := Lib.hid hzq
  clear C2 k23 kc hp3 hp2 k3 k2 z2 hW3 hW2 hzq
  go_wp2_with fail
  rw [HW3.out]
  refine HC2.out.mono ?_
  rintro e w4 ⟨rfl, T4, G4, hd4, hs4⟩
  have hzz := hs4.only.size
  have hbk : ∀ b, q ≤ b → b < W3.heap.size → w4.heap[b]? = W3.heap[b]? := fun b h1 h2 => hs4.only.block b h2 (fun hT => by have := HTQ.out b hT; omega)
  have hz9 := HZQ.out
  have v0 : w4.cell? ⟨q + 1, 0, none⟩ = some (.int .i64 4) := by rw [← u0]; simp only [World.cell?, hbk (q + 1) (by omega) (by omega)]
  have v1 : w4.cell? ⟨q + 1, 1, none⟩ = some (.slice (some ⟨q, 0, none⟩) 1 1) := by rw [← u1]; simp only [World.cell?, hbk (q + 1) (by omega) (by omega)]
  have hp4 : PS w4.heap.size w4 (some ⟨q, 0, none⟩) 1 [lp2] := by
    have h1 := (PsG.of (G := fun b => b = q) HP3.out (fun _ b hb => by obtain ⟨_, hb⟩ := hb; cases hb; rfl)).keep (G' := fun b => b = q) hzz (fun b hb hlt => by subst hb; exact hbk b (Nat.le_refl _) hlt) (fun _ h => h)
    obtain ⟨a', c', e1, e2⟩ := h1.ps
    simp only [Value.slice.injEq, true_and] at e1
    obtain ⟨rfl, rfl⟩ := e1
    exact e2
  have C3 := HCR.out _ _ p lvS3 lvS3 4 lp2 0 8 w4 (some ⟨q, 0, none⟩) hd4 (.inr rfl) (.inr rfl) hp4 lv_r3
  have HC3 := Lib.hid C3
  have HL4 : Hid (LvO w w4 T4) := (HL2.out.below HK23.out).step hs4
  clear C3 hp4 hbk hzz hz9 hs4 hd4 u0 u1 HC2 HW3
  go_wp2_with fail
  refine HC3.out.mono ?_
  rintro e w5 ⟨rfl, T5, G5, hd5, hs5⟩
  have HL5 : Hid (LvO w w5 T5) := HL4.out.step hs5
  have HD5 := Lib.hid hd5
  have C4 := Lib.hid (since_any T5 G5 p lvS3 w5 hd5 3 (by decide) (by decide) (by decide +kernel) 0 (by decide +kernel) (by decide) [le1, le3] lv_snc)
  clear hd5 hs5 HC3 v0 v1
  go_wp2_with fail
  refine C4.out.mono ?_
  rintro e w6 ⟨a6, c6, rfl, hE6, b6⟩
  have HE6 := Lib.hid hE6; have B56 := Lib.hid b6
  have C5 := Lib.hid (text_any T5 G5 p lvS3 w6 (HD5.out.below b6))
  have htx : lvS3.text = ⟨#[97, 120, 98, 121]⟩ := by kernel_rfl
  rw [htx] at C5
  have HL6 : Hid (LvO w w6 T5) := HL5.out.below b6
  clear hE6 b6 htx
  go_wp2_with fail
  refine C5.out.mono ?_
  rintro e w7 ⟨rfl, b7⟩
  have B67 := Lib.hid b7
  have HL7 : Hid (LvO w w7 T5) := HL6.out.below b7
  clear b7
  obtain ⟨W8, hW8⟩ : ∃ W, w7.alloc (.cells (rv [le1, le3]).toArray 84) = W := ⟨_, rfl⟩
  have k8 : Below w7.heap.size w7 W8 := by rw [← hW8]; exact (Below.refl _ _).alloc (Nat.le_refl _) _
  have C6 := Lib.hid (same_any a6 (some ⟨w7.heap.size, 0, none⟩) c6 2 [le1, le3] W8 (by decide) ((HE6.out.on B67.out).on k8) (by rw [← hW8]; exact es_two w7 le1 le3))
  have HL8 : Hid (LvO w W8 T5) := HL7.out.below k8
  have HW8 : Hid (w7.alloc (.cells #[.int .i64 1, .int .i64 1, .string ⟨#[120]⟩, .int .i64 2, .int .i64 2, .string ⟨#[121]⟩] 84) = W8) := hW8
  clear k8 hW8
  go_wp2_with fail
  rw [HW8.out]
  refine C6.out.mono ?_
  rintro e w9 ⟨rfl, b9⟩
  have HL9 : Hid (LvO w w9 T5) := HL8.out.below b9
  clear b9
  go_wp2_with fail
  go_ret
  exact ⟨rfl, HL9.out.b⟩

end Go.Proofs.YtkehgoailhpenaaGreat

/- A change out of an order is received. Conditions: at most 16 changes that fit one after the other. -/
namespace Go.Proofs.YtkehgoailhpenaaGreat
open Go.RowKit Go.Shelf Go.Maps
set_option linter.unusedVariables false

theorem rcv_at {T G G0 : Nat → Prop} {p : Nat} {s0 : DS} {W : World} {S : ByteArray} {cs : List (List PE)} {vs : List (Int × Value)} {ks : List Nat} {B : Nat} {a9 : Option Addr} {c9 : Nat} {i : Nat} (hD : DocI T G W p (run cs (ks.take i) s0)) (hF : Fits S cs) (hn : cs.length ≤ 16) (hV : Held1 G0 W vs cs) (hU : VS B W a9 c9 (pickL vs ks)) (hi : i < ks.length) (hk : ∀ k ∈ ks, k < cs.length) :
    ∃ b off x ap np cp, a9 = some ⟨b, off, none⟩ ∧ W.cell? ⟨b, off + i * 2, none⟩ = some (.int .i64 x) ∧ W.cell? ⟨b, off + i * 2 + 1, none⟩ = some (.slice ap np cp) ∧ Hid (Calls Tryz.prog 17 #[.pointer (some ⟨p, 0, none⟩), .agg #[.int .i64 x, .slice ap np cp]] W fun e w' => (∃ n e', e = .returned (.tuple #[.int .i64 n, .int .i64 e'])) ∧ ∃ T' G', DocI T' G' w' p (run cs (ks.take (i + 1)) s0) ∧ Stp T G T' G' W w') := by
  have hkn : ks[i] < cs.length := hk _ (List.getElem_mem hi)
  obtain ⟨h1, h2⟩ := hV.2 _ hkn
  rw [List.getElem?_eq_getElem hkn] at h2
  obtain ⟨ap, cp, e, hps⟩ := h2.ps
  obtain ⟨m1, m2⟩ := hF.mem hkn
  obtain ⟨b, off, q1, _, q3⟩ := hU.cells.resolve_left (by rw [pickL_len]; omega)
  have hc := q3 i (by rw [pickL_len]; exact hi)
  rw [cG_pickL hi] at hc
  refine ⟨b, off, _, ap, _, cp, q1, hc.1, by rw [hc.2, e], ?_⟩
  have hr := receive_any T G p _ W hD (cG vs ks[i]).1 (by rw [h1]; omega) (by rw [h1]; omega) ap cp cs[ks[i]] hps (by omega) m2
  rw [h1] at hr ⊢
  rw [← run_step hi hkn] at hr
  exact hr.mono (fun e w' ⟨g1, g2⟩ => ⟨⟨_, _, g1⟩, g2⟩)

end Go.Proofs.YtkehgoailhpenaaGreat

/- The library's contracts of maps.Clone laid at this program: its own function and types are those of the contract. No conditions. -/
namespace Go.Proofs.YtkehgoailhpenaaGreat
open Go.RowKit Go.Shelf Go.Maps
def Hs.cloneM_ren : Go.Shelf.Ren := ⟨fun | 5 => 57 | 7 => 74 | n => n, fun | 23 => 70 | 25 => 3 | 3 => 45 | 4 => 4 | 20 => 20 | n => n, fun | n => n⟩
theorem Hs.cloneM : Go.Proofs.SlLaysW.n5 Tryz.prog Hs.cloneM_ren := {
  mixed := by kernel_rfl
  f5 := ⟨Tryz.f57.name, by decide, Tryz.func57.trans (congrArg some (by kernel_rfl))⟩
  f7 := Tryz.func74.trans (congrArg some (by kernel_rfl))
  t4 := Tryz.underlying4
  a4 := Tryz.isAgg4
  z4 := Tryz.sizeOf4
  v4 := Tryz.zeroValue4
  t20 := Tryz.underlying20
  a20 := Tryz.isAgg20
  z20 := Tryz.sizeOf20
  v20 := Tryz.zeroValue20
  t23 := Tryz.underlying70
  a23 := Tryz.isAgg70
  z23 := Tryz.sizeOf70
  v23 := Tryz.zeroValue70 }
end Go.Proofs.YtkehgoailhpenaaGreat

/- The contract of Copy. It has no conditions. -/
namespace Go.Proofs.YtkehgoailhpenaaGreat
open Go.RowKit Go.Shelf Go.Maps
set_option linter.unusedVariables false

theorem infoST : (Tryz.prog.info? 68).map (fun i => (i.zero, i.size, i.bytes)) = some (some (.agg #[.string ⟨#[]⟩, .slice none 0 0]), 2, 40) := by kernel_rfl
def SlOk (vs : List (ByteArray × Value)) : Prop := ∀ x ∈ vs, ∃ a n c, x.2 = .slice a n c
theorem SlOk.one {vs : List (ByteArray × Value)} (h : SlOk vs) : ∀ u ∈ svals vs, u.oneCell' = true := by
  intro u hu
  obtain ⟨p, hp1, hp⟩ := List.mem_flatMap.1 hu
  simp only [List.mem_cons, List.not_mem_nil, or_false] at hp
  rcases hp with rfl | rfl
  · rfl
  · obtain ⟨a, n, c, e⟩ := h p hp1
    rw [e]; rfl
theorem slOk_of {G : Nat → Prop} {w : World} : ∀ {vs : List (ByteArray × Value)} {ss : List (ByteArray × List Er)}, All2 (StOk G w) vs ss → SlOk vs := by
  intro vs ss h
  induction h with
  | nil => intro x hx; simp at hx
  | cons h _ ih =>
    intro x hx
    rcases List.mem_cons.1 hx with rfl | hx
    · obtain ⟨a, c, e, _⟩ := h.2
      exact ⟨a, _, c, e⟩
    · exact ih x hx

set_option maxRecDepth 100000 in
set_option maxHeartbeats 2000000 in
theorem clones_any (g cap n : Nat) (vs : List (ByteArray × Value)) (w : World) (hv : vs.length = n) (h0 : 0 < n) (hn : n ≤ 100000) (ho : w.ownsRow 0 68 2 (.slice (some ⟨g, 0, none⟩) n cap) n (svals vs)) (hok : SlOk vs) :
    Calls Tryz.prog 56 #[.slice (some ⟨g, 0, none⟩) n cap] w fun e w' => ∃ g' c', e = .returned (.slice (some ⟨g', 0, none⟩) n c') ∧ w'.ownsRow w.heap.size 68 2 (.slice (some ⟨g', 0, none⟩) n c') n (svals vs) ∧ Below w.heap.size w w' := by
  obtain ⟨i0, hi, hz0, hz1, hz2⟩ := info_parts infoST
  have q1 : ∀ (w : World) (a : Option Addr) (n c n' c' : Nat), (binOp .eql 69 (.slice a n c) (.slice none n' c')).run Tryz.prog w = .ok (.bool a.isNone) w := fun w a n c n' c' => Lib.run_eql_slice_nil w _ _ a n c n' c' Tryz.underlying69
  have u1 : ∀ w, Sem.run Tryz.prog (underlying 69) w = .ok (TypeDesc.slice 68) w := run_underlying Tryz.underlying69
  have hl2 : (svals vs).length = n * 2 := by rw [svals_len, hv]
  have hc : ∀ j u, (svals vs)[j]? = some u → w.cell? ((⟨g, 0, none⟩ : Addr).add j) = some u := fun j u hj => by
    have hlt := (List.getElem?_eq_some_iff.1 hj).1
    rw [addr_add, Nat.zero_add, ho.cellAt j (by omega), hj]
  have HC := Lib.hid hc; have HL2 := Lib.hid hl2; have HOK := Lib.hid hok
  clear ho hl2 hc hok hv
  go_enter Tryz.func56, Tryz.ntmps56
  go_wp2_with (at_builtin; refine wpList_append_own _ rfl _ _ 69 rfl w.heap.size 68 i0 (.agg #[.string ⟨#[]⟩, .slice none 0 0]) 2 40 Tryz.underlying69 hi hz0 hz1 hz2 rfl (by decide) _ _ _ rfl (own_empty w 68 2) ⟨g, 0, none⟩ n cap (svals vs) rfl ?qc1 ?qc2 ?qc3 ?qc4 ?qc5 ?qc6 ?_)
  case qc1 => exact HL2.out
  case qc2 =>
    intro j u hj
    exact Lib.cell?_alloc_some _ (HC.out j u hj)
  case qc3 => exact HOK.out.one
  case qc4 => unfold maxLen; omega
  case qc5 => omega
  case qc6 => simp
  intro v' w1 hown hgrow _
  have hown' : w1.ownsRow w.heap.size 68 2 v' n (svals vs) := by simpa using hown
  obtain ⟨g', c', rfl⟩ : ∃ g' c', v' = .slice (some ⟨g', 0, none⟩) n c' := by
    obtain ⟨m, hm⟩ : ∃ m, n = m + 1 := ⟨n - 1, by omega⟩
    have h1 := hown'
    rw [hm] at h1
    obtain ⟨g', c', h2⟩ := ownsRow_succ h1
    exact ⟨g', c', by rw [h2, hm]⟩
  have HO := Lib.hid hown'
  have HF : Hid (Below w.heap.size w w1) := ((Below.refl _ w).alloc (Nat.le_refl _) _).grown hgrow (by simp) (by intro k hk; simp [Value.ownBlock] at hk; omega)
  clear hown hown' hgrow
  go_wp2
  go_ret
  exact ⟨g', c', rfl, HO.out, HF.out⟩

theorem clonem_any (m n : Nat) (D : DataW Value) (w : World) (hown : w.ownsMap Tryz.prog 3 RH m n D) :
    Calls Tryz.prog 57 #[.map (some m)] w fun e w' => e = .returned (.map (some w.heap.size)) ∧ w'.ownsMap Tryz.prog 3 RH w.heap.size n D ∧ Below w.heap.size w w' := by
  have hcon := AnyW.maps_Clone_owns Hs.cloneM 3 RH m n D w hown
  change Calls Tryz.prog 57 _ _ _ at hcon
  exact hcon.mono (fun e w' ⟨h1, h2, _, h4⟩ => ⟨h1, h2, h4⟩)

/-- The copy of a document, out of its parts. -/
theorem DocI.copied {T G : Nat → Prop} {w W : World} {p q g' c' m' : Nat} {s : DS} {vs : List (ByteArray × Value)} {D : DataW Value} (h : DocI T G w p s) (k3 : All2 (StOk G w) vs s.ss) (k5 : HeldOk G w D s.hs) (hb : Below w.heap.size w W)
    (c1 : Blk W q 72 #[.int .i64 s.v, .slice (some ⟨g', 0, none⟩) vs.length c', .map (some m')]) (c2 : W.ownsRow 0 68 2 (.slice (some ⟨g', 0, none⟩) vs.length c') vs.length (svals vs)) (c4 : W.ownsMap Tryz.prog 3 RH m' (Maps.size D) D)
    (hg : newB w W g') (hm : newB w W m') (hq : newB w W q) : DocI (newB w W) G W q s :=
  ⟨h.ok, ⟨g', c', m', D, vs, c1, c2, k3.mono (fun x y hxy => ⟨hxy.1, hxy.2.keep hb.size (fun b hG hlt => hb.block b hlt) (fun _ h => h)⟩), c4, k5.keep hb.size (fun b hG hlt => hb.block b hlt) (fun _ h => h), hg, hm⟩, hq, fun b hb' => hb'.2, fun b hb' => by have := h.glt b hb'; have := hb.size; omega, fun b hT hG => by have := h.glt b hG; have := hT.1; omega⟩

set_option maxRecDepth 100000 in
set_option maxHeartbeats 8000000 in
theorem dcopy_any (T G : Nat → Prop) (p : Nat) (s : DS) (w : World) (h : DocI T G w p s) :
    Calls Tryz.prog 26 #[.pointer (some ⟨p, 0, none⟩)] w fun e w' => ∃ q, e = .returned (.pointer (some ⟨q, 0, none⟩)) ∧ DocI (newB w w') G w' q s ∧ Below w.heap.size w w' := by
  obtain ⟨g, cap, m, D, vs, k1, k2, k3, k4, k5, k6, k7⟩ := h.mem
  have hl17 := h.ok.len
  have hne := h.ok.ne
  have hvl := k3.len
  obtain ⟨n, hn⟩ : ∃ n, vs.length = n := ⟨_, rfl⟩
  have h0 : 0 < n := by
    have : 0 < s.ss.length := List.length_pos_iff.2 hne
    omega
  have hglt := h.lt g k6
  have hmlt := h.lt m k7
  have hplt := k1.lt
  rw [hn] at k1 k2
  have HBX : Hid (∀ V, Below w.heap.size w V → V.cell? ⟨p, 0, none⟩ = some (.int .i64 s.v) ∧ V.cell? ⟨p, 1, none⟩ = some (.slice (some ⟨g, 0, none⟩) n cap) ∧ V.cell? ⟨p, 2, none⟩ = some (.map (some m))) := fun V hV => by
    have hk := k1.same (hV.block p hplt)
    have c0 := hk.cell 0
    have c1 := hk.cell 1
    have c2 := hk.cell 2
    simp only [List.getElem?_toArray, List.getElem?_cons_zero, List.getElem?_cons_succ] at c0 c1 c2
    exact ⟨c0, c1, c2⟩
  have HCS : Hid (∀ W, Below w.heap.size w W → _) := Lib.hid (fun W (hW : Below w.heap.size w W) => clones_any g cap n vs W hn h0 (by omega) (own_same k2 (fun j hj => by cases hj; exact hW.block g hglt)) (slOk_of k3))
  have HCM : Hid (∀ W, Below w.heap.size w W → _) := Lib.hid (fun W (hW : Below w.heap.size w W) => clonem_any m (Maps.size D) D W (ownsMap_same k4 (hW.block m hmlt)))
  have HFIN : Hid (∀ W5 W6 g5 c5, Below w.heap.size w W5 → Below W5.heap.size W5 W6 → w.heap.size ≤ g5 → W5.ownsRow w.heap.size 68 2 (.slice (some ⟨g5, 0, none⟩) n c5) n (svals vs) → W6.ownsMap Tryz.prog 3 RH W5.heap.size (Maps.size D) D →
      DocI (newB w (W6.alloc (.cells #[.int .i64 s.v, .slice (some ⟨g5, 0, none⟩) n c5, .map (some W5.heap.size)] 72))) G (W6.alloc (.cells #[.int .i64 s.v, .slice (some ⟨g5, 0, none⟩) n c5, .map (some W5.heap.size)] 72)) W6.heap.size s ∧ Below w.heap.size w (W6.alloc (.cells #[.int .i64 s.v, .slice (some ⟨g5, 0, none⟩) n c5, .map (some W5.heap.size)] 72))) := fun W5 W6 g5 c5 h1 h2 h3 h4 h5 => by
    obtain ⟨W7, hW7⟩ : ∃ W, W6.alloc (.cells #[.int .i64 s.v, .slice (some ⟨g5, 0, none⟩) n c5, .map (some W5.heap.size)] 72) = W := ⟨_, rfl⟩
    rw [hW7]
    have b67 : Below W6.heap.size W6 W7 := by rw [← hW7]; exact (Below.refl _ _).alloc (Nat.le_refl _) _
    have z7 : W7.heap.size = W6.heap.size + 1 := by rw [← hW7]; simp
    have kb : Blk W7 W6.heap.size 72 #[.int .i64 s.v, .slice (some ⟨g5, 0, none⟩) n c5, .map (some W5.heap.size)] := by rw [← hW7]; exact Blk.new _ _ _
    have z5 := h1.size
    have z6 := h2.size
    have b16 : Below w.heap.size w W6 := h1.trans (h2.mono z5)
    have b17 : Below w.heap.size w W7 := b16.trans (b67.mono (by omega))
    have hg5 := (h4.lt g5 rfl).2
    have hm5 : W5.heap.size < W6.heap.size := by
      obtain ⟨es, clock, q1, _⟩ := h5
      exact (Array.getElem?_eq_some_iff.1 q1).1
    have hb57 : ∀ b, b < W5.heap.size → W7.heap[b]? = W5.heap[b]? := fun b hb => (b67.block b (by omega)).trans (h2.block b hb)
    have c2 : W7.ownsRow 0 68 2 (.slice (some ⟨g5, 0, none⟩) n c5) n (svals vs) := own_same (own_base h4 (Nat.zero_le _)) (fun j hj => by cases hj; exact hb57 g5 hg5)
    have c4 : W7.ownsMap Tryz.prog 3 RH W5.heap.size (Maps.size D) D := ownsMap_same h5 (b67.block _ hm5)
    rw [← hn] at kb c2
    exact ⟨h.copied k3 k5 b17 kb c2 c4 ⟨h3, by omega⟩ ⟨by omega, by omega⟩ ⟨by omega, by omega⟩, b17⟩
  obtain ⟨d0, d1, d2⟩ := HBX.out w.drew (Below.refl _ _).drew
  obtain ⟨sv, hsv⟩ : ∃ x, s.v = x := ⟨_, rfl⟩
  rw [hsv] at d0
  simp only [hsv] at HBX HFIN
  clear h k1 k2 k3 k4 k5 k6 k7 hl17 hne hvl hn h0 hglt hmlt hplt hsv
  go_enter Tryz.func26, Tryz.ntmps26
  go_wp2_with fail
  go_region_with (first
    | (go_at_call 56; refine (HCS.out _ (Below.refl _ w).drew).mono ?_; rintro e w5 ⟨g5, c5, rfl, ho5, b5⟩; have B5 : Below w.heap.size w w5 := (Below.refl _ w).drew.trans b5; obtain ⟨e0, e1, e2⟩ := HBX.out w5 B5; have HO5 := Lib.hid ho5; have hg5 : w.heap.size ≤ g5 := (ho5.lt g5 rfl).1; clear ho5)
    | (go_at_call 57; refine (HCM.out w5 B5).mono ?_; rintro e w6 ⟨rfl, hm6, b6⟩; have B6 : Below w.heap.size w w6 := B5.trans (b6.mono B5.size); obtain ⟨f0, f1, f2⟩ := HBX.out w6 B6; have HM6 := Lib.hid hm6; have B56 := Lib.hid b6; clear hm6 b6))
  all_goals
    have HQ := Lib.hid (HFIN.out w5 w6 g5 c5 B5 B56.out hg5 HO5.out HM6.out)
    clear e0 e1 e2 f0 f1 f2
    go_wp2_with fail
    go_ret
    exact ⟨_, rfl, HQ.out⟩

end Go.Proofs.YtkehgoailhpenaaGreat
