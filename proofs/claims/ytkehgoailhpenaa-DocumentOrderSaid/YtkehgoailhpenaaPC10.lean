/- Texts of one claim, put together: DSh, DPos, DPg, DCh, DSf, DHl, DHs, DHt, DOw. Each part says what it proves and under which conditions. -/
import Derived.Test.YtkehgoailhpenaaPC09
import Derived.Deep.RegionHeld3
import Derived.Shelf.SlIterI.Nil
import Derived.Shelf.SortM.Plain
import Derived.Shelf.SortM.SortNone
import Derived.Ground.GgzProg
import Derived.Ground.SlgmProg
import Derived.Test.YtkehgoailhpenaaProg

/- The contract of Shuffled. Conditions: at most 16 changes. -/
namespace Go.Proofs.Ytkehgoailhpenaa
open Go.RowKit Go.Shelf Go.Maps
set_option linter.unusedVariables false

/-- An order in which changes arrive: every one of them, none else. -/
structure Arr (n : Nat) (ks : List Nat) : Prop where
  lt : ∀ k ∈ ks, k < n
  all : ∀ k, k < n → k ∈ ks
def pickL (vs : List (Int × Value)) (ks : List Nat) : List (Int × Value) := ks.map (cG vs)
theorem pickL_len (vs : List (Int × Value)) (ks : List Nat) : (pickL vs ks).length = ks.length := by simp [pickL]
theorem cG_pickL {vs : List (Int × Value)} {ks : List Nat} {i : Nat} (h : i < ks.length) : cG (pickL vs ks) i = cG vs (ks[i]) := by
  unfold pickL
  rw [show cG (ks.map (cG vs)) i = ((ks.map (cG vs))[i]?).getD (0, .slice none 0 0) from rfl, List.getElem?_map, List.getElem?_eq_getElem h]
  rfl
theorem pickL_range (vs : List (Int × Value)) : pickL vs (List.range vs.length) = vs := by
  unfold pickL
  refine List.ext_getElem (by simp) (fun i h1 h2 => ?_)
  rw [List.getElem_map, List.getElem_range]
  unfold cG
  rw [List.getElem?_eq_getElem h2]; rfl
theorem pickL_ok {vs : List (Int × Value)} {ks : List Nat} (hv : VOk vs) (hk : ∀ k ∈ ks, k < vs.length) : VOk (pickL vs ks) := by
  intro x hx
  obtain ⟨k, h1, rfl⟩ := List.mem_map.1 hx
  exact hv _ (cG_mem (hk k h1))
theorem cv_put : ∀ (us : List (Int × Value)) (k : Nat) (h : k < us.length) (x : Int) (u : Value), ((cv us).set (k * 2) (.int .i64 x)).set (k * 2 + 1) u = cv (us.set k (x, u)) := by
  intro us
  induction us with
  | nil => intro k h; simp at h
  | cons y us ih =>
    intro k h x u
    have e : cv (y :: us) = Value.int .i64 y.1 :: y.2 :: cv us := rfl
    rw [e]
    cases k with
    | zero => rfl
    | succ k =>
      have := ih k (by simpa using h) x u
      rw [show (k + 1) * 2 = (k * 2) + 1 + 1 by omega, List.set_cons_succ, List.set_cons_succ, List.set_cons_succ, List.set_cons_succ, this]
      rfl
/-- Two are exchanged. -/
theorem pickL_swap (vs : List (Int × Value)) {ks : List Nat} {i k : Nat} (hi : i < ks.length) (hk : k < ks.length) : ((pickL vs ks).set i (cG (pickL vs ks) k)).set k (cG (pickL vs ks) i) = pickL vs ((ks.set i ks[k]).set k ks[i]) := by
  rw [cG_pickL hi, cG_pickL hk]
  unfold pickL
  rw [List.map_set, List.map_set]
theorem Arr.swap {n : Nat} {ks : List Nat} (h : Arr n ks) {i k : Nat} (hi : i < ks.length) (hk : k < ks.length) : Arr n ((ks.set i ks[k]).set k ks[i]) := by
  have hp := List.set_set_perm hi hk
  exact ⟨fun x hx => h.lt x (hp.mem_iff.1 hx), fun x hx => hp.mem_iff.2 (h.all x hx)⟩
theorem Arr.range (n : Nat) : Arr n (List.range n) := ⟨fun k hk => List.mem_range.1 hk, fun k hk => List.mem_range.2 hk⟩
theorem Arr.put {n : Nat} {ks : List Nat} (h : Arr n ks) {x : Nat} (hx : x < n) (k : Nat) : Arr n (ks.take k ++ [x] ++ ks.drop k) := by
  refine ⟨fun y hy => ?_, fun y hy => ?_⟩
  · rcases List.mem_append.1 hy with h1 | h1
    · rcases List.mem_append.1 h1 with h2 | h2
      · exact h.lt y (List.mem_of_mem_take h2)
      · simp at h2; omega
    · exact h.lt y (List.mem_of_mem_drop h1)
  · have := h.all y hy
    rw [← List.take_append_drop k ks] at this
    rcases List.mem_append.1 this with h1 | h1
    · exact List.mem_append_left _ (List.mem_append_left _ h1)
    · exact List.mem_append_right _ h1
theorem pickL_put (vs : List (Int × Value)) (ks : List Nat) (x k : Nat) : (pickL vs ks).take k ++ [cG vs x] ++ (pickL vs ks).drop k = pickL vs (ks.take k ++ [x] ++ ks.drop k) := by
  unfold pickL
  simp [List.map_take, List.map_drop]
/-- The row behind a store of a change. -/
theorem row_put {w : World} {lo g n cap : Nat} {us : List (Int × Value)} (h : w.ownsRow lo 34 2 (.slice (some ⟨g, 0, none⟩) n cap) n (cv us)) {k : Nat} (hk : k < us.length) (x : Int) (u : Value) :
    ((w.setCell ⟨g, k * 2, none⟩ (.int .i64 x)).setCell ⟨g, k * 2 + 1, none⟩ u).ownsRow lo 34 2 (.slice (some ⟨g, 0, none⟩) n cap) n (cv (us.set k (x, u))) := by
  have h1 := (h.stored (k * 2) (.int .i64 x)).1
  have h2 := (h1.stored (k * 2 + 1) u).1
  rw [cv_put us k hk] at h2
  exact h2

theorem cv_take : ∀ (us : List (Int × Value)) (k : Nat), cv (us.take k) = (cv us).take (k * 2) := by
  intro us
  induction us with
  | nil => intro k; simp [cv]
  | cons x us ih =>
    intro k
    cases k with
    | zero => simp [cv]
    | succ k =>
      have e : cv (x :: us) = Value.int .i64 x.1 :: x.2 :: cv us := rfl
      have e2 : cv ((x :: us).take (k + 1)) = Value.int .i64 x.1 :: x.2 :: cv (us.take k) := rfl
      rw [e, e2, ih k, show (k + 1) * 2 = k * 2 + 1 + 1 by omega]; rfl
theorem cv_drop : ∀ (us : List (Int × Value)) (k : Nat), cv (us.drop k) = (cv us).drop (k * 2) := by
  intro us
  induction us with
  | nil => intro k; simp [cv]
  | cons x us ih =>
    intro k
    cases k with
    | zero => simp [cv]
    | succ k =>
      have e : cv (x :: us) = Value.int .i64 x.1 :: x.2 :: cv us := rfl
      rw [e, List.drop_succ_cons, ih k, show (k + 1) * 2 = k * 2 + 1 + 1 by omega]; rfl
/-- The cells of a row's changes, from one on. -/
theorem row_news {w : World} {lo g n cap : Nat} {us : List (Int × Value)} (h : w.ownsRow lo 34 2 (.slice (some ⟨g, 0, none⟩) n cap) n (cv us)) (hn : us.length = n) :
    (∀ r, ∀ j u, (cv (us.take r))[j]? = some u → w.cell? ((⟨g, 0, none⟩ : Addr).add j) = some u) ∧ (∀ r, ∀ j u, (cv (us.drop r))[j]? = some u → w.cell? ((⟨g, r * 2, none⟩ : Addr).add j) = some u) := by
  have hl : (cv us).length = n * 2 := by rw [cv_len, hn]
  refine ⟨fun r j u hj => ?_, fun r j u hj => ?_⟩
  · rw [cv_take, List.getElem?_take] at hj
    split at hj
    · have hlt := (List.getElem?_eq_some_iff.1 hj).1
      rw [addr_add, Nat.zero_add, h.cellAt j (by omega), hj]
    · cases hj
  · rw [cv_drop, List.getElem?_drop] at hj
    have hlt := (List.getElem?_eq_some_iff.1 hj).1
    rw [addr_add, h.cellAt (r * 2 + j) (by omega), hj]
theorem own_some {w : World} {base e size n g cap : Nat} {xs : List Value} (h : w.ownsRow base e size (.slice (some ⟨g, 0, none⟩) n cap) n xs) (j : Nat) (hj : j < n * size) : ∃ u, w.cell? ⟨g, j, none⟩ = some u := by
  have hl := h.1
  exact ⟨xs[j]'(by omega), by rw [h.cellAt j hj, List.getElem?_eq_getElem (by omega)]⟩

end Go.Proofs.Ytkehgoailhpenaa

/- The contract of Positions. Conditions: whole characters, texts of at most 400 bytes, valid edits at boundaries. -/
namespace Go.Proofs.Ytkehgoailhpenaa
open Go.RowKit Go.Shelf
set_option linter.unusedVariables false

theorem pos_small3 {s : ByteArray} {i l u : Nat} (h : Pos (sb s) i l u) (hs : s.size ≤ 500) : l ≤ 1000 ∧ u ≤ 1000 ∧ I64n (l : Int) ∧ I64n (u : Int) := by
  have hi := h.lt
  rw [sb_len] at hi
  have h0 := h.2.2.unis_take
  have h1 := unis_le (((sb s).drop (lf (sb s) i).2).take (i - (lf (sb s) i).2))
  rw [List.length_take, List.length_drop, sb_len] at h1
  have h2 := (lf_le (sb s) i).2
  have h3 := h.2.1
  have a : l ≤ 1000 := by omega
  have b : u ≤ 1000 := by omega
  exact ⟨a, b, ⟨by omega, by omega⟩, ⟨by omega, by omega⟩⟩
/-- An edit by offsets, of an edit that came in. -/
def edM (e : Er) : Ed := ⟨e.f.toNat, e.t.toNat, e.x⟩
theorem infoP : (Try.prog.info? 59).map (fun i => (i.zero, i.size, i.bytes)) = some (some (.agg #[.int .i64 0, .int .i64 0, .int .i64 0, .int .i64 0, .string ⟨#[]⟩]), 5, 48) := by kernel_rfl
/-- Edits by positions that become these edits. -/
theorem back_eds {S : ByteArray} {xs : List Er} {qs : Nat → PE} (hl : xs.length ≤ 64) (hpos : ∀ e ∈ xs, 0 ≤ e.f ∧ 0 ≤ e.t) (h : ∀ j, j < xs.length → EdS (sb S) (qs j) (edM (eg xs j)) 0) : pE S ((List.range xs.length).map qs) = 0 ∧ pL S ((List.range xs.length).map qs) = xs := by
  have hg : ∀ j, j < xs.length → pG ((List.range xs.length).map qs) j = qs j := fun j hj => by simp [pG, hj]
  have hE : pE S ((List.range xs.length).map qs) = 0 := by
    unfold pE
    rw [if_neg (by simp; omega)]
    refine pE0_zero (fun j hj => ?_)
    have hj' : j < xs.length := by simpa using hj
    rw [hg j hj', edD_eq (h j hj')]
  refine ⟨hE, ?_⟩
  unfold pL
  rw [if_pos hE]
  refine List.ext_getElem (by simp) (fun j h1 h2 => ?_)
  have hj : j < xs.length := h2
  simp only [List.map_map, List.getElem_map, List.getElem_range, Function.comp]
  rw [edD_eq (h j hj)]
  have he : eg xs j = xs[j] := by simp [eg, List.getElem?_eq_getElem hj]
  have hp := hpos _ (eg_mem hj)
  rw [← he]
  generalize eg xs j = e at hp ⊢
  obtain ⟨f, t, x⟩ := e
  simp only at hp
  simp only [edM, Ed.er]
  congr 1 <;> omega

set_option maxRecDepth 100000 in
set_option maxHeartbeats 8000000 in
theorem positions_any (S : ByteArray) (ax : Option Addr) (cx : Nat) (xs : List Er) (w2 : World) (hSl : S.size ≤ 400) (HW : Hid (Whl (sb S))) (hx1 : xs.length ≤ 5) (hx2 : vErr (S.size : Int) xs = 0) (hx3 : ∀ x ∈ xs, x.x.size ≤ S.size + 7 ∧ Bd (sb S) x.f.toNat ∧ Bd (sb S) x.t.toNat) (hX : ES w2.heap.size w2 ax cx xs) :
    Calls Try.prog 29 #[.string S, .slice ax xs.length cx] w2 fun e w' => ∃ a c, ∃ ps : List PE, e = .returned (.tuple #[.slice a ps.length c, .bool true]) ∧ PS w'.heap.size w' a c ps ∧ ps.length = xs.length ∧ (∀ p ∈ ps, p.fit ∧ p.t.size ≤ 100000) ∧ pE S ps = 0 ∧ pL S ps = xs ∧ Below w2.heap.size w2 w' := by
  obtain ⟨i5, hi5, jy0, jy1, jy2⟩ := info_parts infoP
  have hok := vErr_ok hx2
  have hfx := fit_of hx2 (by omega) (fun e he => by have := (hx3 e he).1; omega)
  have hcx := hX.le
  obtain ⟨n, hn⟩ : ∃ n, xs.length = n := ⟨_, rfl⟩
  obtain ⟨bb, off, hab, hcell⟩ := hX.cells.core
  obtain ⟨lo, hlo⟩ : ∃ lo, w2.heap.size = lo := ⟨_, rfl⟩
  rw [hn] at hab hcell hcx hx1 ⊢
  rw [hlo] at hab
  have HPOS : Hid (∀ k, k < n → ∃ x y U V : Nat, (eg xs k).f = (x : Int) ∧ (eg xs k).t = (y : Int) ∧ Bord (sb S) x U ∧ Bord (sb S) y V ∧ x ≤ y ∧ y ≤ S.size) := fun k hk => by
    have hm := eg_mem (es := xs) (k := k) (by omega)
    have h1 := hok.2.2 _ hm
    obtain ⟨_, h2, h3⟩ := hx3 _ hm
    obtain ⟨U, hU⟩ := bord_of_bd HW.out (by rw [sb_len]; omega) h2
    obtain ⟨V, hV⟩ := bord_of_bd HW.out (by rw [sb_len]; omega) h3
    exact ⟨_, _, U, V, by omega, by omega, hU, hV, by omega, by omega⟩
  have HN := Lib.hid hn; have HX := Lib.hid hX; have HX2 := Lib.hid hx2; have HFX := Lib.hid hfx; have HAB := Lib.hid hab; have HC := Lib.hid hcell; have HLO := Lib.hid hlo; have HX3 := Lib.hid hx3
  have HO0 : Hid (w2.ownsRow lo 59 5 (.slice none 0 0) 0 (pvals (fun _ => ⟨0, 0, 0, 0, ⟨#[]⟩⟩) 0)) := World.ownsRow_nil _ _ _ _
  have HB0 : Hid (Below lo w2 w2) := Below.refl _ _
  clear hX hx2 hx3 hok hfx hab hcell hn hlo
  go_enter Try.func29, Try.ntmps29
  go_wp2_with fail
  go_loopw [6, 7] (fun v q wr => ∃ (k : Nat) (ps : Nat → PE), k ≤ n ∧ q = .int .i64 (k : Int) ∧ Hid (∀ j, j < k → (ps j).fit ∧ EdS (sb S) (ps j) (edM (eg xs j)) 0) ∧ Hid (wr.ownsRow lo 59 5 v k (pvals ps k)) ∧ Hid (Below lo w2 wr)) (fun _ q _ => n - (intOf q).toNat)
  case atStart => exact ⟨0, fun _ => ⟨0, 0, 0, 0, ⟨#[]⟩⟩, by omega, rfl, Lib.hid (fun j h => by omega), HO0, HB0.out⟩
  case round =>
    obtain ⟨k, ps, hk, rfl, HPS, HO, HR⟩ := hrel
    have hlr : lo ≤ wr.heap.size := by have := HR.out.size; have := HLO.out; omega
    by_cases hlt : k < n
    · have hkk : (k : Int) < (n : Int) := by omega
      obtain ⟨rfl, hbb⟩ := HAB.out.resolve_left (by omega)
      have hcw : Hid (∀ W, Below lo w2 W → W.cell? ⟨bb, off + k * 3, none⟩ = some (.int .i64 (eg xs k).f) ∧ W.cell? ⟨bb, off + k * 3 + 1, none⟩ = some (.int .i64 (eg xs k).t) ∧ W.cell? ⟨bb, off + k * 3 + 2, none⟩ = some (.string (eg xs k).x)) := fun W hW => HC.out k hlt W (hW.block bb hbb)
      obtain ⟨x, y, U, V, hx, hy, hU, hV, hxy, hys⟩ := HPOS.out k hlt
      obtain ⟨z, hz⟩ : ∃ z, (eg xs k).x = z := ⟨_, rfl⟩
      rw [hx, hy, hz] at hcw
      have hed : edM (eg xs k) = ⟨x, y, z⟩ := by unfold edM; rw [hx, hy, hz]; simp
      obtain ⟨c0, _, _⟩ := hcw.out wr HR.out
      have HBX := Lib.hid hU; have HBY := Lib.hid hV; have HED := Lib.hid hed; have HZ := Lib.hid hz
      clear hU hV hx hy hz hed
      go_wp2_with fail
      refine (rat_any S (x : Int) _ (by omega)).mono ?_
      rintro e w3 ⟨l1, u1, er, rfl, hsp, b3⟩
      obtain ⟨rfl, hpx⟩ := at_border hsp HBX.out
      obtain ⟨y1, y2, y3, y4⟩ := pos_small3 hpx (by omega)
      have HPX := Lib.hid hpx
      have hB3 : Below lo w2 w3 := HR.out.trans (b3.mono hlr)
      have z3 : lo ≤ w3.heap.size := by have := b3.size; omega
      obtain ⟨p1, hp1⟩ : ∃ p, w3.heap.size = p := ⟨_, rfl⟩
      obtain ⟨W3, hW3⟩ : ∃ W, w3.alloc (.cells #[.int .i64 (l1 : Int), .int .i64 (u1 : Int)] 57) = W := ⟨_, rfl⟩
      have k3 : Blk W3 p1 57 #[.int .i64 (l1 : Int), .int .i64 (u1 : Int)] := by rw [← hW3, ← hp1]; exact Blk.new _ _ _
      have hB3a : Below lo w2 W3 := by rw [← hW3]; exact hB3.alloc z3 _
      have s3 : W3.heap.size = p1 + 1 := by rw [← hW3, ← hp1]; simp
      obtain ⟨_, c1, _⟩ := hcw.out W3 hB3a
      have hp1w : wr.heap.size ≤ p1 := by have := b3.size; omega
      have hO3 : Below wr.heap.size wr W3 := by rw [← hW3]; exact b3.alloc b3.size _
      have HW3 := Lib.hid hW3; have HK3 := Lib.hid k3; have HB3 := Lib.hid hB3a; have HP1 := Lib.hid hp1; have HO3 := Lib.hid hO3
      clear hsp hpx b3 c0 hW3 k3 hB3 hB3a hO3
      rw [← HW3.out] at c1
      go_wp2_with fail
      rw [show w3.alloc (.cells #[.int .i64 (l1 : Int), .int .i64 (u1 : Int)] 57) = W3 from HW3.out]
      refine (rat_any S (y : Int) _ (by omega)).mono ?_
      rintro e w4 ⟨l2, u2, er, rfl, hsp, b4⟩
      obtain ⟨rfl, hpy⟩ := at_border hsp HBY.out
      obtain ⟨y5, y6, y7, y8⟩ := pos_small3 hpy (by omega)
      have z4 : lo ≤ w4.heap.size := by have := b4.size; omega
      obtain ⟨p2, hp2⟩ : ∃ p, w4.heap.size = p := ⟨_, rfl⟩
      obtain ⟨W4, hW4⟩ : ∃ W, w4.alloc (.cells #[.int .i64 (l2 : Int), .int .i64 (u2 : Int)] 57) = W := ⟨_, rfl⟩
      have hp2p : p1 < p2 := by have := b4.size; omega
      have b34 : Below W3.heap.size W3 W4 := by rw [← hW4]; exact b4.alloc b4.size _
      have k4 : Blk W4 p2 57 #[.int .i64 (l2 : Int), .int .i64 (u2 : Int)] := by rw [← hW4, ← hp2]; exact Blk.new _ _ _
      have k34 : Blk W4 p1 57 #[.int .i64 (l1 : Int), .int .i64 (u1 : Int)] := HK3.out.same (b34.block p1 (by omega))
      have hB4 : Below lo w2 W4 := HB3.out.trans (b34.mono (by omega))
      have hO4 : Below wr.heap.size wr W4 := HO3.out.trans (b34.mono HO3.out.size)
      have hown4 : W4.ownsRow lo 59 5 u6 k (pvals ps k) := own_same HO.out (fun g hg => hO4.block g (HO.out.lt g hg).2)
      have z4a : lo ≤ W4.heap.size := by have := b34.size; omega
      have hed : EdS (sb S) ⟨l1, u1, l2, u2, z⟩ (edM (eg xs k)) 0 := by rw [HED.out]; exact ed_there z HPX.out hpy hxy
      obtain ⟨qs, hqs⟩ : ∃ qs : Nat → PE, (fun j => if j = k then (⟨l1, u1, l2, u2, z⟩ : PE) else ps j) = qs := ⟨_, rfl⟩
      have hqk : qs k = ⟨l1, u1, l2, u2, z⟩ := by rw [← hqs]; simp
      have hqj : ∀ j, j < k → qs j = ps j := fun j hj => by rw [← hqs]; simp; omega
      have HQ : Hid (∀ j, j < k + 1 → (qs j).fit ∧ EdS (sb S) (qs j) (edM (eg xs j)) 0) := fun j hj => by
        by_cases e : j = k
        · subst e; rw [hqk]; exact ⟨⟨y3, y4, y7, y8⟩, hed⟩
        · rw [hqj j (by omega)]; exact HPS.out j (by omega)
      have HPV : Hid (pvals qs (k + 1) = pvals ps k ++ [.int .i64 (l1 : Int), .int .i64 (u1 : Int), .int .i64 (l2 : Int), .int .i64 (u2 : Int), .string z]) := Lib.hid (by rw [pvals_succ, hqk, pvals_congr k hqj]; rfl)
      have hw24 : W4.heap[bb]? = w2.heap[bb]? := hB4.block bb hbb
      have HS0 : Hid (∀ W : World, W.heap[p1]? = W4.heap[p1]? → W.heap[p2]? = W4.heap[p2]? → W.heap[bb]? = W4.heap[bb]? → W.cell? ⟨p1, 0, none⟩ = some (.int .i64 (l1 : Int)) ∧ W.cell? ⟨p1, 1, none⟩ = some (.int .i64 (u1 : Int)) ∧ W.cell? ⟨p2, 0, none⟩ = some (.int .i64 (l2 : Int)) ∧ W.cell? ⟨p2, 1, none⟩ = some (.int .i64 (u2 : Int)) ∧ W.cell? ⟨bb, off + k * 3 + 2, none⟩ = some (.string z)) := fun W e1 e2 e3 => by
        have a1 := k34.same e1
        have a2 := k4.same e2
        have a3 := (HC.out k hlt W (e3.trans hw24)).2.2
        rw [HZ.out] at a3
        exact ⟨by simpa using a1.cell 0, by simpa using a1.cell 1, by simpa using a2.cell 0, by simpa using a2.cell 1, a3⟩
      have hbl : p1 < W4.heap.size ∧ p2 < W4.heap.size ∧ bb < W4.heap.size := ⟨k34.lt, k4.lt, by omega⟩
      have hob : ∀ g, u6.ownBlock = some g → g ≠ p1 ∧ g ≠ p2 ∧ g ≠ bb := fun g hg => by
        have h1 := HO.out.lt g hg
        have h2 := HO3.out.size
        omega
      have HS : Hid (∀ W, Below W4.heap.size W4 W → W.cell? ⟨p1, 0, none⟩ = some (.int .i64 (l1 : Int)) ∧ W.cell? ⟨p1, 1, none⟩ = some (.int .i64 (u1 : Int)) ∧ W.cell? ⟨p2, 0, none⟩ = some (.int .i64 (l2 : Int)) ∧ W.cell? ⟨p2, 1, none⟩ = some (.int .i64 (u2 : Int)) ∧ W.cell? ⟨bb, off + k * 3 + 2, none⟩ = some (.string z)) := fun W hW =>
        HS0.out W (hW.block p1 hbl.1) (hW.block p2 hbl.2.1) (hW.block bb hbl.2.2)
      have HG : Hid (∀ w6, ((W4.alloc (.cells #[.int .i64 (l1 : Int), .int .i64 (u1 : Int), .int .i64 (l2 : Int), .int .i64 (u2 : Int), .string z] 59)).drew).grownBy w6 u6.ownBlock → W4.heap.size ≤ w6.heap.size ∧ w6.heap[p1]? = W4.heap[p1]? ∧ w6.heap[p2]? = W4.heap[p2]? ∧ w6.heap[bb]? = W4.heap[bb]?) := fun w6 hg => by
        have hb := ((Below.refl W4.heap.size W4).alloc (Nat.le_refl _) (.cells #[.int .i64 (l1 : Int), .int .i64 (u1 : Int), .int .i64 (l2 : Int), .int .i64 (u2 : Int), .string z] 59)).drew
        have hz := hb.size
        have hz6 := hg.size
        refine ⟨by omega, ?_, ?_, ?_⟩
        · exact (hg.block p1 (by omega) (fun e => (hob p1 e.symm).1 rfl)).trans (hb.block p1 hbl.1)
        · exact (hg.block p2 (by omega) (fun e => (hob p2 e.symm).2.1 rfl)).trans (hb.block p2 hbl.2.1)
        · exact (hg.block bb (by omega) (fun e => (hob bb e.symm).2.2 rfl)).trans (hb.block bb hbl.2.2)
      have HW4 := Lib.hid hW4; have HB4 := Lib.hid hB4; have HP2 := Lib.hid hp2; have HOW := Lib.hid hown4
      have c3 := HS.out W4.drew (Below.refl _ _).drew
      have c4 := HS.out ((W4.alloc (.cells #[.int .i64 (l1 : Int), .int .i64 (u1 : Int), .int .i64 (l2 : Int), .int .i64 (u2 : Int), .string z] 59)).drew) ((Below.refl _ W4).alloc (Nat.le_refl _) _).drew
      clear hsp hpy b4 c1 b34 k4 k34 hB4 hO4 hown4 hed hqs hqk hqj hW4
      go_wp2_with fail
      try rw [HP2.out]
      rw [show w4.alloc (.cells #[.int .i64 (l2 : Int), .int .i64 (u2 : Int)] 57) = W4 from HW4.out]
      go_region_held3 (fun w' => w'.cell? ⟨p1, 0, none⟩ = some (.int .i64 (l1 : Int)) ∧ w'.cell? ⟨p1, 1, none⟩ = some (.int .i64 (u1 : Int)) ∧ w'.cell? ⟨p2, 0, none⟩ = some (.int .i64 (l2 : Int)) ∧ w'.cell? ⟨p2, 1, none⟩ = some (.int .i64 (u2 : Int)) ∧ w'.cell? ⟨bb, off + k * 3 + 2, none⟩ = some (.string z)) (first | exact c3 | exact c4 | exact c6)
        (first | (rw [if_pos (by rfl)]; refine wp_append_at _ _ 32 rfl lo 59 i5 (.agg #[.int .i64 0, .int .i64 0, .int .i64 0, .int .i64 0, .string ⟨#[]⟩]) 5 48 Try.underlying32 hi5 jy0 jy1 jy2 rfl (by decide) u6 k (pvals ps k) rfl (HOW.out.alloc _).drew ⟨_, 0, none⟩ 1 1 [.int .i64 (l1 : Int), .int .i64 (u1 : Int), .int .i64 (l2 : Int), .int .i64 (u2 : Int), .string z] rfl rfl (cells_news W4 [.int .i64 (l1 : Int), .int .i64 (u1 : Int), .int .i64 (l2 : Int), .int .i64 (u2 : Int), .string z] _) (fun x hx => by simp at hx; rcases hx with rfl | rfl | rfl | rfl | rfl <;> rfl) (by unfold maxLen; omega) (by omega) (by simp; omega) ?_; intro v' w6 hown6 hgrow6 _; obtain ⟨_, e1, e2, e3⟩ := HG.out w6 hgrow6; have c6 := HS0.out w6 e1 e2 e3))
      have HO6 : Hid (w6.ownsRow lo 59 5 v' (k + 1) (pvals qs (k + 1))) := by rw [HPV.out]; exact hown6
      have H6 : Hid (Below lo w2 w6) := HB4.out.trans ((((Below.refl W4.heap.size W4).alloc (Nat.le_refl _) (.cells #[.int .i64 (l1 : Int), .int .i64 (u1 : Int), .int .i64 (l2 : Int), .int .i64 (u2 : Int), .string z] 59)).drew.mono z4a).grown hgrow6 (by simp; omega) (fun g hg => (HO.out.lt g hg).1))
      clear hown6 hgrow6 c3 c4 c6 e1 e2 e3
      go_wp2
      go_roundw
      case rel => exact ⟨k + 1, qs, by omega, by go_num, HQ, HO6, H6⟩
      case measure => simp [intOf]; omega
    · obtain rfl : n = k := by omega
      obtain ⟨Ap, cp, rfl, hcp1, hcp2, hPC, _⟩ := pcells_of_own HO.out
      obtain ⟨L, hL⟩ : ∃ L, (List.range n).map ps = L := ⟨_, rfl⟩
      have hLl : L.length = n := by rw [← hL]; simp
      have hLg : ∀ j, j < n → pG L j = ps j := fun j hj => by rw [← hL]; simp [pG, hj]
      have hback := back_eds (S := S) (xs := xs) (qs := ps) (by rw [HN.out]; omega) (fun e he => by have := (vErr_ok HX2.out).2.2 e he; omega) (fun j hj => (HPS.out j (by rw [HN.out] at hj; exact hj)).2)
      rw [HN.out, hL] at hback
      have hPS : PS wr.heap.size wr Ap cp L := by
        refine ⟨by omega, hcp2, ?_⟩
        rw [hLl]
        rcases hPC with h0 | ⟨b, o, h1, h2, h3⟩
        · exact .inl h0
        · exact .inr ⟨b, o, h1, h2, fun k hk i hi => by rw [h3 k hk i hi, hLg k hk]⟩
      have hfit : ∀ p ∈ L, p.fit ∧ p.t.size ≤ 100000 := by
        intro p hp
        rw [← hL] at hp
        obtain ⟨j, hj, rfl⟩ := List.mem_map.1 hp
        have hj' : j < n := List.mem_range.1 hj
        have h1 := HPS.out j hj'
        refine ⟨h1.1, ?_⟩
        have hm := eg_mem (es := xs) (k := j) (by rw [HN.out]; exact hj')
        have h2 := (HX3.out _ hm).1
        obtain ⟨o1, e1, o2, e2, _, _, h9⟩ := h1.2
        have hz : ∀ (d : Ed), d = edM (eg xs j) → d.t = (eg xs j).x := fun d hd => by rw [hd]; rfl
        rcases h9 with ⟨q1, q2, _⟩ | ⟨_, q1, q2, _⟩ | ⟨_, _, _, q2, _⟩ | ⟨_, _, _, _, q2⟩
        · exact absurd q2.symm q1
        · exact absurd q2.symm q1
        · omega
        · have := hz _ q2.symm
          simp only at this
          rw [this]; omega
      have hB : Below w2.heap.size w2 wr := by rw [HLO.out]; exact HR.out
      have HF : Hid (PS wr.heap.size wr Ap cp L ∧ L.length = n ∧ (∀ p ∈ L, p.fit ∧ p.t.size ≤ 100000) ∧ pE S L = 0 ∧ pL S L = xs ∧ Below w2.heap.size w2 wr) := ⟨hPS, hLl, hfit, hback.1, hback.2, hB⟩
      clear hLl hLg hback hPS hfit hB hPC hL
      go_wp2
      go_ret2
      obtain ⟨f1, f2, f3, f4, f5, f6⟩ := HF.out
      exact ⟨Ap, cp, L, by rw [f2]; rfl, f1, f2, f3, f4, f5, f6⟩

end Go.Proofs.Ytkehgoailhpenaa

/- The contract of Positions, for any text: either it finds a position for each offset, or it says that there is none. Conditions: texts of at most 5000 bytes, valid edits. -/
namespace Go.Proofs.Ytkehgoailhpenaa
open Go.RowKit Go.Shelf
set_option linter.unusedVariables false

theorem at_small {s : ByteArray} {off : Int} {l u : Nat} {er : Int} (h : AtSpec (sb s) off l u er) (hs : s.size ≤ 5000) : l ≤ 10000 ∧ u ≤ 10000 ∧ I64n (l : Int) ∧ I64n (u : Int) := by
  rcases h with ⟨_, rfl, rfl, _⟩ | ⟨_, rfl, rfl, _⟩ | ⟨_, i, _, h⟩
  · exact ⟨by omega, by omega, ⟨by omega, by omega⟩, ⟨by omega, by omega⟩⟩
  · exact ⟨by omega, by omega, ⟨by omega, by omega⟩, ⟨by omega, by omega⟩⟩
  · have hi := h.lt
    rw [sb_len] at hi
    have h0 := h.2.2.unis_take
    have h1 := unis_le (((sb s).drop (lf (sb s) i).2).take (i - (lf (sb s) i).2))
    rw [List.length_take, List.length_drop, sb_len] at h1
    have h2 := (lf_le (sb s) i).2
    have h3 := h.2.1
    have a : l ≤ 10000 := by omega
    have b : u ≤ 10000 := by omega
    exact ⟨a, b, ⟨by omega, by omega⟩, ⟨by omega, by omega⟩⟩
theorem at_ok {s : ByteArray} {x l u : Nat} (h : AtSpec (sb s) (x : Int) l u 0) : Pos (sb s) x l u := by
  rcases h with ⟨h, _⟩ | ⟨h, _⟩ | ⟨_, i, hi, h⟩
  · omega
  · omega
  · have : x = i := by omega
    subst this; exact h

set_option maxRecDepth 100000 in
set_option maxHeartbeats 8000000 in
theorem posg_any (S : ByteArray) (ax : Option Addr) (cx : Nat) (xs : List Er) (w2 : World) (hSl : S.size ≤ 5000) (hx1 : xs.length ≤ 64) (hx2 : vErr (S.size : Int) xs = 0) (hx3 : ∀ x ∈ xs, x.x.size ≤ 100000) (hX : ES w2.heap.size w2 ax cx xs) :
    Calls Try.prog 29 #[.string S, .slice ax xs.length cx] w2 fun e w' => (e = .returned (.tuple #[.slice none 0 0, .bool false]) ∧ Below w2.heap.size w2 w') ∨ ∃ a c, ∃ ps : List PE, e = .returned (.tuple #[.slice a ps.length c, .bool true]) ∧ PS w'.heap.size w' a c ps ∧ ps.length = xs.length ∧ (∀ p ∈ ps, p.fit ∧ p.t.size ≤ 100000) ∧ pE S ps = 0 ∧ pL S ps = xs ∧ (∀ b, blkOf a b → w2.heap.size ≤ b) ∧ Below w2.heap.size w2 w' := by
  obtain ⟨i5, hi5, jy0, jy1, jy2⟩ := info_parts infoP
  have hok := vErr_ok hx2
  have hfx := fit_of hx2 (by omega) (fun e he => by have := hx3 e he; omega)
  have hcx := hX.le
  obtain ⟨n, hn⟩ : ∃ n, xs.length = n := ⟨_, rfl⟩
  obtain ⟨bb, off, hab, hcell⟩ := hX.cells.core
  obtain ⟨lo, hlo⟩ : ∃ lo, w2.heap.size = lo := ⟨_, rfl⟩
  rw [hn] at hab hcell hcx hx1 ⊢
  rw [hlo] at hab
  have HPOS : Hid (∀ k, k < n → ∃ x y : Nat, (eg xs k).f = (x : Int) ∧ (eg xs k).t = (y : Int) ∧ x ≤ y ∧ y ≤ S.size) := fun k hk => by
    have hm := eg_mem (es := xs) (k := k) (by omega)
    have h1 := hok.2.2 _ hm
    exact ⟨_, (eg xs k).t.toNat, by have : (eg xs k).f = ((eg xs k).f.toNat : Int) := by omega
                                    exact this, by omega, by omega, by omega⟩
  have HN := Lib.hid hn; have HX := Lib.hid hX; have HX2 := Lib.hid hx2; have HFX := Lib.hid hfx; have HAB := Lib.hid hab; have HC := Lib.hid hcell; have HLO := Lib.hid hlo; have HX3 := Lib.hid hx3
  have HO0 : Hid (w2.ownsRow lo 59 5 (.slice none 0 0) 0 (pvals (fun _ => ⟨0, 0, 0, 0, ⟨#[]⟩⟩) 0)) := World.ownsRow_nil _ _ _ _
  have HB0 : Hid (Below lo w2 w2) := Below.refl _ _
  clear hX hx2 hx3 hok hfx hab hcell hn hlo
  go_enter Try.func29, Try.ntmps29
  go_wp2_with fail
  go_loopw [6, 7] (fun v q wr => ∃ (k : Nat) (ps : Nat → PE), k ≤ n ∧ q = .int .i64 (k : Int) ∧ Hid (∀ j, j < k → (ps j).fit ∧ EdS (sb S) (ps j) (edM (eg xs j)) 0) ∧ Hid (wr.ownsRow lo 59 5 v k (pvals ps k)) ∧ Hid (Below lo w2 wr)) (fun _ q _ => n - (intOf q).toNat)
  case atStart => exact ⟨0, fun _ => ⟨0, 0, 0, 0, ⟨#[]⟩⟩, by omega, rfl, Lib.hid (fun j h => by omega), HO0, HB0.out⟩
  case round =>
    obtain ⟨k, ps, hk, rfl, HPS, HO, HR⟩ := hrel
    have hlr : lo ≤ wr.heap.size := by have := HR.out.size; have := HLO.out; omega
    by_cases hlt : k < n
    · have hkk : (k : Int) < (n : Int) := by omega
      obtain ⟨rfl, hbb⟩ := HAB.out.resolve_left (by omega)
      have hcw : Hid (∀ W, Below lo w2 W → W.cell? ⟨bb, off + k * 3, none⟩ = some (.int .i64 (eg xs k).f) ∧ W.cell? ⟨bb, off + k * 3 + 1, none⟩ = some (.int .i64 (eg xs k).t) ∧ W.cell? ⟨bb, off + k * 3 + 2, none⟩ = some (.string (eg xs k).x)) := fun W hW => HC.out k hlt W (hW.block bb hbb)
      obtain ⟨x, y, hx, hy, hxy, hys⟩ := HPOS.out k hlt
      obtain ⟨z, hz⟩ : ∃ z, (eg xs k).x = z := ⟨_, rfl⟩
      rw [hx, hy, hz] at hcw
      have hed : edM (eg xs k) = ⟨x, y, z⟩ := by unfold edM; rw [hx, hy, hz]; simp
      obtain ⟨c0, _, _⟩ := hcw.out wr HR.out
      have HED := Lib.hid hed; have HZ := Lib.hid hz
      clear hx hy hz hed
      go_wp2_with fail
      refine (rat_any S (x : Int) _ (by omega)).mono ?_
      rintro e w3 ⟨l1, u1, er1, rfl, hsp, b3⟩
      obtain ⟨y1, y2, y3, y4⟩ := at_small hsp (by omega)
      have HPX := Lib.hid hsp
      have hB3 : Below lo w2 w3 := HR.out.trans (b3.mono hlr)
      have z3 : lo ≤ w3.heap.size := by have := b3.size; omega
      obtain ⟨p1, hp1⟩ : ∃ p, w3.heap.size = p := ⟨_, rfl⟩
      obtain ⟨W3, hW3⟩ : ∃ W, w3.alloc (.cells #[.int .i64 (l1 : Int), .int .i64 (u1 : Int)] 57) = W := ⟨_, rfl⟩
      have k3 : Blk W3 p1 57 #[.int .i64 (l1 : Int), .int .i64 (u1 : Int)] := by rw [← hW3, ← hp1]; exact Blk.new _ _ _
      have hB3a : Below lo w2 W3 := by rw [← hW3]; exact hB3.alloc z3 _
      have s3 : W3.heap.size = p1 + 1 := by rw [← hW3, ← hp1]; simp
      obtain ⟨_, c1, _⟩ := hcw.out W3 hB3a
      have hp1w : wr.heap.size ≤ p1 := by have := b3.size; omega
      have hO3 : Below wr.heap.size wr W3 := by rw [← hW3]; exact b3.alloc b3.size _
      have HW3 := Lib.hid hW3; have HK3 := Lib.hid k3; have HB3 := Lib.hid hB3a; have HP1 := Lib.hid hp1; have HO3 := Lib.hid hO3
      clear hsp b3 c0 hW3 k3 hB3 hB3a hO3
      rw [← HW3.out] at c1
      go_wp2_with fail
      rw [show w3.alloc (.cells #[.int .i64 (l1 : Int), .int .i64 (u1 : Int)] 57) = W3 from HW3.out]
      refine (rat_any S (y : Int) _ (by omega)).mono ?_
      rintro e w4 ⟨l2, u2, er2, rfl, hsp, b4⟩
      obtain ⟨y5, y6, y7, y8⟩ := at_small hsp (by omega)
      have HPY := Lib.hid hsp
      have z4 : lo ≤ w4.heap.size := by have := b4.size; omega
      obtain ⟨p2, hp2⟩ : ∃ p, w4.heap.size = p := ⟨_, rfl⟩
      obtain ⟨W4, hW4⟩ : ∃ W, w4.alloc (.cells #[.int .i64 (l2 : Int), .int .i64 (u2 : Int)] 57) = W := ⟨_, rfl⟩
      have hp2p : p1 < p2 := by have := b4.size; omega
      have b34 : Below W3.heap.size W3 W4 := by rw [← hW4]; exact b4.alloc b4.size _
      have k4 : Blk W4 p2 57 #[.int .i64 (l2 : Int), .int .i64 (u2 : Int)] := by rw [← hW4, ← hp2]; exact Blk.new _ _ _
      have k34 : Blk W4 p1 57 #[.int .i64 (l1 : Int), .int .i64 (u1 : Int)] := HK3.out.same (b34.block p1 (by omega))
      have hB4 : Below lo w2 W4 := HB3.out.trans (b34.mono (by omega))
      have hO4 : Below wr.heap.size wr W4 := HO3.out.trans (b34.mono HO3.out.size)
      have hown4 : W4.ownsRow lo 59 5 u6 k (pvals ps k) := own_same HO.out (fun g hg => hO4.block g (HO.out.lt g hg).2)
      have z4a : lo ≤ W4.heap.size := by have := b34.size; omega
      by_cases he : er1 = 0 ∧ er2 = 0
      · obtain ⟨rfl, rfl⟩ := he
        have hed : EdS (sb S) ⟨l1, u1, l2, u2, z⟩ (edM (eg xs k)) 0 := by rw [HED.out]; exact ed_there z (at_ok HPX.out) (at_ok HPY.out) hxy
        obtain ⟨qs, hqs⟩ : ∃ qs : Nat → PE, (fun j => if j = k then (⟨l1, u1, l2, u2, z⟩ : PE) else ps j) = qs := ⟨_, rfl⟩
        have hqk : qs k = ⟨l1, u1, l2, u2, z⟩ := by rw [← hqs]; simp
        have hqj : ∀ j, j < k → qs j = ps j := fun j hj => by rw [← hqs]; simp; omega
        have HQ : Hid (∀ j, j < k + 1 → (qs j).fit ∧ EdS (sb S) (qs j) (edM (eg xs j)) 0) := fun j hj => by
          by_cases e : j = k
          · subst e; rw [hqk]; exact ⟨⟨y3, y4, y7, y8⟩, hed⟩
          · rw [hqj j (by omega)]; exact HPS.out j (by omega)
        have HPV : Hid (pvals qs (k + 1) = pvals ps k ++ [.int .i64 (l1 : Int), .int .i64 (u1 : Int), .int .i64 (l2 : Int), .int .i64 (u2 : Int), .string z]) := Lib.hid (by rw [pvals_succ, hqk, pvals_congr k hqj]; rfl)
        have hw24 : W4.heap[bb]? = w2.heap[bb]? := hB4.block bb hbb
        have HS0 : Hid (∀ W : World, W.heap[p1]? = W4.heap[p1]? → W.heap[p2]? = W4.heap[p2]? → W.heap[bb]? = W4.heap[bb]? → W.cell? ⟨p1, 0, none⟩ = some (.int .i64 (l1 : Int)) ∧ W.cell? ⟨p1, 1, none⟩ = some (.int .i64 (u1 : Int)) ∧ W.cell? ⟨p2, 0, none⟩ = some (.int .i64 (l2 : Int)) ∧ W.cell? ⟨p2, 1, none⟩ = some (.int .i64 (u2 : Int)) ∧ W.cell? ⟨bb, off + k * 3 + 2, none⟩ = some (.string z)) := fun W e1 e2 e3 => by
          have a1 := k34.same e1
          have a2 := k4.same e2
          have a3 := (HC.out k hlt W (e3.trans hw24)).2.2
          rw [HZ.out] at a3
          exact ⟨by simpa using a1.cell 0, by simpa using a1.cell 1, by simpa using a2.cell 0, by simpa using a2.cell 1, a3⟩
        have hbl : p1 < W4.heap.size ∧ p2 < W4.heap.size ∧ bb < W4.heap.size := ⟨k34.lt, k4.lt, by omega⟩
        have hob : ∀ g, u6.ownBlock = some g → g ≠ p1 ∧ g ≠ p2 ∧ g ≠ bb := fun g hg => by
          have h1 := HO.out.lt g hg
          have h2 := HO3.out.size
          omega
        have HS : Hid (∀ W, Below W4.heap.size W4 W → W.cell? ⟨p1, 0, none⟩ = some (.int .i64 (l1 : Int)) ∧ W.cell? ⟨p1, 1, none⟩ = some (.int .i64 (u1 : Int)) ∧ W.cell? ⟨p2, 0, none⟩ = some (.int .i64 (l2 : Int)) ∧ W.cell? ⟨p2, 1, none⟩ = some (.int .i64 (u2 : Int)) ∧ W.cell? ⟨bb, off + k * 3 + 2, none⟩ = some (.string z)) := fun W hW =>
          HS0.out W (hW.block p1 hbl.1) (hW.block p2 hbl.2.1) (hW.block bb hbl.2.2)
        have HG : Hid (∀ w6, ((W4.alloc (.cells #[.int .i64 (l1 : Int), .int .i64 (u1 : Int), .int .i64 (l2 : Int), .int .i64 (u2 : Int), .string z] 59)).drew).grownBy w6 u6.ownBlock → W4.heap.size ≤ w6.heap.size ∧ w6.heap[p1]? = W4.heap[p1]? ∧ w6.heap[p2]? = W4.heap[p2]? ∧ w6.heap[bb]? = W4.heap[bb]?) := fun w6 hg => by
          have hb := ((Below.refl W4.heap.size W4).alloc (Nat.le_refl _) (.cells #[.int .i64 (l1 : Int), .int .i64 (u1 : Int), .int .i64 (l2 : Int), .int .i64 (u2 : Int), .string z] 59)).drew
          have hz := hb.size
          have hz6 := hg.size
          refine ⟨by omega, ?_, ?_, ?_⟩
          · exact (hg.block p1 (by omega) (fun e => (hob p1 e.symm).1 rfl)).trans (hb.block p1 hbl.1)
          · exact (hg.block p2 (by omega) (fun e => (hob p2 e.symm).2.1 rfl)).trans (hb.block p2 hbl.2.1)
          · exact (hg.block bb (by omega) (fun e => (hob bb e.symm).2.2 rfl)).trans (hb.block bb hbl.2.2)
        have HW4 := Lib.hid hW4; have HB4 := Lib.hid hB4; have HP2 := Lib.hid hp2; have HOW := Lib.hid hown4
        have c3 := HS.out W4.drew (Below.refl _ _).drew
        have c4 := HS.out ((W4.alloc (.cells #[.int .i64 (l1 : Int), .int .i64 (u1 : Int), .int .i64 (l2 : Int), .int .i64 (u2 : Int), .string z] 59)).drew) ((Below.refl _ W4).alloc (Nat.le_refl _) _).drew
        clear hsp b4 c1 b34 k4 k34 hB4 hO4 hown4 hed hqs hqk hqj hW4
        go_wp2_with fail
        try rw [HP2.out]
        rw [show w4.alloc (.cells #[.int .i64 (l2 : Int), .int .i64 (u2 : Int)] 57) = W4 from HW4.out]
        go_region_held3 (fun w' => w'.cell? ⟨p1, 0, none⟩ = some (.int .i64 (l1 : Int)) ∧ w'.cell? ⟨p1, 1, none⟩ = some (.int .i64 (u1 : Int)) ∧ w'.cell? ⟨p2, 0, none⟩ = some (.int .i64 (l2 : Int)) ∧ w'.cell? ⟨p2, 1, none⟩ = some (.int .i64 (u2 : Int)) ∧ w'.cell? ⟨bb, off + k * 3 + 2, none⟩ = some (.string z)) (first | exact c3 | exact c4 | exact c6)
          (first | (rw [if_pos (by rfl)]; refine wp_append_at _ _ 32 rfl lo 59 i5 (.agg #[.int .i64 0, .int .i64 0, .int .i64 0, .int .i64 0, .string ⟨#[]⟩]) 5 48 Try.underlying32 hi5 jy0 jy1 jy2 rfl (by decide) u6 k (pvals ps k) rfl (HOW.out.alloc _).drew ⟨_, 0, none⟩ 1 1 [.int .i64 (l1 : Int), .int .i64 (u1 : Int), .int .i64 (l2 : Int), .int .i64 (u2 : Int), .string z] rfl rfl (cells_news W4 [.int .i64 (l1 : Int), .int .i64 (u1 : Int), .int .i64 (l2 : Int), .int .i64 (u2 : Int), .string z] _) (fun x hx => by simp at hx; rcases hx with rfl | rfl | rfl | rfl | rfl <;> rfl) (by unfold maxLen; omega) (by omega) (by simp; omega) ?_; intro v' w6 hown6 hgrow6 _; obtain ⟨_, e1, e2, e3⟩ := HG.out w6 hgrow6; have c6 := HS0.out w6 e1 e2 e3))
        have HO6 : Hid (w6.ownsRow lo 59 5 v' (k + 1) (pvals qs (k + 1))) := by rw [HPV.out]; exact hown6
        have H6 : Hid (Below lo w2 w6) := HB4.out.trans ((((Below.refl W4.heap.size W4).alloc (Nat.le_refl _) (.cells #[.int .i64 (l1 : Int), .int .i64 (u1 : Int), .int .i64 (l2 : Int), .int .i64 (u2 : Int), .string z] 59)).drew.mono z4a).grown hgrow6 (by simp; omega) (fun g hg => (HO.out.lt g hg).1))
        clear hown6 hgrow6 c3 c4 c6 e1 e2 e3
        go_wp2
        go_roundw
        case rel => exact ⟨k + 1, qs, by omega, by go_num, HQ, HO6, H6⟩
        case measure => simp [intOf]; omega
      · have HBE := Lib.hid hB4
        have HW4 := Lib.hid hW4
        have hq : (er1 != 0) = true ∨ ((er1 != 0) = false ∧ (er2 != 0) = true) := by
          by_cases h1 : er1 = 0
          · exact .inr ⟨by simp [h1], by simp; exact fun e => he ⟨h1, e⟩⟩
          · exact .inl (by simp [h1])
        clear hsp b4 c1 b34 k4 k34 hB4 hO4 hown4 hW4 he
        rcases hq with q1 | ⟨q1, q2⟩
        all_goals
          go_wp2_with fail
          rw [show w4.alloc (.cells #[.int .i64 (l2 : Int), .int .i64 (u2 : Int)] 57) = W4 from HW4.out]
          go_ret2
          exact .inl ⟨rfl, by rw [HLO.out]; exact HBE.out⟩
    · obtain rfl : n = k := by omega
      obtain ⟨Ap, cp, rfl, hcp1, hcp2, hPC, hnew⟩ := pcells_of_own HO.out
      have hNB : ∀ b, blkOf Ap b → w2.heap.size ≤ b := by
        rintro b ⟨o, ho⟩
        rw [HLO.out]
        rcases hnew with ⟨rfl, _⟩ | ⟨g, rfl, h1, _⟩
        · cases ho
        · cases ho; exact h1
      obtain ⟨L, hL⟩ : ∃ L, (List.range n).map ps = L := ⟨_, rfl⟩
      have hLl : L.length = n := by rw [← hL]; simp
      have hLg : ∀ j, j < n → pG L j = ps j := fun j hj => by rw [← hL]; simp [pG, hj]
      have hback := back_eds (S := S) (xs := xs) (qs := ps) (by rw [HN.out]; omega) (fun e he => by have := (vErr_ok HX2.out).2.2 e he; omega) (fun j hj => (HPS.out j (by rw [HN.out] at hj; exact hj)).2)
      rw [HN.out, hL] at hback
      have hPS : PS wr.heap.size wr Ap cp L := by
        refine ⟨by omega, hcp2, ?_⟩
        rw [hLl]
        rcases hPC with h0 | ⟨b, o, h1, h2, h3⟩
        · exact .inl h0
        · exact .inr ⟨b, o, h1, h2, fun k hk i hi => by rw [h3 k hk i hi, hLg k hk]⟩
      have hfit : ∀ p ∈ L, p.fit ∧ p.t.size ≤ 100000 := by
        intro p hp
        rw [← hL] at hp
        obtain ⟨j, hj, rfl⟩ := List.mem_map.1 hp
        have hj' : j < n := List.mem_range.1 hj
        have h1 := HPS.out j hj'
        refine ⟨h1.1, ?_⟩
        have hm := eg_mem (es := xs) (k := j) (by rw [HN.out]; exact hj')
        have h2 := HX3.out _ hm
        obtain ⟨o1, e1, o2, e2, _, _, h9⟩ := h1.2
        have hz : ∀ (d : Ed), d = edM (eg xs j) → d.t = (eg xs j).x := fun d hd => by rw [hd]; rfl
        rcases h9 with ⟨q1, q2, _⟩ | ⟨_, q1, q2, _⟩ | ⟨_, _, _, q2, _⟩ | ⟨_, _, _, _, q2⟩
        · exact absurd q2.symm q1
        · exact absurd q2.symm q1
        · omega
        · have := hz _ q2.symm
          simp only at this
          rw [this]; omega
      have hB : Below w2.heap.size w2 wr := by rw [HLO.out]; exact HR.out
      have HF : Hid (PS wr.heap.size wr Ap cp L ∧ L.length = n ∧ (∀ p ∈ L, p.fit ∧ p.t.size ≤ 100000) ∧ pE S L = 0 ∧ pL S L = xs ∧ (∀ b, blkOf Ap b → w2.heap.size ≤ b) ∧ Below w2.heap.size w2 wr) := ⟨hPS, hLl, hfit, hback.1, hback.2, hNB, hB⟩
      clear hNB hnew hLl hLg hback hPS hfit hB hPC hL
      go_wp2
      go_ret2
      obtain ⟨f1, f2, f3, f4, f5, f6, f7⟩ := HF.out
      exact .inr ⟨Ap, cp, L, by rw [f2]; rfl, f1, f2, f3, f4, f5, f6, f7⟩

end Go.Proofs.Ytkehgoailhpenaa

/- The contract of Chain. Conditions: at most 16 changes are asked for. -/
namespace Go.Proofs.Ytkehgoailhpenaa
open Go.RowKit Go.Shelf Go.Maps
set_option linter.unusedVariables false

/-- Blocks from lo on, but for that of a slice. -/
def offB (lo : Nat) (v : Value) (b : Nat) : Prop := lo ≤ b ∧ v.ownBlock ≠ some b
theorem cells_two (w : World) (x y : Value) (t : TypeId) : ∀ j u, ([x, y] : List Value)[j]? = some u → (w.alloc (.cells #[x, y] t)).cell? ((⟨w.heap.size, 0, none⟩ : Addr).add j) = some u := cells_news w [x, y] t

theorem chain_keep {lo n : Nat} {w wr W : World} {o : Value} {xs : List Value} {vs : List (Int × Value)} {cs : List (List PE)} (HO : wr.ownsRow lo 34 2 o n xs) (HV : Held1 (offB lo o) wr vs cs) (HR : Below lo w wr) (hb : Below wr.heap.size wr W) (hlo : lo ≤ wr.heap.size) :
    W.ownsRow lo 34 2 o n xs ∧ Held1 (offB lo o) W vs cs ∧ Below lo w W :=
  ⟨own_same HO (fun g hg => hb.block g (HO.lt g hg).2), HV.keep hb.size (fun b _ hlt => hb.block b hlt) (fun b h _ => h), HR.trans (hb.mono hlo)⟩
theorem chain_grow {lo : Nat} {W w6 : World} {o o' : Value} {vs : List (Int × Value)} {cs : List (List PE)} {p : List PE} {u : Value} (HV : Held1 (offB lo o) W vs cs) (hu : PsG (offB lo o) W u p) (hg : W.grownBy w6 o.ownBlock) (hat : o'.ownBlock = o.ownBlock ∨ o'.ownBlock = some W.heap.size) :
    Held1 (offB lo o') w6 (vs ++ [((cs.length : Int) + 1, u)]) (cs ++ [p]) :=
  (HV.snoc hu).keep hg.size (fun b hb hlt => hg.block b hlt (fun e => hb.2 e.symm)) (fun b hb hlt => ⟨hb.1, fun e => by
    rcases hat with h | h
    · exact hb.2 (h ▸ e)
    · rw [h] at e; simp at e; omega⟩)

set_option maxRecDepth 100000 in
set_option maxHeartbeats 8000000 in
theorem chain_any (a : Option Addr) (cap : Nat) (ls : List Int) (most : Nat) (w : World) (h : Sli .i64 w a cap ls) (hi : ∀ n ∈ ls, -9223372036854775808 ≤ n ∧ n ≤ 9223372036854775807) (hm : most ≤ 16) :
    Calls Try.prog 7 #[.slice a ls.length cap, .int .i64 (most : Int)] w fun e w' => ∃ S cs vs v, e = .returned (.tuple #[.string S, v]) ∧ S.size ≤ 96 ∧ Whl (sb S) ∧ cs.length ≤ most ∧ Fits S cs ∧ w'.ownsRow w.heap.size 34 2 v cs.length (cv vs) ∧ Held1 (offB w.heap.size v) w' vs cs ∧ Below w.heap.size w w' := by
  obtain ⟨i5, hi5, jy0, jy1, jy2⟩ := info_parts infoCh
  have cP := part_any a cap ls 0 12 w h (by omega) (by omega)
  have hPA : ∀ (i : Nat) W, i < 16 → Below w.heap.size w W → Calls Try.prog 33 #[.slice a ls.length cap, .int .i64 (12 + 10 * (i : Int)), .int .i64 16] W fun e w' => W = w' ∧ ∃ a' n' c', e = .returned (.slice a' n' c') ∧ SlI W.heap.size W a' n' ∧ n' ≤ c' ∧ c' ≤ 9223372036854775807 := fun i W hi' hW => by
    have := part_any a cap ls (12 + 10 * i) 16 W (h.below hW) (by omega) (by omega)
    rw [show ((12 + 10 * i : Nat) : Int) = 12 + 10 * (i : Int) by omega] at this
    refine this.mono ?_
    rintro e w' ⟨rfl, a', c', rfl, hs⟩
    exact ⟨rfl, a', _, c', rfl, SlI.of hs (fun n hn => hi n (List.mem_of_mem_drop (List.mem_of_mem_take hn))), hs.le, hs.mx⟩
  have hi2 : ∀ n ∈ (ls.drop 0).take 12, -9223372036854775808 ≤ n ∧ n ≤ 9223372036854775807 := fun n hn => hi n (List.mem_of_mem_drop (List.mem_of_mem_take hn))
  obtain ⟨L, hL⟩ : ∃ l, (ls.drop 0).take 12 = l := ⟨_, rfl⟩
  obtain ⟨N, hN⟩ : ∃ l, ls.length = l := ⟨_, rfl⟩
  have hNm : N ≤ 9223372036854775807 := by have := h.le; have := h.mx; omega
  obtain ⟨lo, hlo⟩ : ∃ l, w.heap.size = l := ⟨_, rfl⟩
  rw [hL] at cP hi2
  rw [hN] at cP hPA ⊢
  rw [hlo] at hPA ⊢
  have C1 := Lib.hid cP; have HPA := Lib.hid hPA; have HLO := Lib.hid hlo
  have HI2 := Lib.hid hi2
  clear h hi hi2 hL hN cP hPA hlo
  go_enter Try.func7, Try.ntmps7
  go_wp2_with fail
  refine C1.out.mono ?_
  rintro e w0 ⟨rfl, a1, c1, rfl, hs⟩
  have C2 := Lib.hid (rtext_any a1 c1 L w hs HI2.out)
  clear hs
  go_wp2_with fail
  refine C2.out.mono ?_
  rintro e w1 ⟨S, rfl, hSl, hSw, b1⟩
  rw [HLO.out] at b1
  have HB := Lib.hid b1; have HW := Lib.hid hSw
  clear b1 hSw
  go_wp2_with fail
  go_loopw [7, 8, 9] (fun s o q wr => ∃ (cs : List (List PE)) (vs : List (Int × Value)) (z : ByteArray) (i : Nat), s = .string z ∧ q = .int .i64 (i : Int) ∧ i ≤ most ∧ z.size ≤ 4096 ∧ Hid (cs.length = i) ∧ Hid (Fits S cs) ∧ Hid (endT S cs = z) ∧ Hid (wr.ownsRow lo 34 2 o i (cv vs)) ∧ Hid (Held1 (offB lo o) wr vs cs) ∧ Hid (Below lo w wr)) (fun _ _ q _ => most - (intOf q).toNat)
  case atStart => exact ⟨[], [], S, 0, rfl, rfl, by omega, by omega, Lib.hid rfl, Lib.hid trivial, Lib.hid rfl, Lib.hid (World.ownsRow_nil _ _ _ _), Lib.hid ⟨rfl, fun k hk => by simp at hk⟩, HB⟩
  case round =>
    obtain ⟨cs, vs, z, i, rfl, rfl, hcl, hz, HC, HF, HE, HO, HV, HR⟩ := hrel
    have hlr : lo ≤ wr.heap.size := by have := HR.out.size; have := HLO.out; omega
    have m1 : IntKind.i64.wrap (10 * (i : Int)) = 10 * (i : Int) := by simp [IntKind.wrap, IntKind.signed, IntKind.bits]; omega
    have m2 : IntKind.i64.wrap (12 + 10 * (i : Int)) = 12 + 10 * (i : Int) := by simp [IntKind.wrap, IntKind.signed, IntKind.bits]; omega
    have m3 : IntKind.i64.wrap ((i : Int) + 1) = (i : Int) + 1 := by simp [IntKind.wrap, IntKind.signed, IntKind.bits]; omega
    have HEND : Hid (∀ W, Below wr.heap.size wr W → ∃ S' cs' vs' v', (Ending.returned (.tuple #[.string S, u8]) = .returned (.tuple #[.string S', v'])) ∧ S'.size ≤ 96 ∧ Whl (sb S') ∧ cs'.length ≤ most ∧ Fits S' cs' ∧ W.ownsRow lo 34 2 v' cs'.length (cv vs') ∧ Held1 (offB lo v') W vs' cs' ∧ Below lo w W) := fun W hW => by
      obtain ⟨k1, k2, k3⟩ := chain_keep HO.out HV.out HR.out hW hlr
      exact ⟨S, cs, vs, u8, rfl, hSl, HW.out, by rw [HC.out]; exact hcl, HF.out, by rw [HC.out]; exact k1, k2, k3⟩
    by_cases hgo : i < most ∧ 12 + 10 * i < N
    · have g1 : (i : Int) < (most : Int) := by omega
      have g2 : 12 + 10 * (i : Int) < (N : Int) := by omega
      clear hgo
      go_wp2_with fail
      refine (HPA.out i wr (by omega) HR.out).mono ?_
      rintro e w2 ⟨rfl, a2, n2, c2, rfl, hsl, h2, h3⟩
      have CE := Lib.hid (edits_any z a2 n2 c2 wr (by omega) hsl h2 h3)
      clear hsl
      go_wp2_with fail
      refine CE.out.mono ?_
      rintro e w2 ⟨xs, v2, rfl, hx1, hx2, hx3, hown2, hb2⟩
      obtain ⟨hn2, ax, cx, rfl, hX⟩ := es_of_own hown2
      have CP := Lib.hid (posg_any z ax cx xs w2 (by omega) (by omega) hx2 (fun x hx => by have := (hx3 x hx).1; omega) hX)
      have hfx := fit_of hx2 (by omega) (fun e he => by have := (hx3 e he).1; omega)
      obtain ⟨nx, hnx⟩ : ∃ n, xs.length = n := ⟨_, rfl⟩
      have HNX := Lib.hid hnx; have HX := Lib.hid hX; have HX2 := Lib.hid hx2; have HFX := Lib.hid hfx
      have B2 : Hid (Below wr.heap.size wr w2) := hb2
      rw [hnx] at hx1
      simp only [hnx] at CP
      rw [hnx]
      clear hn2 hX hx2 hx3 hfx hnx hown2 hb2 CE
      go_wp2_with fail
      refine CP.out.mono ?_
      rintro e w3 hpos
      have hb3 : Below w2.heap.size w2 w3 := by
        rcases hpos with ⟨_, h⟩ | ⟨_, _, _, _, _, _, _, _, _, _, h⟩ <;> exact h
      have CA := rapply_any z ax cx xs w3 (by omega) (by have := HNX.out; omega) HFX.out (HX.out.on hb3)
      rw [HX2.out, HNX.out] at CA
      obtain ⟨t, ht⟩ : ∃ t, apS z xs = t := ⟨_, rfl⟩
      rw [ht] at CA
      have HCA := Lib.hid CA; have HT := Lib.hid ht
      have B3 : Hid (Below wr.heap.size wr w3) := B2.out.trans (hb3.mono B2.out.size)
      clear CA ht CP
      rcases hpos with ⟨rfl, _⟩ | ⟨pa, pc, ps, rfl, hp1, hp2, hp3, hp4, hp5, hp6, _⟩
      · clear hb3
        go_wp2_with fail
        refine HCA.out.mono ?_
        rintro e w4 ⟨rfl, b4⟩
        have HQ := HEND.out w4 (B3.out.trans (b4.mono B3.out.size))
        have HQ2 := Lib.hid HQ
        clear b4 HQ
        go_wp2_with fail
        go_ret2
        exact HQ2.out
      · obtain ⟨np, hnp⟩ : ∃ n, ps.length = n := ⟨_, rfl⟩
        obtain rfl : np = nx := by rw [← hnp, hp2]
        have HP := Lib.hid (And.intro hp1 (And.intro hp3 (And.intro hp4 (And.intro hp5 hp6))))
        have HNP := Lib.hid hnp
        rw [hnp]
        clear hb3 hp1 hp2 hp3 hp4 hp5 hp6 hnp
        go_wp2_with fail
        refine HCA.out.mono ?_
        rintro e w4 ⟨rfl, b4⟩
        have B4 : Hid (Below wr.heap.size wr w4) := B3.out.trans (b4.mono B3.out.size)
        have B34 : Hid (Below w3.heap.size w3 w4) := b4
        clear b4
        by_cases hbig : 4096 < t.size
        · have hb2 : (4096 : Int) < (t.size : Int) := by omega
          have HQ2 := Lib.hid (HEND.out w4 B4.out)
          clear hbig
          go_wp2_with fail
          go_ret2
          exact HQ2.out
        · have hb2 : ¬ (4096 : Int) < (t.size : Int) := by omega
          have hz4 : lo ≤ w4.heap.size := by have := B4.out.size; omega
          obtain ⟨k1, k2, k3⟩ := chain_keep HO.out HV.out HR.out B4.out hlr
          obtain ⟨W5, hW5⟩ : ∃ W, w4.alloc (.cells #[.int .i64 ((i : Int) + 1), .slice pa np pc] 34) = W := ⟨_, rfl⟩
          have b5 : Below w4.heap.size w4 W5 := by rw [← hW5]; exact (Below.refl _ _).alloc (Nat.le_refl _) _
          have z5 : lo ≤ W5.heap.size := by have := b5.size; omega
          have HCN : Hid (∀ j y, ([.int .i64 ((i : Int) + 1), .slice pa np pc] : List Value)[j]? = some y → W5.cell? ((⟨w4.heap.size, 0, none⟩ : Addr).add j) = some y) := by rw [← hW5]; exact cells_two w4 _ _ _
          obtain ⟨j1, j2, j3⟩ := chain_keep k1 k2 k3 b5 hz4
          have hpg : PsG (offB lo u8) W5 (.slice pa np pc) ps := by
            have h1 := PsG.of (G := offB lo u8) HP.out.1 (fun _ b hb => ⟨by have := HP.out.2.2.2.2 b hb; have := B2.out.size; omega, fun e => by have := HP.out.2.2.2.2 b hb; have := B2.out.size; have := (HO.out.lt b e).2; omega⟩)
            rw [HNP.out] at h1
            have b35 : Below w3.heap.size w3 W5 := B34.out.trans (b5.mono B34.out.size)
            exact h1.keep b35.size (fun b _ hlt => b35.block b hlt) (fun _ h => h)
          have HF1 : Hid (Fit1 z ps) := by
            obtain ⟨q1, q2, q3, q4, q5⟩ := HP.out
            exact ⟨q3, by rw [q4]; exact HX2.out, by rw [q4, HT.out]; omega, by rw [HNP.out]; omega, q2⟩
          have HJ1 := Lib.hid j1; have HJ2 := Lib.hid j2; have HJ3 := Lib.hid j3; have HPG := Lib.hid hpg; have HW5 := Lib.hid hW5
          have HTT : Hid (t = apS z (pL z ps)) := by rw [HP.out.2.2.2.1]; exact HT.out.symm
          clear k1 k2 k3 b5 j1 j2 j3 hpg hW5 hbig
          go_wp2_with (at_builtin; rw [show w4.alloc (.cells #[.int .i64 ((i : Int) + 1), .slice pa np pc] 34) = W5 from HW5.out]; refine wpList_append_own_at _ rfl _ _ 23 rfl lo 34 i5 (.agg #[.int .i64 0, .slice none 0 0]) 2 32 Try.underlying23 hi5 jy0 jy1 jy2 rfl (by decide) u8 i (cv vs) rfl HJ1.out ⟨w4.heap.size, 0, none⟩ 1 1 [.int .i64 ((i : Int) + 1), .slice pa np pc] rfl rfl HCN.out (fun x hx => by simp at hx; rcases hx with rfl | rfl <;> rfl) (by unfold maxLen; omega) (by omega) z5 ?_; intro v' w6 hown6 hgrow6 _ hat6)
          have hh := chain_grow HJ2.out HPG.out hgrow6 hat6
          have hbl := HJ3.out.grown hgrow6 z5 (fun g hg => (HJ1.out.lt g hg).1)
          have HO6 : Hid (w6.ownsRow lo 34 2 v' (i + 1) (cv (vs ++ [((i : Int) + 1, .slice pa np pc)]))) := by rw [cv_app]; exact hown6
          have HV6 : Hid (Held1 (offB lo v') w6 (vs ++ [((i : Int) + 1, .slice pa np pc)]) (cs ++ [ps])) := by rw [HC.out] at hh; exact hh
          have HB6 := Lib.hid hbl
          have HF6 : Hid (Fits S (cs ++ [ps])) := HF.out.snoc (by rw [HE.out]; exact HF1.out)
          have HE6 : Hid (endT S (cs ++ [ps]) = t) := by rw [HTT.out, ← HE.out]; exact endT_snoc _ _ _
          clear hh hbl hown6 hgrow6 hat6
          go_wp2
          go_roundw
          case rel => exact ⟨cs ++ [ps], _, t, i + 1, rfl, by go_num, by omega, by omega, Lib.hid (by rw [List.length_append, HC.out]; rfl), HF6, HE6, HO6, HV6, HB6⟩
          case measure => simp [intOf]; omega
    · have HQ2 := Lib.hid (HEND.out wr (Below.refl _ _))
      have hways : ¬ ((i : Int) < (most : Int)) ∨ ((i : Int) < (most : Int) ∧ ¬ (12 + 10 * (i : Int) < (N : Int))) := by omega
      clear hgo
      rcases hways with g1 | ⟨g1, g2⟩
      all_goals
        go_wp2_with fail
        go_ret2
        exact HQ2.out

end Go.Proofs.Ytkehgoailhpenaa

/- The contract of Shuffled. Conditions: at most 16 changes. -/
namespace Go.Proofs.Ytkehgoailhpenaa
open Go.RowKit Go.Shelf Go.Maps
set_option linter.unusedVariables false

set_option maxRecDepth 100000 in
set_option maxHeartbeats 8000000 in
theorem shuffled_any (a : Option Addr) (cap : Nat) (vs : List (Int × Value)) (al : Option Addr) (nl cl : Nat) (w : World) (hV : VS w.heap.size w a cap vs) (hn : vs.length ≤ 16) (hok : VOk vs) (hL : SlI w.heap.size w al nl) (hcl : nl ≤ cl) (hcl2 : cl ≤ 9223372036854775807) :
    Calls Try.prog 10 #[.slice a vs.length cap, .slice al nl cl] w fun e w' => ∃ v ks, e = .returned v ∧ Arr vs.length ks ∧ ks.length ≤ vs.length + 3 ∧ w'.ownsRow w.heap.size 34 2 v ks.length (cv (pickL vs ks)) ∧ Below w.heap.size w w' := by
  obtain ⟨i5, hi5, jy0, jy1, jy2⟩ := info_parts infoCh
  have hvl := hV.le
  have hvm := hV.mx
  obtain ⟨n, hn'⟩ : ∃ n, vs.length = n := ⟨_, rfl⟩
  obtain ⟨lo, hlo⟩ : ∃ l, w.heap.size = l := ⟨_, rfl⟩
  have HPK : Hid (∀ (W : World) (j m : Nat), Below lo w W → j ≤ 1000 → 1 ≤ m → m ≤ 1000 → Calls Try.prog 17 #[.slice al nl cl, .int .i64 (j : Int), .int .i64 (m : Int)] W (Index m W)) := fun W j m hW h1 h2 h3 => by
    have hW' : Below w.heap.size w W := by rw [hlo]; exact hW
    exact pick_any w.heap.size al nl cl j m W (hL.below hW') hcl hcl2 h1 h2 (by omega)
  have hcells := hV.cells
  have hnil := hV.nil
  rw [hn'] at hn hvl hcells ⊢
  rw [hlo] at hcells ⊢
  by_cases h0 : n = 0
  · subst h0
    have hvs : vs = [] := List.eq_nil_of_length_eq_zero hn'
    have HFIN : Hid (∀ W v, W.ownsRow lo 34 2 v 0 [] → Below lo w W → ∃ v' ks, Ending.returned v = .returned v' ∧ Arr 0 ks ∧ ks.length ≤ 0 + 3 ∧ W.ownsRow lo 34 2 v' ks.length (cv (pickL vs ks)) ∧ Below lo w W) := fun W v h1 h2 => ⟨v, [], rfl, ⟨fun k h => by simp at h, fun k h => by omega⟩, by simp, h1, h2⟩
    have HLO := Lib.hid hlo
    clear hV hok hL hcl hcl2 hn' hcells hlo hvs HPK
    cases a with
    | none =>
      obtain rfl : cap = 0 := hnil rfl
      go_enter Try.func10, Try.ntmps10
      go_wp2_with (at_builtin; refine wpList_append_own_none rfl _ _ 23 rfl lo 34 i5 2 Try.underlying23 hi5 (.slice none 0 0) 0 [] rfl (World.ownsRow_nil _ _ _ _) rfl ?_)
      have HQ := Lib.hid (HFIN.out w (.slice none 0 0) (World.ownsRow_nil _ _ _ _) (by rw [← HLO.out]; exact Below.refl _ _))
      go_loopw [6] (fun q wr => q = .int .i64 0 ∧ wr = w) (fun _ _ => 0)
      case atStart => exact ⟨rfl, rfl⟩
      case round =>
        obtain ⟨rfl, rfl⟩ := hrel
        go_wp2_with fail
        go_loopw [5, 9] (fun o q wr2 => o = .slice none 0 0 ∧ q = .int .i64 0 ∧ wr2 = wr) (fun _ _ _ => 0)
        case atStart => exact ⟨rfl, rfl, rfl⟩
        case round =>
          obtain ⟨rfl, rfl, rfl⟩ := hrel
          go_wp2_with fail
          go_ret
          exact HQ.out
    | some ad =>
      go_enter Try.func10, Try.ntmps10
      go_wp2_with (at_builtin; refine wpList_append_own_at _ rfl _ _ 23 rfl lo 34 i5 (.agg #[.int .i64 0, .slice none 0 0]) 2 32 Try.underlying23 hi5 jy0 jy1 jy2 rfl (by decide) (.slice none 0 0) 0 [] rfl (World.ownsRow_nil _ _ _ _) ad 0 cap [] rfl rfl (fun j u h => by simp at h) (fun x hx => by simp at hx) (by unfold maxLen; omega) (by omega) (by rw [HLO.out]; exact Nat.le_refl _) ?_; intro v' w6 hown6 hgrow6 hn6 hat6; obtain rfl := hn6.2 ⟨rfl, rfl⟩)
      have hb6 : Below lo w w6 := by rw [← HLO.out]; exact (Below.refl _ _).grown hgrow6 (Nat.le_refl _) (fun g hg => by cases hg)
      have HQ := Lib.hid (HFIN.out w6 (.slice none 0 0) (World.ownsRow_nil _ _ _ _) hb6)
      clear hown6 hgrow6 hn6 hat6 hb6
      go_loopw [6] (fun q wr => q = .int .i64 0 ∧ wr = w6) (fun _ _ => 0)
      case atStart => exact ⟨rfl, rfl⟩
      case round =>
        obtain ⟨rfl, rfl⟩ := hrel
        go_wp2_with fail
        go_loopw [5, 9] (fun o q wr2 => o = .slice none 0 0 ∧ q = .int .i64 0 ∧ wr2 = wr) (fun _ _ _ => 0)
        case atStart => exact ⟨rfl, rfl, rfl⟩
        case round =>
          obtain ⟨rfl, rfl, rfl⟩ := hrel
          go_wp2_with fail
          go_ret
          exact HQ.out
  · obtain ⟨b, off, rfl, hb, hc⟩ := hcells.resolve_left h0
    have hnews : ∀ j u, (cv vs)[j]? = some u → w.cell? ((⟨b, off, none⟩ : Addr).add j) = some u := vscells_at (by rw [hn']; exact hc)
    have hlen2 : (cv vs).length = n * 2 := by rw [cv_len, hn']
    have HC : Hid (∀ W, Below lo w W → ∀ k, k < n → W.cell? ⟨b, off + k * 2, none⟩ = some (.int .i64 (cG vs k).1) ∧ W.cell? ⟨b, off + k * 2 + 1, none⟩ = some (cG vs k).2) := fun W hW k hk => by
      obtain ⟨q1, q2⟩ := hc k hk
      exact ⟨(hW.cell (p := ⟨b, off + k * 2, none⟩) hb).trans q1, (hW.cell (p := ⟨b, off + k * 2 + 1, none⟩) hb).trans q2⟩
    have HNW := Lib.hid hnews; have HL2 := Lib.hid hlen2; have HOK := Lib.hid hok; have HLO := Lib.hid hlo; have HN := Lib.hid hn'
    have hnpos : 0 < n := by omega
    clear hV hok hL hcl hcl2 hn' hcells hlo hc hnews hlen2 hnil h0
    go_enter Try.func10, Try.ntmps10
    go_wp2_with (at_builtin; refine wpList_append_own_at _ rfl _ _ 23 rfl lo 34 i5 (.agg #[.int .i64 0, .slice none 0 0]) 2 32 Try.underlying23 hi5 jy0 jy1 jy2 rfl (by decide) (.slice none 0 0) 0 [] rfl (World.ownsRow_nil _ _ _ _) ⟨b, off, none⟩ n cap (cv vs) rfl HL2.out HNW.out HOK.out.one (by unfold maxLen; omega) (by omega) (by rw [HLO.out]; exact Nat.le_refl _) ?_; intro v' w1 hown hgrow _ _)
    have hb1 : Below lo w w1 := by rw [← HLO.out]; exact (Below.refl _ _).grown hgrow (Nat.le_refl _) (fun g hg => by cases hg)
    rw [Nat.zero_add, List.nil_append] at hown
    obtain ⟨g, cp, hvv⟩ : ∃ g cp, v' = .slice (some ⟨g, 0, none⟩) n cp := by
      obtain ⟨m, hm⟩ : ∃ m, n = m + 1 := ⟨n - 1, by omega⟩
      have h1 := hown
      rw [hm] at h1
      obtain ⟨g, cp, h2⟩ := ownsRow_succ h1
      exact ⟨g, cp, by rw [h2, hm]⟩
    subst hvv
    have HO1 : Hid (w1.ownsRow lo 34 2 (.slice (some ⟨g, 0, none⟩) n cp) n (cv (pickL vs (List.range n)))) := by
      rw [← HN.out, pickL_range, HN.out]; exact hown
    have HB1 := Lib.hid hb1
    clear hown hgrow hb1
    go_loopw [6] (fun q wr => ∃ (ks : List Nat) (i : Nat), q = .int .i64 (i : Int) ∧ i ≤ n ∧ Hid (Arr n ks ∧ ks.length = n) ∧ Hid (wr.ownsRow lo 34 2 (.slice (some ⟨g, 0, none⟩) n cp) n (cv (pickL vs ks))) ∧ Hid (Below lo w wr)) (fun q _ => n - (intOf q).toNat)
    case atStart => exact ⟨List.range n, 0, rfl, by omega, Lib.hid ⟨Arr.range n, by simp⟩, HO1, HB1⟩
    case round =>
      obtain ⟨ks, i, rfl, hi, HA, HO, HR⟩ := hrel
      by_cases hlt : i < n
      · have hlt2 : (i : Int) < (n : Int) := by omega
        have m1 : IntKind.i64.wrap ((n : Int) - (i : Int)) = (n : Int) - (i : Int) := by simp [IntKind.wrap, IntKind.signed, IntKind.bits]; omega
        have HP := HPK.out wr i (n - i) HR.out (by omega) (by omega) (by omega)
        rw [show ((n - i : Nat) : Int) = (n : Int) - (i : Int) by omega] at HP
        have HP1 := Lib.hid HP
        clear HP
        go_wp2_with fail
        refine HP1.out.mono ?_
        rintro e w' ⟨r, hr, rfl, rfl⟩
        obtain ⟨k, hk⟩ : ∃ k : Nat, (i : Int) + (r : Int) = (k : Int) := ⟨i + r, by omega⟩
        have m2 : IntKind.i64.wrap (k : Int) = (k : Int) := by simp [IntKind.wrap, IntKind.signed, IntKind.bits]; omega
        have hkn : k < n := by omega
        have hkn2 : (k : Int) < (n : Int) := by omega
        have hlks : ks.length = n := HA.out.2
        obtain ⟨us, hus⟩ : ∃ us, pickL vs ks = us := ⟨_, rfl⟩
        have hul : us.length = n := by rw [← hus, pickL_len]; exact hlks
        have hown : wr.ownsRow lo 34 2 (.slice (some ⟨g, 0, none⟩) n cp) n (cv us) := by rw [← hus]; exact HO.out
        obtain ⟨x1, x2⟩ := cv_get us i (by omega)
        obtain ⟨y1, y2⟩ := cv_get us k (by omega)
        have hcl := cv_len us
        have c1 := hown.cellAt (i * 2) (by omega)
        have c2 := hown.cellAt (i * 2 + 1) (by omega)
        have c3 := hown.cellAt (k * 2) (by omega)
        have c4 := hown.cellAt (k * 2 + 1) (by omega)
        rw [x1] at c1; rw [x2] at c2; rw [y1] at c3; rw [y2] at c4
        have hok2 : VOk us := by rw [← hus]; exact pickL_ok HOK.out (by rw [HN.out]; exact HA.out.1.lt)
        obtain ⟨ai, ni, ci, ei⟩ := hok2 _ (cG_mem (vs := us) (k := i) (by omega))
        obtain ⟨ak, nk, ck, ek⟩ := hok2 _ (cG_mem (vs := us) (k := k) (by omega))
        obtain ⟨vi, hvi⟩ : ∃ x, (cG us i).1 = x := ⟨_, rfl⟩
        obtain ⟨vk, hvk⟩ : ∃ x, (cG us k).1 = x := ⟨_, rfl⟩
        rw [hvi] at c1; rw [hvk] at c3; rw [ei] at c2; rw [ek] at c4
        obtain ⟨W1, hW1⟩ : ∃ W, wr.alloc (.cells #[.int .i64 vi, .slice ai ni ci] 34) = W := ⟨_, rfl⟩
        have b1 : Below wr.heap.size wr W1 := by rw [← hW1]; exact (Below.refl _ _).alloc (Nat.le_refl _) _
        have hgl := (hown.lt g rfl).2
        have hlg := (hown.lt g rfl).1
        have hlr : lo ≤ wr.heap.size := by omega
        have kp : Blk W1 wr.heap.size 34 #[.int .i64 vi, .slice ai ni ci] := by rw [← hW1]; exact Blk.new _ _ _
        have hO1 : W1.ownsRow lo 34 2 (.slice (some ⟨g, 0, none⟩) n cp) n (cv us) := own_same hown (fun g' hg => b1.block g' (hown.lt g' hg).2)
        have d3 := hO1.cellAt (k * 2) (by omega)
        have d4 := hO1.cellAt (k * 2 + 1) (by omega)
        rw [y1, hvk] at d3; rw [y2, ek] at d4
        have f1 : W1.frozen? ⟨g, i * 2, none⟩ = false := hO1.frozenAt _
        obtain ⟨z1, e1⟩ := own_some hO1 (i * 2) (by omega)
        obtain ⟨z2, e2⟩ := own_some (hO1.stored (i * 2) (.int .i64 vk)).1 (i * 2 + 1) (by omega)
        have f2 : (W1.setCell ⟨g, i * 2, none⟩ (.int .i64 vk)).frozen? ⟨g, i * 2 + 1, none⟩ = false := ((hO1.stored (i * 2) (.int .i64 vk)).1).frozenAt _
        obtain ⟨W2, hW2⟩ : ∃ W, (W1.setCell ⟨g, i * 2, none⟩ (.int .i64 vk)).setCell ⟨g, i * 2 + 1, none⟩ (.slice ak nk ck) = W := ⟨_, rfl⟩
        have hO2 : W2.ownsRow lo 34 2 (.slice (some ⟨g, 0, none⟩) n cp) n (cv (us.set i (vk, .slice ak nk ck))) := by rw [← hW2]; exact row_put hO1 (by omega) _ _
        have b2 : Below lo wr W2 := by
          rw [← hW2]
          exact ((b1.mono hlr).setCell (p := ⟨g, i * 2, none⟩) hlg _).setCell (p := ⟨g, i * 2 + 1, none⟩) hlg _
        have kp2 : Blk W2 wr.heap.size 34 #[.int .i64 vi, .slice ai ni ci] := by
          rw [← hW2]
          exact kp.same ((Below.heap_setCell _ _ _ _ (fun e => by simp at e; omega)).trans (Below.heap_setCell _ _ _ _ (fun e => by simp at e; omega)))
        have p0 := kp2.cell 0
        have p1 := kp2.cell 1
        simp only [List.getElem?_toArray, List.getElem?_cons_zero, List.getElem?_cons_succ] at p0 p1
        have f3 : W2.frozen? ⟨g, k * 2, none⟩ = false := hO2.frozenAt _
        obtain ⟨z3, e3⟩ := own_some hO2 (k * 2) (by omega)
        obtain ⟨z4, e4⟩ := own_some (hO2.stored (k * 2) (.int .i64 vi)).1 (k * 2 + 1) (by omega)
        have f4 : (W2.setCell ⟨g, k * 2, none⟩ (.int .i64 vi)).frozen? ⟨g, k * 2 + 1, none⟩ = false := ((hO2.stored (k * 2) (.int .i64 vi)).1).frozenAt _
        obtain ⟨W3, hW3⟩ : ∃ W, (W2.setCell ⟨g, k * 2, none⟩ (.int .i64 vi)).setCell ⟨g, k * 2 + 1, none⟩ (.slice ai ni ci) = W := ⟨_, rfl⟩
        have hO3 : W3.ownsRow lo 34 2 (.slice (some ⟨g, 0, none⟩) n cp) n (cv ((us.set i (vk, .slice ak nk ck)).set k (vi, .slice ai ni ci))) := by rw [← hW3]; exact row_put hO2 (by simp; omega) _ _
        have hui : cG us i = (vi, .slice ai ni ci) := Prod.ext hvi ei
        have huk : cG us k = (vk, .slice ak nk ck) := Prod.ext hvk ek
        have hsw := pickL_swap vs (ks := ks) (i := i) (k := k) (by omega) (by omega)
        rw [hus, hui, huk] at hsw
        rw [hsw] at hO3
        have hA3 : Arr n ((ks.set i ks[k]).set k ks[i]) ∧ ((ks.set i ks[k]).set k ks[i]).length = n := ⟨HA.out.1.swap (by omega) (by omega), by simp [hlks]⟩
        obtain ⟨kz, hkz⟩ : ∃ x, (ks.set i ks[k]).set k ks[i] = x := ⟨_, rfl⟩
        rw [hkz] at hO3 hA3
        have HO3 := Lib.hid hO3; have HA3 := Lib.hid hA3
        have hb3 : Below lo wr W3 := by
          rw [← hW3]
          exact (b2.setCell (p := ⟨g, k * 2, none⟩) hlg _).setCell (p := ⟨g, k * 2 + 1, none⟩) hlg _
        have HB3 : Hid (Below lo w W3) := HR.out.trans hb3
        clear x1 x2 y1 y2 hO1 hO2 hO3 kp kp2 b1 b2 hb3 hown ei ek hvi hvk hok2 hgl hlg hlr hsw hui huk hcl
        subst hW3
        subst hW2
        subst hW1
        go_wp2
        go_roundw
        case rel => exact ⟨_, i + 1, by go_num, by omega, HA3, HO3, HB3⟩
        case measure => simp [intOf]; omega
      · have hlt2 : ¬ ((i : Int) < (n : Int)) := by omega
        clear hi hlt
        go_wp2_with fail
        go_loopw [5, 9] (fun o q wx => ∃ (ks : List Nat) (j M g' cp' : Nat), o = .slice (some ⟨g', 0, none⟩) M cp' ∧ q = .int .i64 (j : Int) ∧ j ≤ 3 ∧ Hid (M = n + j) ∧ M ≤ 19 ∧ M ≤ cp' ∧ cp' ≤ 9223372036854775807 ∧ Hid (Arr n ks ∧ ks.length = M) ∧ Hid (wx.ownsRow lo 34 2 (.slice (some ⟨g', 0, none⟩) M cp') M (cv (pickL vs ks))) ∧ Hid (Below lo w wx)) (fun _ q _ => 3 - (intOf q).toNat)
        case atStart =>
          obtain ⟨h1, h2⟩ : n ≤ cp ∧ cp ≤ 9223372036854775807 := by
            obtain ⟨_, a', c', hv, hs, _⟩ := vs_of_own HO.out
            have := hs.le; have := hs.mx
            simp only [Value.slice.injEq] at hv
            omega
          exact ⟨ks, 0, n, g, cp, rfl, rfl, by omega, Lib.hid rfl, by omega, h1, h2, HA, HO, HR⟩
        case round =>
          obtain ⟨ks, j, M, g', cp', rfl, rfl, hj, HM, hM, hMc, hcm, HA, HO, HR⟩ := hrel
          have hlr : lo ≤ wr.heap.size := by have := HR.out.size; have := HLO.out; omega
          by_cases hgo : j < n ∧ j < 3
          · have g1 : (j : Int) < (n : Int) := by omega
            have g2 : (j : Int) < 3 := by omega
            have m1 : IntKind.i64.wrap ((n : Int) + (j : Int)) = (n : Int) + (j : Int) := by simp [IntKind.wrap, IntKind.signed, IntKind.bits]; omega
            have m2 : IntKind.i64.wrap ((M : Int) + 1) = (M : Int) + 1 := by simp [IntKind.wrap, IntKind.signed, IntKind.bits]; omega
            have m3 : IntKind.i64.wrap ((n : Int) + 3) = (n : Int) + 3 := by simp [IntKind.wrap, IntKind.signed, IntKind.bits]; omega
            have m4 : IntKind.i64.wrap ((n : Int) + 3 + (j : Int)) = (n : Int) + 3 + (j : Int) := by simp [IntKind.wrap, IntKind.signed, IntKind.bits]; omega
            have m5 : IntKind.i64.wrap ((j : Int) + 1) = (j : Int) + 1 := by simp [IntKind.wrap, IntKind.signed, IntKind.bits]; omega
            have HP := HPK.out wr (n + j) (M + 1) HR.out (by omega) (by omega) (by omega)
            rw [show ((n + j : Nat) : Int) = (n : Int) + (j : Int) by omega, show ((M + 1 : Nat) : Int) = (M : Int) + 1 by omega] at HP
            have HP1 := Lib.hid HP
            have HP2 : Hid (∀ W, Below lo w W → Calls Try.prog 17 #[.slice al nl cl, .int .i64 ((n : Int) + 3 + (j : Int)), .int .i64 (n : Int)] W (Index n W)) := fun W hW => by
              have := HPK.out W (n + 3 + j) n hW (by omega) (by omega) (by omega)
              rwa [show ((n + 3 + j : Nat) : Int) = (n : Int) + 3 + (j : Int) by omega] at this
            clear HP hgo
            go_wp2_with fail
            refine HP1.out.mono ?_
            rintro e w' ⟨r, hr, rfl, rfl⟩
            have hrM : r ≤ M := by omega
            have hr1 : (r : Int) ≤ (cp' : Int) := by omega
            have hr2 : (r : Int) ≤ (M : Int) := by omega
            have hr3 : (0 : Int) ≤ (r : Int) := by omega
            have hr4 : (M : Int) ≤ (cp' : Int) := by omega
            obtain ⟨us, hus⟩ : ∃ us, pickL vs ks = us := ⟨_, rfl⟩
            have hul : us.length = M := by rw [← hus, pickL_len]; exact HA.out.2
            have hown : wr.ownsRow lo 34 2 (.slice (some ⟨g', 0, none⟩) M cp') M (cv us) := by rw [← hus]; exact HO.out
            have hok2 : VOk us := by rw [← hus]; exact pickL_ok HOK.out (by rw [HN.out]; exact HA.out.1.lt)
            have HN1 := Lib.hid (row_news hown hul).1
            have hltk : (cv (us.take r)).length = r * 2 := by rw [cv_len, List.length_take]; omega
            have hok3 : ∀ u ∈ cv (us.take r), u.oneCell' = true := VOk.one (fun x hx => hok2 x (List.mem_of_mem_take hx))
            have HLT := Lib.hid hltk; have HK3 := Lib.hid hok3; have HK2 := Lib.hid hok2; have HOW := Lib.hid hown; have HUL := Lib.hid hul; have HUS := Lib.hid hus
            clear hltk hok3 hok2 hown hul hus
            go_wp2_with (at_builtin; refine wpList_append_own_at _ rfl _ _ 23 rfl lo 34 i5 (.agg #[.int .i64 0, .slice none 0 0]) 2 32 Try.underlying23 hi5 jy0 jy1 jy2 rfl (by decide) (.slice none 0 0) 0 [] rfl (World.ownsRow_nil _ _ _ _) ⟨g', 0, none⟩ r cp' (cv (us.take r)) rfl HLT.out (HN1.out r) HK3.out (by unfold maxLen; omega) (by omega) hlr ?_; intro v3 w3 hown3 hgrow3 _ hat3)
            rw [Nat.zero_add, List.nil_append] at hown3
            have b3 : Below wr.heap.size wr w3 := (Below.refl _ _).grown hgrow3 (Nat.le_refl _) (fun g hg => by cases hg)
            have hB3 : Below lo w w3 := HR.out.trans (b3.mono hlr)
            have hg' := HOW.out.lt g' rfl
            have hv3 : ∀ q, v3.ownBlock = some q → wr.heap.size ≤ q := fun q hq => by
              rcases hat3 with h | h
              · rw [h] at hq; cases hq
              · rw [h] at hq; cases hq; exact Nat.le_refl _
            have HO3 := Lib.hid hown3; have B3 := Lib.hid b3; have HB3 := Lib.hid hB3; have HV3 := Lib.hid hv3
            have z3 : wr.heap.size ≤ w3.heap.size := b3.size
            clear hown3 hgrow3 hat3 b3 hB3 hv3
            refine (HP2.out w3 HB3.out).mono ?_
            rintro e w' ⟨x, hx, rfl, rfl⟩
            have hx2 : (x : Int) < (n : Int) := by omega
            obtain ⟨c1, c2⟩ := HC.out w3 HB3.out x hx
            obtain ⟨ax, nx, cx, ex⟩ := HOK.out _ (cG_mem (vs := vs) (k := x) (by rw [HN.out]; exact hx))
            obtain ⟨vx, hvx⟩ : ∃ y, (cG vs x).1 = y := ⟨_, rfl⟩
            rw [hvx] at c1; rw [ex] at c2
            have HX : Hid (cG vs x = (vx, .slice ax nx cx)) := Prod.ext hvx ex
            obtain ⟨W4, hW4⟩ : ∃ W, w3.alloc (.cells #[.int .i64 vx, .slice ax nx cx] 34) = W := ⟨_, rfl⟩
            have b4 : Below w3.heap.size w3 W4 := by rw [← hW4]; exact (Below.refl _ _).alloc (Nat.le_refl _) _
            have hcn : ∀ j y, ([.int .i64 vx, .slice ax nx cx] : List Value)[j]? = some y → W4.cell? ((⟨w3.heap.size, 0, none⟩ : Addr).add j) = some y := by rw [← hW4]; exact cells_two w3 _ _ _
            have ho4 : W4.ownsRow lo 34 2 v3 r (cv (us.take r)) := own_same HO3.out (fun q hq => b4.block q (HO3.out.lt q hq).2)
            have z4 : lo ≤ W4.heap.size := by have := b4.size; omega
            have HO4 := Lib.hid ho4; have HCN := Lib.hid hcn; have B4 : Hid (Below w3.heap.size w3 W4) := b4; have HW4 := Lib.hid hW4
            clear ho4 hcn b4 hW4 ex hvx
            have HKEY : Hid (∀ v5 w5, w5.ownsRow lo 34 2 v5 (r + 1) (cv (us.take r) ++ [.int .i64 vx, .slice ax nx cx]) → W4.grownBy w5 v3.ownBlock → (v5.ownBlock = v3.ownBlock ∨ v5.ownBlock = some W4.heap.size) →
                Hid (w5.ownsRow lo 34 2 v5 (r + 1) (cv (us.take r) ++ [.int .i64 vx, .slice ax nx cx])) ∧ Hid (Below lo w w5) ∧ Hid (∀ j u, (cv (us.drop r))[j]? = some u → w5.cell? ((⟨g', r * 2, none⟩ : Addr).add j) = some u) ∧ lo ≤ w5.heap.size) := fun v5 w5 h1 h2 h3 => by
              have hz := h2.size
              have hz4 := B4.out.size
              have hb4 : Below lo w W4 := HB3.out.trans (B4.out.mono (by omega))
              have hb5 : Below lo w w5 := hb4.grown h2 z4 (fun g hg => (HO4.out.lt g hg).1)
              have hgg : w5.heap[g']? = wr.heap[g']? := ((h2.block g' (by omega) (fun e => by have := HV3.out g' e.symm; omega)).trans (B4.out.block g' (by omega))).trans (B3.out.block g' hg'.2)
              have hrow : w5.ownsRow lo 34 2 (.slice (some ⟨g', 0, none⟩) M cp') M (cv us) := own_same HOW.out (fun q hq => by cases hq; exact hgg)
              exact ⟨h1, hb5, (row_news hrow HUL.out).2 r, by omega⟩
            have hld : (cv (us.drop r)).length = (M - r) * 2 := by rw [cv_len, List.length_drop, HUL.out]
            have hokd : ∀ u ∈ cv (us.drop r), u.oneCell' = true := VOk.one (fun x hx => HK2.out x (List.mem_of_mem_drop hx))
            have HLD := Lib.hid hld; have HKD := Lib.hid hokd
            have hmr : r + 1 + (M - r) = M + 1 := by omega
            have HMR := Lib.hid hmr
            clear hld hokd hmr
            have HREL : Hid (∀ v6 w6, w6.ownsRow lo 34 2 v6 (r + 1 + (M - r)) (cv (us.take r) ++ [.int .i64 vx, .slice ax nx cx] ++ cv (us.drop r)) → Below lo w w6 → ∃ (ks : List Nat) (j_1 M g' cp' : Nat), v6 = .slice (some ⟨g', 0, none⟩) M cp' ∧ Value.int .i64 ((j : Int) + 1) = .int .i64 (j_1 : Int) ∧ j_1 ≤ 3 ∧ Hid (M = n + j_1) ∧ M ≤ 19 ∧ M ≤ cp' ∧ cp' ≤ 9223372036854775807 ∧ Hid (Arr n ks ∧ ks.length = M) ∧ Hid (w6.ownsRow lo 34 2 (.slice (some ⟨g', 0, none⟩) M cp') M (cv (pickL vs ks))) ∧ Hid (Below lo w w6)) := fun v6 w6 h1 h2 => by
              have hM9 := HM.out
              have hlk := HA.out.2
              have h3 : cv (us.take r) ++ [.int .i64 vx, .slice ax nx cx] ++ cv (us.drop r) = cv (pickL vs (ks.take r ++ [x] ++ ks.drop r)) := by
                rw [← pickL_put, HUS.out, HX.out, cv_app, cv_app]; rfl
              rw [h3, HMR.out] at h1
              obtain ⟨g6, c6, rfl⟩ := ownsRow_succ h1
              obtain ⟨_, a', c', hv, hs, _⟩ := vs_of_own h1
              have q1 := hs.le; have q2 := hs.mx
              simp only [Value.slice.injEq] at hv
              have hl6 : (ks.take r ++ [x] ++ ks.drop r).length = M + 1 := by simp; omega
              rw [pickL_len] at q1
              exact ⟨_, j + 1, M + 1, g6, c6, rfl, by go_num, by omega, Lib.hid (by omega), by omega, by omega, by omega, Lib.hid ⟨HA.out.1.put hx r, hl6⟩, Lib.hid h1, Lib.hid h2⟩
            by_cases hcr : cp' = r
            · have hMr : M - r = 0 := by omega
              have HMr := Lib.hid hMr
              clear hMr
              go_wp2_with (first
                | (at_builtin; rw [show w3.alloc (.cells #[.int .i64 vx, .slice ax nx cx] 34) = W4 from HW4.out]; refine wpList_append_own_at _ rfl _ _ 23 rfl lo 34 i5 (.agg #[.int .i64 0, .slice none 0 0]) 2 32 Try.underlying23 hi5 jy0 jy1 jy2 rfl (by decide) v3 r (cv (us.take r)) rfl HO4.out ⟨w3.heap.size, 0, none⟩ 1 1 [.int .i64 vx, .slice ax nx cx] rfl rfl HCN.out (fun x hx => by simp at hx; rcases hx with rfl | rfl <;> rfl) (by unfold maxLen; omega) (by omega) z4 ?_; intro v5 w5 hown5 hgrow5 hnn5 hat5; obtain ⟨HO5, HB5, HN5, z5⟩ := HKEY.out v5 w5 hown5 hgrow5 hat5; clear hown5 hgrow5 hnn5 hat5; obtain ⟨a5, c5, rfl⟩ := own_slice HO5.out)
                | (at_builtin; refine wpList_append_own_at _ rfl _ _ 23 rfl lo 34 i5 (.agg #[.int .i64 0, .slice none 0 0]) 2 32 Try.underlying23 hi5 jy0 jy1 jy2 rfl (by decide) (.slice a5 (r + 1) c5) (r + 1) (cv (us.take r) ++ [.int .i64 vx, .slice ax nx cx]) rfl HO5.out _ (M - r) _ (cv (us.drop r)) rfl HLD.out (fun j u h => by have := (List.getElem?_eq_some_iff.1 h).1; have := HLD.out; have := HMr.out; omega) HKD.out (by unfold maxLen; omega) (by omega) z5 ?_; intro v6 w6 hown6 hgrow6 hnn6 hat6))
              have hb6 := HB5.out.grown hgrow6 z5 (fun g hg => (HO5.out.lt g hg).1)
              exact ⟨HREL.out v6 w6 hown6 hb6, by simp [intOf]; omega⟩
            · have hcr2 : ¬ (cp' : Int) = (r : Int) := by omega
              go_wp2_with (first
                | (at_builtin; rw [show w3.alloc (.cells #[.int .i64 vx, .slice ax nx cx] 34) = W4 from HW4.out]; refine wpList_append_own_at _ rfl _ _ 23 rfl lo 34 i5 (.agg #[.int .i64 0, .slice none 0 0]) 2 32 Try.underlying23 hi5 jy0 jy1 jy2 rfl (by decide) v3 r (cv (us.take r)) rfl HO4.out ⟨w3.heap.size, 0, none⟩ 1 1 [.int .i64 vx, .slice ax nx cx] rfl rfl HCN.out (fun x hx => by simp at hx; rcases hx with rfl | rfl <;> rfl) (by unfold maxLen; omega) (by omega) z4 ?_; intro v5 w5 hown5 hgrow5 hnn5 hat5; obtain ⟨HO5, HB5, HN5, z5⟩ := HKEY.out v5 w5 hown5 hgrow5 hat5; clear hown5 hgrow5 hnn5 hat5; obtain ⟨a5, c5, rfl⟩ := own_slice HO5.out)
                | (at_builtin; refine wpList_append_own_at _ rfl _ _ 23 rfl lo 34 i5 (.agg #[.int .i64 0, .slice none 0 0]) 2 32 Try.underlying23 hi5 jy0 jy1 jy2 rfl (by decide) (.slice a5 (r + 1) c5) (r + 1) (cv (us.take r) ++ [.int .i64 vx, .slice ax nx cx]) rfl HO5.out ⟨g', r * 2, none⟩ (M - r) (cp' - r) (cv (us.drop r)) rfl HLD.out HN5.out HKD.out (by unfold maxLen; omega) (by omega) z5 ?_; intro v6 w6 hown6 hgrow6 hnn6 hat6))
              have hb6 := HB5.out.grown hgrow6 z5 (fun g hg => (HO5.out.lt g hg).1)
              exact ⟨HREL.out v6 w6 hown6 hb6, by simp [intOf]; omega⟩
          · have hways : ¬ ((j : Int) < (n : Int)) ∨ ((j : Int) < (n : Int) ∧ ¬ ((j : Int) < 3)) := by omega
            have HQ : Hid (Arr n ks ∧ ks.length ≤ n + 3 ∧ wr.ownsRow lo 34 2 (.slice (some ⟨g', 0, none⟩) M cp') ks.length (cv (pickL vs ks)) ∧ Below lo w wr) := ⟨HA.out.1, by have := HM.out; rw [HA.out.2]; omega, by rw [HA.out.2]; exact HO.out, HR.out⟩
            clear hgo
            rcases hways with g1 | ⟨g1, g2⟩
            all_goals
              go_wp2_with fail
              go_ret
              exact ⟨_, rfl, ks, HQ.out⟩

end Go.Proofs.Ytkehgoailhpenaa

/- The library's contracts of slices.Sorted, maps.Keys and slices.Sort laid at this program: its own functions and types are those of the contracts. No conditions. -/
namespace Go.Proofs.Ytkehgoailhpenaa
open Go.RowKit Go.Shelf Go.Maps Go.Sort
def Hs.keysA_ren : Go.Shelf.Ren := ⟨fun | 7 => 41 | 10 => 66 | n => n, fun | 23 => 70 | 26 => 3 | 3 => 32 | 28 => 79 | 0 => 0 | 27 => 78 | 33 => 92 | 4 => 4 | n => n, fun | n => n⟩
theorem Hs.keysA : Go.Proofs.SlLaysZI.n7 Try.prog Hs.keysA_ren := {
  mixed := by kernel_rfl
  f7 := ⟨Try.f41.name, by decide, Try.func41.trans (congrArg some (by kernel_rfl))⟩
  f10 := ⟨Try.f66.name, by decide, Try.func66.trans (congrArg some (by kernel_rfl))⟩
  t0 := Try.underlying0
  a0 := Try.isAgg0
  z0 := Try.sizeOf0
  v0 := Try.zeroValue0
  t4 := Try.underlying4
  a4 := Try.isAgg4
  z4 := Try.sizeOf4
  v4 := Try.zeroValue4
  t23 := Try.underlying70
  a23 := Try.isAgg70
  z23 := Try.sizeOf70
  v23 := Try.zeroValue70
  t26 := Try.underlying3
  a26 := Try.isAgg3
  z26 := Try.sizeOf3
  v26 := Try.zeroValue3
  t27 := Try.underlying78
  a27 := Try.isAgg78
  z27 := Try.sizeOf78
  v27 := Try.zeroValue78
  t28 := Try.underlying79
  a28 := Try.isAgg79
  z28 := Try.sizeOf79
  v28 := Try.zeroValue79
  t33 := Try.underlying92
  a33 := Try.isAgg92
  z33 := Try.sizeOf92
  v33 := Try.zeroValue92 }
def Hs.sortedA_ren : Go.Shelf.Ren := ⟨fun | 6 => 40 | 8 => 64 | 9 => 65 | 11 => 84 | 13 => 86 | 12 => 85 | 23 => 107 | 24 => 108 | 14 => 98 | 15 => 99 | 16 => 100 | 17 => 101 | 18 => 102 | 19 => 103 | 20 => 104 | 21 => 105 | 22 => 106 | 25 => 114 | 26 => 115 | 27 => 116 | 28 => 117 | 29 => 118 | 30 => 119 | 31 => 121 | n => n, fun | 26 => 3 | 28 => 79 | 24 => 22 | 0 => 0 | 3 => 3 | 37 => 136 | 48 => 156 | 50 => 158 | 4 => 4 | 40 => 149 | 39 => 148 | 45 => 145 | 5 => 5 | 9 => 9 | 51 => 163 | 55 => 167 | 57 => 170 | 58 => 141 | 33 => 92 | n => n, fun | n => n⟩
theorem Hs.sortedA : Go.Proofs.SlLaysZI.n6 Try.prog Hs.sortedA_ren := {
  mixed := by kernel_rfl
  f6 := ⟨Try.f40.name, by decide, Try.func40.trans (congrArg some (by kernel_rfl))⟩
  f8 := ⟨Try.f64.name, by decide, Try.func64.trans (congrArg some (by kernel_rfl))⟩
  f11 := ⟨Try.f84.name, by decide, Try.func84.trans (congrArg some (by kernel_rfl))⟩
  t0 := Try.underlying0
  a0 := Try.isAgg0
  z0 := Try.sizeOf0
  v0 := Try.zeroValue0
  t24 := Try.underlying22
  a24 := Try.isAgg22
  z24 := Try.sizeOf22
  v24 := Try.zeroValue22
  t26 := Try.underlying3
  a26 := Try.isAgg3
  z26 := Try.sizeOf3
  v26 := Try.zeroValue3
  t28 := Try.underlying79
  a28 := Try.isAgg79
  z28 := Try.sizeOf79
  v28 := Try.zeroValue79
  i26 := by kernel_rfl }
def Hs.sortA_ren : Go.Shelf.Ren := ⟨fun | 5 => 65 | 8 => 86 | 7 => 85 | 19 => 107 | 20 => 108 | 10 => 98 | 11 => 99 | 12 => 100 | 13 => 101 | 14 => 102 | 15 => 103 | 16 => 104 | 17 => 105 | 18 => 106 | 30 => 114 | 31 => 115 | 32 => 116 | 33 => 117 | 34 => 118 | 35 => 119 | 40 => 121 | n => n, fun | 23 => 22 | 25 => 3 | 3 => 3 | 32 => 136 | 22 => 22 | 0 => 0 | 44 => 156 | 46 => 158 | 4 => 4 | 36 => 149 | 35 => 148 | 41 => 145 | 5 => 5 | 9 => 9 | 53 => 163 | 57 => 167 | 63 => 170 | 64 => 141 | n => n, fun | n => n⟩
theorem Hs.sortA : Go.Proofs.SlLaysM.n5 Try.prog Hs.sortA_ren := {
  mixed := by kernel_rfl
  f5 := ⟨Try.f65.name, by decide, Try.func65.trans (congrArg some (by kernel_rfl))⟩
  f7 := ⟨Try.f85.name, by decide, Try.func85.trans (congrArg some (by kernel_rfl))⟩
  f8 := Try.func86.trans (congrArg some (by kernel_rfl))
  f10 := ⟨Try.f98.name, by decide, Try.func98.trans (congrArg some (by kernel_rfl))⟩
  f11 := ⟨Try.f99.name, by decide, Try.func99.trans (congrArg some (by kernel_rfl))⟩
  f12 := ⟨Try.f100.name, by decide, Try.func100.trans (congrArg some (by kernel_rfl))⟩
  f13 := ⟨Try.f101.name, by decide, Try.func101.trans (congrArg some (by kernel_rfl))⟩
  f14 := ⟨Try.f102.name, by decide, Try.func102.trans (congrArg some (by kernel_rfl))⟩
  f15 := ⟨Try.f103.name, by decide, Try.func103.trans (congrArg some (by kernel_rfl))⟩
  f16 := ⟨Try.f104.name, by decide, Try.func104.trans (congrArg some (by kernel_rfl))⟩
  f17 := ⟨Try.f105.name, by decide, Try.func105.trans (congrArg some (by kernel_rfl))⟩
  f18 := ⟨Try.f106.name, by decide, Try.func106.trans (congrArg some (by kernel_rfl))⟩
  f19 := Try.func107.trans (congrArg some (by kernel_rfl))
  f20 := Try.func108.trans (congrArg some (by kernel_rfl))
  f30 := ⟨Try.f114.name, by decide, Try.func114.trans (congrArg some (by kernel_rfl))⟩
  f31 := Try.func115.trans (congrArg some (by kernel_rfl))
  f32 := Try.func116.trans (congrArg some (by kernel_rfl))
  f33 := ⟨Try.f117.name, by decide, Try.func117.trans (congrArg some (by kernel_rfl))⟩
  f34 := ⟨Try.f118.name, by decide, Try.func118.trans (congrArg some (by kernel_rfl))⟩
  f35 := ⟨Try.f119.name, by decide, Try.func119.trans (congrArg some (by kernel_rfl))⟩
  f40 := ⟨Try.f121.name, by decide, Try.func121.trans (congrArg some (by kernel_rfl))⟩
  t0 := Try.underlying0
  a0 := Try.isAgg0
  z0 := Try.sizeOf0
  v0 := Try.zeroValue0
  t3 := Try.underlying3
  a3 := Try.isAgg3
  z3 := Try.sizeOf3
  v3 := Try.zeroValue3
  t4 := Try.underlying4
  a4 := Try.isAgg4
  z4 := Try.sizeOf4
  v4 := Try.zeroValue4
  t5 := Try.underlying5
  a5 := Try.isAgg5
  z5 := Try.sizeOf5
  v5 := Try.zeroValue5
  t9 := Try.underlying9
  a9 := Try.isAgg9
  z9 := Try.sizeOf9
  v9 := Try.zeroValue9
  t22 := Try.underlying22
  a22 := Try.isAgg22
  z22 := Try.sizeOf22
  v22 := Try.zeroValue22
  t23 := Try.underlying22
  a23 := Try.isAgg22
  z23 := Try.sizeOf22
  v23 := Try.zeroValue22
  t25 := Try.underlying3
  a25 := Try.isAgg3
  z25 := Try.sizeOf3
  v25 := Try.zeroValue3
  t32 := Try.underlying136
  a32 := Try.isAgg136
  z32 := Try.sizeOf136
  v32 := Try.zeroValue136
  t35 := Try.underlying148
  a35 := Try.isAgg148
  z35 := Try.sizeOf148
  v35 := Try.zeroValue148
  t36 := Try.underlying149
  a36 := Try.isAgg149
  z36 := Try.sizeOf149
  v36 := Try.zeroValue149
  t41 := Try.underlying145
  a41 := Try.isAgg145
  z41 := Try.sizeOf145
  v41 := Try.zeroValue145
  t44 := Try.underlying156
  a44 := Try.isAgg156
  z44 := Try.sizeOf156
  v44 := Try.zeroValue156
  t46 := Try.underlying158
  a46 := Try.isAgg158
  z46 := Try.sizeOf158
  v46 := Try.zeroValue158
  t53 := Try.underlying163
  a53 := Try.isAgg163
  z53 := Try.sizeOf163
  v53 := Try.zeroValue163
  t57 := Try.underlying167
  a57 := Try.isAgg167
  z57 := Try.sizeOf167
  v57 := Try.zeroValue167
  t63 := Try.underlying170
  a63 := Try.isAgg170
  z63 := Try.sizeOf170
  v63 := Try.zeroValue170
  t64 := Try.underlying141
  a64 := Try.isAgg141
  z64 := Try.sizeOf141
  v64 := Try.zeroValue141 }
end Go.Proofs.Ytkehgoailhpenaa

/- The contract of Held. It has no conditions. -/
namespace Go.Proofs.Ytkehgoailhpenaa
open Go.RowKit Go.Shelf Go.Maps Go.Sort
set_option linter.unusedVariables false


/-- slices.Sort's two contracts at this dump, at the fence that asks nothing. -/
theorem Hs.sortsA (m : Nat) : AnyZI.SortsIn Try.prog Hs.sortedA_ren Fence.wide m :=
  ⟨fun blk off cap ss W hH hblk hsz => callsIn_wide.2 (AnyM.slices_Sort_int Hs.sortA blk off cap ss W hH hblk hsz),
   fun p cap W => callsIn_wide.2 (AnyM.slices_Sort_int_none Hs.sortA p cap W)⟩

set_option maxHeartbeats 4000000 in
theorem held_any (T G : Nat → Prop) (p : Nat) (s : DS) (w : World) (h : DocI T G w p s) :
    Calls Try.prog 13 #[.pointer (some ⟨p, 0, none⟩)] w fun e w' => ∃ (v : Value) (ss : List Int) (D : DataW Value), e = .returned v ∧ HeldOk G w D s.hs ∧ (∃ m, w.ownsMap Try.prog 3 RH m (Maps.size D) D) ∧ ss.Perm (intKeys D) ∧
      w'.ownsRow w.heap.size 3 1 v ss.length ((ss.mergeSort (fun x y => decide (x ≤ y))).map encZ) ∧ (v = .slice none 0 0 ↔ ss = []) ∧ Below w.heap.size w w' := by
  obtain ⟨g, cp, b, n', D0, _, _, _, _, c2, hown, hh, hTm, hpW⟩ := h.full
  have hl16 := h.ok.hlen
  have hsz := hh.size
  have hmax : Maps.size D0 ≤ maxLen := by unfold maxLen; omega
  have hbytes : Maps.size D0 * 8 ≤ 140737488355328 := by omega
  have HO := Lib.hid hown; have HH := Lib.hid hh
  refine (callsIn_wide (n := 6)).1 ?_
  have hbl := hown.lt
  have hseq : SeqGives Fence.wide 2 Try.prog 66 #[.pointer (some ⟨w.heap.size, 0, none⟩)] encZ (fun ss => ss.Perm (intKeys D0)) (Maps.size D0) (w.alloc (.cells #[.map (some b)] 70)) :=
    AnyZI.keys_gives (ρ := Hs.keysA_ren) { Hs.keysA with } Fence.wide _ trivial rfl (by omega) w.heap.size b (Maps.size D0) D0 _ (by simp) (by simp) (by
      obtain ⟨es, clock, hb, Ft, hs, hD⟩ := hown
      exact ⟨es, clock, (Below.heap_alloc _ _ b hbl).trans hb, Ft, hs, hD⟩)
  have cK : ∀ mb W, CallsIn Fence.wide 5 Try.prog 41 #[.map mb] W fun e w' => e = .returned (.func (.func 66) #[] #[.pointer (some ⟨W.heap.size, 0, none⟩)]) ∧ w' = W.alloc (.cells #[.map mb] 70) := fun mb W => AnyZI.keys_in Hs.keysA Fence.wide 5 trivial rfl mb W
  have cS := AnyZI.sorted_in Hs.sortedA Fence.wide 5 trivial trivial trivial trivial rfl (by omega) (Hs.sortsA _) (enters_of Try.func65 (by kernel_rfl) rfl) 66 #[.pointer (some ⟨w.heap.size, 0, none⟩)] trivial (enters_of Try.func66 (by kernel_rfl) rfl) _ _ hmax hbytes _ hseq
  change CallsIn _ _ Try.prog 40 _ _ _ at cS
  have hfK : Fence.wide.fn 41 := trivial
  have hfS : Fence.wide.fn 40 := trivial
  refine callsIn_of_wp Try.func13 rfl trivial ?_ rfl
  simp only [Try.ntmps13, List.size_toArray, List.length_cons, List.length_nil, Nat.reduceAdd, Nat.reduceSub, Array.replicate_succ, Array.replicate_zero, List.push_toArray, List.append_toArray, List.nil_append, List.cons_append]
  gi_wp2_with (first
    | (gi_at_call 41; refine (cK _ _).mono ?_; rintro e w' ⟨rfl, rfl⟩)
    | (gi_at_call 40; refine cS.mono ?_; rintro e w' ⟨v, ss, rfl, hS, hrow, hnil, hb⟩))
  go_ret
  exact ⟨v, ss, D0, rfl, HH.out, ⟨b, HO.out⟩, hS, ownsRow_base_a hrow (by simp), hnil, ((Below.refl _ w).alloc (Nat.le_refl _) _).trans (hb.mono (by simp))⟩

end Go.Proofs.Ytkehgoailhpenaa

/- What Held answers, in the words of the document's state. It has no conditions. -/
namespace Go.Proofs.Ytkehgoailhpenaa
open Go.RowKit Go.Shelf Go.Maps Go.Sort
set_option linter.unusedVariables false

/-- The versions of the held changes, ascending. -/
def heldL (s : DS) : List Int := (s.hs.map Prod.fst).mergeSort leI
theorem heldL_len (s : DS) : (heldL s).length = s.hs.length := by unfold heldL; rw [List.length_mergeSort, List.length_map]
theorem held_perm {G : Nat → Prop} {w : World} {D : DataW Value} {hs : List (Int × List PE)} {m : Nat} (hh : HeldOk G w D hs) (hm : w.ownsMap Try.prog 3 RH m (Maps.size D) D) : (hs.map Prod.fst).Perm (intKeys D) := by
  have h : CollectedI D (fun _ => false) (hs.map Prod.fst) := ⟨hh.nodup, fun x => by have := hh.keys x; unfold kI at this; rw [this]; simp⟩
  exact h.perm hm keyInt Try.underlying3 (fun _ => rfl)
theorem held_all (T G : Nat → Prop) (p : Nat) (s : DS) (w : World) (h : DocI T G w p s) :
    Calls Try.prog 13 #[.pointer (some ⟨p, 0, none⟩)] w fun e w' => ∃ (a : Option Addr) (cap : Nat), e = .returned (.slice a s.hs.length cap) ∧
      w'.ownsRow w.heap.size 3 1 (.slice a s.hs.length cap) s.hs.length ((heldL s).map encZ) ∧ Below w.heap.size w w' := by
  refine (held_any T G p s w h).mono ?_
  rintro e w' ⟨v, ss, D, rfl, hh, ⟨m, hm⟩, hp, hrow, _, hb⟩
  have h1 := held_perm hh hm
  have h2 : ss.Perm (s.hs.map Prod.fst) := hp.trans h1.symm
  have h3 : ss.mergeSort leI = heldL s := by
    refine List.Perm.eq_of_pairwise (le := fun a b => leI a b = true) ?_ ?_ ?_ ((List.mergeSort_perm ss leI).trans (h2.trans (List.mergeSort_perm (s.hs.map Prod.fst) leI).symm))
    · intro a b _ _ h1 h2
      simp only [leI, decide_eq_true_eq] at h1 h2
      omega
    · exact List.pairwise_mergeSort (fun a b c h1 h2 => by simp only [leI, decide_eq_true_eq] at *; omega) (fun a b => by simp only [leI, Bool.or_eq_true, decide_eq_true_eq]; omega) ss
    · exact List.pairwise_mergeSort (fun a b c h1 h2 => by simp only [leI, decide_eq_true_eq] at *; omega) (fun a b => by simp only [leI, Bool.or_eq_true, decide_eq_true_eq]; omega) _
  have h4 : ss.length = s.hs.length := by rw [h2.length_eq, List.length_map]
  rw [show (fun x y : Int => decide (x ≤ y)) = leI from rfl, h3, h4] at hrow
  obtain ⟨a, c, rfl⟩ := own_slice hrow
  exact ⟨a, c, rfl, hrow, hb⟩

end Go.Proofs.Ytkehgoailhpenaa

/- The walk of DocumentOrder. It has no conditions. -/
namespace Go.Proofs.Ytkehgoailhpenaa
open Go.RowKit Go.Shelf Go.Maps
set_option linter.unusedVariables false

/-- A change out of a list is received. -/
theorem rcv_change {T G G0 : Nat → Prop} {p : Nat} {s : DS} {W : World} {S : ByteArray} {cs : List (List PE)} {vs : List (Int × Value)} (hD : DocI T G W p s) (hF : Fits S cs) (hn : cs.length ≤ 16) (hV : Held1 G0 W vs cs) {k : Nat} (hk : k < cs.length) :
    ∃ ap np cp, cG vs k = ((k : Int) + 1, .slice ap np cp) ∧ Calls Try.prog 9 #[.pointer (some ⟨p, 0, none⟩), .agg #[.int .i64 ((k : Int) + 1), .slice ap np cp]] W fun e w' => e = .returned (.tuple #[.int .i64 (rcvF s ((k : Int) + 1) cs[k]).1.1, .int .i64 (rcvF s ((k : Int) + 1) cs[k]).1.2]) ∧ ∃ T' G', DocI T' G' w' p (rcvF s ((k : Int) + 1) cs[k]).2 ∧ Stp T G T' G' W w' := by
  obtain ⟨h1, h2⟩ := hV.2 k hk
  rw [List.getElem?_eq_getElem hk] at h2
  obtain ⟨ap, cp, e, hps⟩ := h2.ps
  obtain ⟨m1, m2⟩ := hF.mem hk
  exact ⟨ap, _, cp, Prod.ext h1 e, receive_any T G p s W hD ((k : Int) + 1) (by omega) (by omega) ap cp cs[k] hps (by omega) m2⟩
theorem vs_cells {B : Nat} {W : World} {a : Option Addr} {cap : Nat} {vs : List (Int × Value)} (h : VS B W a cap vs) {i : Nat} (hi : i < vs.length) {x : Int} {u : Value} (hx : cG vs i = (x, u)) : ∃ b off, a = some ⟨b, off, none⟩ ∧ W.cell? ⟨b, off + i * 2, none⟩ = some (.int .i64 x) ∧ W.cell? ⟨b, off + i * 2 + 1, none⟩ = some u := by
  obtain ⟨b, off, h1, h2, h3⟩ := h.cells.resolve_left (by omega)
  have := h3 i hi
  rw [hx] at this
  exact ⟨b, off, h1, this.1, this.2⟩

set_option maxRecDepth 100000 in
set_option maxHeartbeats 8000000 in
theorem walkDOrd (a0 : Option Addr) (cap0 : Nat) (ls : List Int) (a1 : Option Addr) (cap1 : Nat) (ns : List Int) (w : World)
    (h0 : Sli .i64 w a0 cap0 ls) (hi0 : ∀ n ∈ ls, -9223372036854775808 ≤ n ∧ n ≤ 9223372036854775807) (h1 : Sli .i64 w a1 cap1 ns) (hi1 : ∀ n ∈ ns, -9223372036854775808 ≤ n ∧ n ≤ 9223372036854775807) :
    Calls Try.prog 3 #[.slice a0 ls.length cap0, .slice a1 ns.length cap1] w fun e w' => e = .returned (.bool true) ∧ Below w.heap.size w w' := by
  have cC := chain_any a0 cap0 ls 8 w h0 hi0 (by omega)
  obtain ⟨n0, hn0⟩ : ∃ n, ls.length = n := ⟨_, rfl⟩
  obtain ⟨n1, hn1⟩ : ∃ n, ns.length = n := ⟨_, rfl⟩
  have hsl : SlI w.heap.size w a1 n1 := by have := SlI.of h1 hi1; rwa [hn1] at this
  have hc1 : n1 ≤ cap1 := by have := h1.le; omega
  have hm1 := h1.mx
  rw [hn0] at cC ⊢
  rw [hn1]
  have CC := Lib.hid cC; have HSL := Lib.hid hsl
  clear cC h0 hi0 h1 hi1 hsl hn0 hn1
  go_enter Try.func3, Try.ntmps3
  go_wp2_with fail
  refine CC.out.mono ?_
  rintro e w1 ⟨S, cs, vs, v, rfl, hSz, _, hcl, hF, hown, hV, hb1⟩
  obtain ⟨n, hn⟩ : ∃ n, cs.length = n := ⟨_, rfl⟩
  have hvn : vs.length = n := by rw [hV.1, hn]
  obtain ⟨_, ac, cc, rfl, hVS, _, _⟩ := vs_of_own hown
  rw [hvn]
  rw [hn] at hcl
  have HCH : Hid (∀ W, Below w1.heap.size w1 W → VS w1.heap.size W ac cc vs ∧ Held1 (fun b => b < w1.heap.size) W vs cs) := fun W hW =>
    ⟨hVS.keep (fun b _ hlt => hW.block b hlt), hV.keep hW.size (fun b _ hlt => hW.block b hlt) (fun b _ hlt => hlt)⟩
  have H1 := Lib.hid hb1; have HF := Lib.hid hF; have HN := Lib.hid hn; have HVN := Lib.hid hvn; have HOK := Lib.hid hV.ok
  have hE : newE S 0 = 0 := by unfold newE; rw [if_neg (by omega), if_neg (by omega)]
  have HNW : Hid (∀ W, Calls Try.prog 8 #[.string S, .int .i64 0] W fun e w' => ∃ p, e = .returned (.tuple #[.pointer (some ⟨p, 0, none⟩), .int .i64 0]) ∧ DocI (newB W w') (fun _ => False) w' p (newS S 0) ∧ Below W.heap.size W w') := fun W => (new_any S 0 W).mono (by
    rintro e w' hw
    rcases hw with ⟨h, _⟩ | ⟨_, p, h1, h2, h3⟩
    · exact absurd hE h
    · exact ⟨p, by rw [h1], h2, h3⟩)
  clear hVS hV hown hb1 hF hn hvn hE CC
  go_wp2_with fail
  refine (HNW.out w1).mono ?_
  rintro e w2 ⟨pa, rfl, hda, b2⟩
  have HDA := Lib.hid hda; have B2 := Lib.hid b2
  clear hda b2
  go_wp2_with fail
  refine (HNW.out w2).mono ?_
  rintro e w3 ⟨pb, rfl, hdb, b3⟩
  have HDA3 : Hid (DocI (newB w1 w2) (fun _ => False) w3 pa (newS S 0)) := HDA.out.below b3
  have HDB := Lib.hid hdb
  have B3 : Hid (Below w1.heap.size w1 w3) := B2.out.trans (b3.mono B2.out.size)
  have HZ23 : Hid (w1.heap.size ≤ w2.heap.size ∧ w2.heap.size ≤ w3.heap.size) := ⟨B2.out.size, b3.size⟩
  clear hdb b3 HNW
  go_wp2_with fail
  go_loopw [11] (fun q wr => ∃ (i : Nat) (s : DS) (T G : Nat → Prop), q = .int .i64 (i : Int) ∧ i ≤ n ∧ Hid (s.v = (i : Int) ∧ s.text = endT S (cs.take i) ∧ s.hs = []) ∧ Hid (DocI T G wr pa s) ∧ Hid (DocI (newB w2 w3) (fun _ => False) wr pb (newS S 0)) ∧ Hid (Below w1.heap.size w1 wr) ∧ Hid (w3.heap.size ≤ wr.heap.size ∧ ∀ b, T b ∨ G b → w1.heap.size ≤ b ∧ ¬ newB w2 w3 b)) (fun q _ => n - (intOf q).toNat)
  case atStart => exact ⟨0, newS S 0, _, _, rfl, by omega, Lib.hid ⟨rfl, rfl, rfl⟩, HDA3, HDB, B3, Lib.hid ⟨Nat.le_refl _, fun b hb => by
    rcases hb with hb | hb
    · exact ⟨hb.1, fun h => by have := hb.2; have := h.1; omega⟩
    · exact hb.elim⟩⟩
  case round =>
    obtain ⟨i, s, T, G, rfl, hi, HS, HD, HDB, HB, HTG⟩ := hrel
    by_cases hin : i < n
    · have hin2 : (i : Int) < (n : Int) := by omega
      obtain ⟨hvs, hh⟩ := HCH.out wr HB.out
      obtain ⟨ap, np, cp, hcg, CR⟩ := rcv_change HD.out HF.out (by have := HN.out; omega) hh (k := i) (by rw [HN.out]; exact hin)
      obtain ⟨s', hr, hs1, hs2, hs3⟩ := ord_next HF.out (by have := HN.out; omega) (k := i) (by rw [HN.out]; exact hin) HS.out.1 HS.out.2.1 HS.out.2.2
      rw [hr] at CR
      obtain ⟨b, off, rfl, c1, c2⟩ := vs_cells hvs (i := i) (by rw [HVN.out]; exact hin) hcg
      have HCR := Lib.hid CR
      have HS' : Hid (s'.v = ((i + 1 : Nat) : Int) ∧ s'.text = endT S (cs.take (i + 1)) ∧ s'.hs = []) := ⟨by rw [hs1]; omega, hs2, hs3⟩
      clear hvs hh hcg CR hr hs1 hs2 hs3
      have m1 : IntKind.i64.wrap ((i : Int) + 1) = (i : Int) + 1 := by simp [IntKind.wrap, IntKind.signed, IntKind.bits]; omega
      go_wp2_with fail
      refine HCR.out.mono ?_
      rintro e w5 ⟨rfl, T', G', hd, hs⟩
      have HD5 := Lib.hid hd
      have HB5 : Hid (Below w1.heap.size w1 w5) := HB.out.trans (hs.below (by have := HTG.out.1; have := HZ23.out; omega) (fun b hb => (HTG.out.2 b (.inl hb)).1))
      have HDB5 : Hid (DocI (newB w2 w3) (fun _ => False) w5 pb (newS S 0)) := HDB.out.apartFrom hs (fun b hb hT => hb.elim (fun h => (HTG.out.2 b (.inl hT)).2 h) id)
      have hz := hs.only.size
      have HTG5 : Hid (w3.heap.size ≤ w5.heap.size ∧ ∀ b, T' b ∨ G' b → w1.heap.size ≤ b ∧ ¬ newB w2 w3 b) := ⟨by have := HTG.out.1; omega, fun b hb => by
        have hz3 := HTG.out.1
        have hz23 := HZ23.out
        rcases hb with hb | hb
        · rcases hs.t b hb with h | h
          · exact HTG.out.2 b (.inl h)
          · exact ⟨by omega, fun h' => by have := h'.2; omega⟩
        · rcases hs.g b hb with h | h
          · exact HTG.out.2 b (.inr h)
          · exact ⟨by omega, fun h' => by have := h'.2; omega⟩⟩
      clear hd hs hz HCR c1 c2
      go_wp2
      go_roundw
      case rel => exact ⟨i + 1, s', T', G', by go_num, by omega, HS', HD5, HDB5, HB5, HTG5⟩
      case measure => simp [intOf]; omega
    · have hin2 : ¬ ((i : Int) < (n : Int)) := by omega
      have hin3 : i = n := by omega
      have HSA : Hid (s.v = (n : Int) ∧ s.text = endT S cs) := ⟨by rw [HS.out.1, hin3], by rw [HS.out.2.1, hin3, ← HN.out, List.take_length]⟩
      obtain ⟨hvs, hh⟩ := HCH.out wr HB.out
      have hb01 := H1.out
      have CS := shuffled_any ac cc vs a1 n1 cap1 wr (hvs.mono HB.out.size) (by rw [HVN.out]; omega) HOK.out (HSL.out.on (hb01.trans (HB.out.mono hb01.size))) hc1 hm1
      rw [HVN.out] at CS
      have HCS := Lib.hid CS
      clear hvs hh CS HS hi hin hin3
      go_wp2_with fail
      refine HCS.out.mono ?_
      rintro e w5 ⟨v9, ks, rfl, hA, hkl, hown9, hb5⟩
      obtain ⟨N9, hN9⟩ : ∃ x, ks.length = x := ⟨_, rfl⟩
      obtain ⟨hl9, a9, c9, rfl, hV9, hblk9, _⟩ := vs_of_own hown9
      have hpl : (pickL vs ks).length = N9 := by rw [pickL_len, hN9]
      rw [hpl]
      have HV9 : Hid (VS w5.heap.size w5 a9 c9 (pickL vs ks)) := hV9
      have HBK : Hid (∀ b, blkOf a9 b → wr.heap.size ≤ b) := hblk9
      have HA := Lib.hid hA; have HKL := Lib.hid hkl; have HNN := Lib.hid hN9
      have HDA5 : Hid (DocI T G w5 pa s) := HD.out.below hb5
      have HDB5 : Hid (DocI (newB w2 w3) (fun _ => False) w5 pb (newS S 0)) := HDB.out.below hb5
      have HB5 : Hid (Below w1.heap.size w1 w5) := HB.out.trans (hb5.mono HB.out.size)
      have HZ5 : Hid (w3.heap.size ≤ wr.heap.size ∧ wr.heap.size ≤ w5.heap.size ∧ ∀ b, T b ∨ G b → ¬ newB w2 w3 b ∧ b < w5.heap.size) := ⟨HTG.out.1, hb5.size, fun b hb => ⟨(HTG.out.2 b hb).2, by have := hb5.size; have := hb.elim (HD.out.lt b) (HD.out.glt b); omega⟩⟩
      have hN9b : N9 ≤ 11 := by omega
      clear hA hkl hown9 hb5 hV9 hblk9 hl9 hpl hN9 HCS HD HDB HB HTG
      go_wp2_with fail
      go_loopw [15, 16] (fun t q wx => ∃ (i : Nat) (sv : Int) (s' : DS) (T' G' : Nat → Prop), t = .int .i64 sv ∧ q = .int .i64 (i : Int) ∧ i ≤ N9 ∧ 0 ≤ sv ∧ sv ≤ 16 ∧ Hid (s'.v = sv ∧ Ord S cs s') ∧ Hid (∀ j k, j < i → ks[j]? = some k → (k : Int) + 1 ≤ s'.v ∨ (k : Int) + 1 ∈ s'.hs.map Prod.fst) ∧ Hid (DocI T' G' wx pb s') ∧ Hid (DocI T G wx pa s) ∧ Hid (VS w5.heap.size wx a9 c9 (pickL vs ks)) ∧ Hid (Below w1.heap.size w1 wx) ∧ Hid (w5.heap.size ≤ wx.heap.size ∧ ∀ b, T' b → newB w2 w3 b ∨ w5.heap.size ≤ b)) (fun _ q _ => N9 - (intOf q).toNat)
      case atStart => exact ⟨0, 0, newS S 0, _, _, rfl, rfl, by omega, by omega, by omega, Lib.hid ⟨rfl, Ord.new S cs⟩, Lib.hid (fun j k h => by omega), HDB5, HDA5, HV9, HB5, Lib.hid ⟨Nat.le_refl _, fun b h => .inl h⟩⟩
      case round =>
        obtain ⟨i, sv, s', T', G', rfl, rfl, hi, hsv0, hsv1, HS, HR, HD, HDA, HV, HB, HT⟩ := hrel
        by_cases hin : i < N9
        · have hin2 : (i : Int) < (N9 : Int) := by omega
          obtain ⟨_, hh⟩ := HCH.out wr HB.out
          have hik : i < ks.length := by rw [HNN.out]; exact hin
          have hkn : ks[i] < cs.length := by rw [HN.out]; exact HA.out.lt _ (List.getElem_mem hik)
          obtain ⟨ap, np, cp, hcg, CR⟩ := rcv_change HD.out HF.out (by have := HN.out; omega) hh hkn
          obtain ⟨n', er, s2, hr, hs1, hs2, hs3, hs4, hs5, hs6⟩ := ord_step HF.out (by have := HN.out; omega) HS.out.2 hkn
          rw [hr] at CR
          rw [← cG_pickL hik] at hcg
          obtain ⟨b, off, rfl, c1, c2⟩ := vs_cells HV.out (i := i) (by rw [pickL_len]; exact hik) hcg
          have HCR := Lib.hid CR
          have hv2 : s2.v = sv + n' := by rw [hs2, HS.out.1]
          obtain ⟨m', hm1', hm2', _⟩ := hs1.m
          have hv16 : sv + n' ≤ 16 := by have := HN.out; omega
          have HS2 : Hid (s2.v = sv + n' ∧ Ord S cs s2) := ⟨hv2, hs1⟩
          have HR2 : Hid (∀ j k, j < i + 1 → ks[j]? = some k → (k : Int) + 1 ≤ s2.v ∨ (k : Int) + 1 ∈ s2.hs.map Prod.fst) := fun j k hj hk => by
            by_cases e : j = i
            · subst e
              rw [List.getElem?_eq_getElem hik] at hk
              cases hk
              exact hs5
            · rcases HR.out j k (by omega) hk with h | h
              · exact .inl (by omega)
              · exact hs6 _ h
          have hq : ((er != 0) = false) ∨ ((er != 0) = true ∧ (er != 8) = false) := by
            rcases hs4 with rfl | rfl
            · exact .inl (by simp)
            · exact .inr ⟨by simp, by simp⟩
          obtain ⟨kk, hkk⟩ : ∃ x, ks[i] = x := ⟨_, rfl⟩
          rw [hkk] at c1 HCR
          have m1 : IntKind.i64.wrap ((i : Int) + 1) = (i : Int) + 1 := by simp [IntKind.wrap, IntKind.signed, IntKind.bits]; omega
          have m2 : IntKind.i64.wrap (sv + n') = sv + n' := by simp [IntKind.wrap, IntKind.signed, IntKind.bits]; omega
          clear hh hcg CR hr hs1 hs2 hs4 hs5 hs6 hv2 hm1' hm2' hkn hkk hik
          rcases hq with q1 | ⟨q1, q2⟩
          all_goals
            go_wp2_with fail
            refine HCR.out.mono ?_
            rintro e w6 ⟨rfl, T2, G2, hd, hs⟩
            have HD6 := Lib.hid hd
            have hz := hs.only.size
            have hz5 := HZ5.out
            have hz23 := HZ23.out
            have hzt := HT.out
            have HDA6 : Hid (DocI T G w6 pa s) := HDA.out.apartFrom hs (fun b hb hT => by
              have h5 := hz5.2.2 b hb
              rcases hzt.2 b hT with h | h
              · exact h5.1 h
              · omega)
            have HB6 : Hid (Below w1.heap.size w1 w6) := HB.out.trans (hs.below (by omega) (fun b hb => by
              rcases hzt.2 b hb with h | h
              · have := h.1; omega
              · omega))
            have HV6 : Hid (VS w5.heap.size w6 (some ⟨b, off, none⟩) c9 (pickL vs ks)) := HV.out.keep (fun x hx hlt => hs.only.block x (by omega) (fun hT => by
              have h1 := HBK.out x hx
              rcases hzt.2 x hT with h | h
              · have := h.2; omega
              · omega))
            have HT6 : Hid (w5.heap.size ≤ w6.heap.size ∧ ∀ b, T2 b → newB w2 w3 b ∨ w5.heap.size ≤ b) := ⟨by omega, fun b hb => by
              rcases hs.t b hb with h | h
              · exact hzt.2 b h
              · exact .inr (by omega)⟩
            clear hd hs hz hz5 hz23 hzt HCR c1 c2
            go_wp2
            go_roundw
            case rel => exact ⟨i + 1, sv + n', s2, T2, G2, by go_num, by go_num, by omega, by omega, by omega, HS2, HR2, HD6, HDA6, HV6, HB6, HT6⟩
            case measure => simp [intOf]; omega
        · have hin2 : ¬ ((i : Int) < (N9 : Int)) := by omega
          have hall := ord_all HS.out.2 (fun k hk => by
            obtain ⟨j, hj, e⟩ := List.getElem_of_mem (HA.out.all k (by rw [← HN.out]; exact hk))
            have := HNN.out
            exact HR.out j k (by omega) (by rw [List.getElem?_eq_getElem hj, e]))
          obtain ⟨q1, q2, q3⟩ := hall
          have hsvn : sv = (n : Int) := by rw [← HS.out.1, q1, HN.out]
          subst hsvn
          have HQB : Hid (s'.v = (n : Int) ∧ s'.text = endT S cs ∧ s'.hs.length = 0) := ⟨HS.out.1, q2, by rw [q3]; rfl⟩
          clear q1 q2 q3 hi hin
          obtain ⟨tx, htx⟩ : ∃ x, endT S cs = x := ⟨_, rfl⟩
          have CTA := text_any T G pa s wr HDA.out
          rw [HSA.out.2, htx] at CTA
          have HTA := Lib.hid CTA
          have HTX := Lib.hid htx
          clear CTA htx
          have qn : (((n : Nat) : Int) == ((n : Nat) : Int)) = true := by simp
          have qt : (tx.toList == tx.toList) = true := by simp
          go_wp2_with fail
          refine HTA.out.mono ?_
          rintro e w6 ⟨rfl, b6⟩
          have HDA6 : Hid (DocI T G w6 pa s) := HDA.out.below b6
          have HDB6 : Hid (DocI T' G' w6 pb s') := HD.out.below b6
          have HB6 : Hid (Below w1.heap.size w1 w6) := HB.out.trans (b6.mono HB.out.size)
          have CTB := text_any T' G' pb s' w6 HDB6.out
          rw [HQB.out.2.1, HTX.out] at CTB
          have HTB := Lib.hid CTB
          clear b6 CTB HTA
          go_wp2_with fail
          refine HTB.out.mono ?_
          rintro e w7 ⟨rfl, b7⟩
          have HDA7 : Hid (DocI T G w7 pa s) := HDA6.out.below b7
          have HDB7 : Hid (DocI T' G' w7 pb s') := HDB6.out.below b7
          have HB7 : Hid (Below w1.heap.size w1 w7) := HB6.out.trans (b7.mono HB6.out.size)
          have CVA := version_any T G pa s w7 HDA7.out
          rw [HSA.out.1] at CVA
          have HVA := Lib.hid CVA
          have CVB := version_any T' G' pb s' w7 HDB7.out
          rw [HQB.out.1] at CVB
          have HVB := Lib.hid CVB
          have CHB := held_all T' G' pb s' w7 HDB7.out
          rw [HQB.out.2.2] at CHB
          have HHB := Lib.hid CHB
          clear b7 CVA CVB CHB HTB
          go_wp2_with fail
          refine HVA.out.mono ?_
          rintro e w8 ⟨rfl, rfl⟩
          go_wp2_with fail
          refine HVB.out.mono ?_
          rintro e w8 ⟨rfl, rfl⟩
          go_wp2_with fail
          refine HHB.out.mono ?_
          rintro e w8 ⟨a8, c8, rfl, hrow8, b8⟩
          have HB8 : Hid (Below w1.heap.size w1 w8) := HB7.out.trans (b8.mono HB7.out.size)
          clear hrow8 b8
          go_wp2_with fail
          refine (lives_any _).mono ?_
          rintro e w9 ⟨rfl, b9⟩
          have HB9 : Hid (Below w.heap.size w w9) := H1.out.trans ((HB8.out.trans (b9.mono HB8.out.size)).mono H1.out.size)
          clear b9
          go_wp2
          go_ret
          exact ⟨rfl, HB9.out⟩

end Go.Proofs.Ytkehgoailhpenaa
