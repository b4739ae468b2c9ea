/- Texts of one claim, put together: DPos, DPg, DCh, DFrm, DSnc, DLv0, DLv, DSp, DHl, DHs, DHt. Each part says what it proves and under which conditions. -/
import Derived.Test.YtkehgoailhpenaaGreatPE08
import Derived.Deep.RegionHeld3
import Derived.Deep.RegionWith
import Derived.Shelf.SlIterI.Nil
import Derived.Shelf.SortM.Plain
import Derived.Shelf.SortM.SortNone
import Derived.Ground.GgzProg
import Derived.Ground.SlgmProg
import Derived.Test.YtkehgoailhpenaaGreatProg

/- The contract of Positions. Conditions: whole characters, texts of at most 400 bytes, valid edits at boundaries. -/
namespace Go.Proofs.YtkehgoailhpenaaGreat
open Go.RowKit Go.Shelf
set_option linter.unusedVariables false

theorem pos_small3 {s : ByteArray} {i l u : Nat} (h : Pos (sb s) i l u) (hs : s.size ≤ 500) : l ≤ 1000 ∧ u ≤ 1000 ∧ I64n (l : Int) ∧ I64n (u : Int) := by
  have hi := h.lt
  rw [sb_len] at hi
  have h0 := h.2.2.unis_take
  have h1 := unis_le (((sb s).drop (lf (sb s) i).2).take (i - (lf (sb s) i).2))
  rw [List.length_take, List.length_drop, sb_len] at h1
  have h2 := (lf_le (sb s) i).2
  have h3 := h.2.1
  have a : l ≤ 1000 := by omega
  have b : u ≤ 1000 := by omega
  exact ⟨a, b, ⟨by omega, by omega⟩, ⟨by omega, by omega⟩⟩
/-- An edit by offsets, of an edit that came in. -/
def edM (e : Er) : Ed := ⟨e.f.toNat, e.t.toNat, e.x⟩
theorem infoP : (Tryz.prog.info? 78).map (fun i => (i.zero, i.size, i.bytes)) = some (some (.agg #[.int .i64 0, .int .i64 0, .int .i64 0, .int .i64 0, .string ⟨#[]⟩]), 5, 48) := by kernel_rfl
/-- Edits by positions that become these edits. -/
theorem back_eds {S : ByteArray} {xs : List Er} {qs : Nat → PE} (hl : xs.length ≤ 64) (hpos : ∀ e ∈ xs, 0 ≤ e.f ∧ 0 ≤ e.t) (h : ∀ j, j < xs.length → EdS (sb S) (qs j) (edM (eg xs j)) 0) : pE S ((List.range xs.length).map qs) = 0 ∧ pL S ((List.range xs.length).map qs) = xs := by
  have hg : ∀ j, j < xs.length → pG ((List.range xs.length).map qs) j = qs j := fun j hj => by simp [pG, hj]
  have hE : pE S ((List.range xs.length).map qs) = 0 := by
    unfold pE
    rw [if_neg (by simp; omega)]
    refine pE0_zero (fun j hj => ?_)
    have hj' : j < xs.length := by simpa using hj
    rw [hg j hj', edD_eq (h j hj')]
  refine ⟨hE, ?_⟩
  unfold pL
  rw [if_pos hE]
  refine List.ext_getElem (by simp) (fun j h1 h2 => ?_)
  have hj : j < xs.length := h2
  simp only [List.map_map, List.getElem_map, List.getElem_range, Function.comp]
  rw [edD_eq (h j hj)]
  have he : eg xs j = xs[j] := by simp [eg, List.getElem?_eq_getElem hj]
  have hp := hpos _ (eg_mem hj)
  rw [← he]
  generalize eg xs j = e at hp ⊢
  obtain ⟨f, t, x⟩ := e
  simp only at hp
  simp only [edM, Ed.er]
  congr 1 <;> omega

set_option maxRecDepth 100000 in
set_option maxHeartbeats 8000000 in
theorem positions_any (S : ByteArray) (ax : Option Addr) (cx : Nat) (xs : List Er) (w2 : World) (hSl : S.size ≤ 400) (HW : Hid (Whl (sb S))) (hx1 : xs.length ≤ 5) (hx2 : vErr (S.size : Int) xs = 0) (hx3 : ∀ x ∈ xs, x.x.size ≤ S.size + 7 ∧ Bd (sb S) x.f.toNat ∧ Bd (sb S) x.t.toNat) (hX : ES w2.heap.size w2 ax cx xs) :
    Calls Tryz.prog 32 #[.string S, .slice ax xs.length cx] w2 fun e w' => ∃ a c, ∃ ps : List PE, e = .returned (.tuple #[.slice a ps.length c, .bool true]) ∧ PS w'.heap.size w' a c ps ∧ ps.length = xs.length ∧ (∀ p ∈ ps, p.fit ∧ p.t.size ≤ 100000) ∧ pE S ps = 0 ∧ pL S ps = xs ∧ Below w2.heap.size w2 w' := by
  obtain ⟨i5, hi5, jy0, jy1, jy2⟩ := info_parts infoP
  have hok := vErr_ok hx2
  have hfx := fit_of hx2 (by omega) (fun e he => by have := (hx3 e he).1; omega)
  have hcx := hX.le
  obtain ⟨n, hn⟩ : ∃ n, xs.length = n := ⟨_, rfl⟩
  obtain ⟨bb, off, hab, hcell⟩ := hX.cells.core
  obtain ⟨lo, hlo⟩ : ∃ lo, w2.heap.size = lo := ⟨_, rfl⟩
  rw [hn] at hab hcell hcx hx1 ⊢
  rw [hlo] at hab
  have HPOS : Hid (∀ k, k < n → ∃ x y U V : Nat, (eg xs k).f = (x : Int) ∧ (eg xs k).t = (y : Int) ∧ Bord (sb S) x U ∧ Bord (sb S) y V ∧ x ≤ y ∧ y ≤ S.size) := fun k hk => by
    have hm := eg_mem (es := xs) (k := k) (by omega)
    have h1 := hok.2.2 _ hm
    obtain ⟨_, h2, h3⟩ := hx3 _ hm
    obtain ⟨U, hU⟩ := bord_of_bd HW.out (by rw [sb_len]; omega) h2
    obtain ⟨V, hV⟩ := bord_of_bd HW.out (by rw [sb_len]; omega) h3
    exact ⟨_, _, U, V, by omega, by omega, hU, hV, by omega, by omega⟩
  have HN := Lib.hid hn; have HX := Lib.hid hX; have HX2 := Lib.hid hx2; have HFX := Lib.hid hfx; have HAB := Lib.hid hab; have HC := Lib.hid hcell; have HLO := Lib.hid hlo; have HX3 := Lib.hid hx3
  have HO0 : Hid (w2.ownsRow lo 78 5 (.slice none 0 0) 0 (pvals (fun _ => ⟨0, 0, 0, 0, ⟨#[]⟩⟩) 0)) := World.ownsRow_nil _ _ _ _
  have HB0 : Hid (Below lo w2 w2) := Below.refl _ _
  clear hX hx2 hx3 hok hfx hab hcell hn hlo
  go_enter Tryz.func32, Tryz.ntmps32
  go_wp2_with fail
  go_loopw [6, 7] (fun v q wr => ∃ (k : Nat) (ps : Nat → PE), k ≤ n ∧ q = .int .i64 (k : Int) ∧ Hid (∀ j, j < k → (ps j).fit ∧ EdS (sb S) (ps j) (edM (eg xs j)) 0) ∧ Hid (wr.ownsRow lo 78 5 v k (pvals ps k)) ∧ Hid (Below lo w2 wr)) (fun _ q _ => n - (intOf q).toNat)
  case atStart => exact ⟨0, fun _ => ⟨0, 0, 0, 0, ⟨#[]⟩⟩, by omega, rfl, Lib.hid (fun j h => by omega), HO0, HB0.out⟩
  case round =>
    obtain ⟨k, ps, hk, rfl, HPS, HO, HR⟩ := hrel
    have hlr : lo ≤ wr.heap.size := by have := HR.out.size; have := HLO.out; omega
    by_cases hlt : k < n
    · have hkk : (k : Int) < (n : Int) := by omega
      obtain ⟨rfl, hbb⟩ := HAB.out.resolve_left (by omega)
      have hcw : Hid (∀ W, Below lo w2 W → W.cell? ⟨bb, off + k * 3, none⟩ = some (.int .i64 (eg xs k).f) ∧ W.cell? ⟨bb, off + k * 3 + 1, none⟩ = some (.int .i64 (eg xs k).t) ∧ W.cell? ⟨bb, off + k * 3 + 2, none⟩ = some (.string (eg xs k).x)) := fun W hW => HC.out k hlt W (hW.block bb hbb)
      obtain ⟨x, y, U, V, hx, hy, hU, hV, hxy, hys⟩ := HPOS.out k hlt
      obtain ⟨z, hz⟩ : ∃ z, (eg xs k).x = z := ⟨_, rfl⟩
      rw [hx, hy, hz] at hcw
      have hed : edM (eg xs k) = ⟨x, y, z⟩ := by unfold edM; rw [hx, hy, hz]; simp
      obtain ⟨c0, _, _⟩ := hcw.out wr HR.out
      have HBX := Lib.hid hU; have HBY := Lib.hid hV; have HED := Lib.hid hed; have HZ := Lib.hid hz
      clear hU hV hx hy hz hed
      go_wp2_with fail
      refine (rat_any S (x : Int) _ (by omega)).mono ?_
      rintro e w3 ⟨l1, u1, er, rfl, hsp, b3⟩
      obtain ⟨rfl, hpx⟩ := at_border hsp HBX.out
      obtain ⟨y1, y2, y3, y4⟩ := pos_small3 hpx (by omega)
      have HPX := Lib.hid hpx
      have hB3 : Below lo w2 w3 := HR.out.trans (b3.mono hlr)
      have z3 : lo ≤ w3.heap.size := by have := b3.size; omega
      obtain ⟨p1, hp1⟩ : ∃ p, w3.heap.size = p := ⟨_, rfl⟩
      obtain ⟨W3, hW3⟩ : ∃ W, w3.alloc (.cells #[.int .i64 (l1 : Int), .int .i64 (u1 : Int)] 24) = W := ⟨_, rfl⟩
      have k3 : Blk W3 p1 24 #[.int .i64 (l1 : Int), .int .i64 (u1 : Int)] := by rw [← hW3, ← hp1]; exact Blk.new _ _ _
      have hB3a : Below lo w2 W3 := by rw [← hW3]; exact hB3.alloc z3 _
      have s3 : W3.heap.size = p1 + 1 := by rw [← hW3, ← hp1]; simp
      obtain ⟨_, c1, _⟩ := hcw.out W3 hB3a
      have hp1w : wr.heap.size ≤ p1 := by have := b3.size; omega
      have hO3 : Below wr.heap.size wr W3 := by rw [← hW3]; exact b3.alloc b3.size _
      have HW3 := Lib.hid hW3; have HK3 := Lib.hid k3; have HB3 := Lib.hid hB3a; have HP1 := Lib.hid hp1; have HO3 := Lib.hid hO3
      clear hsp hpx b3 c0 hW3 k3 hB3 hB3a hO3
      rw [← HW3.out] at c1
      go_wp2_with fail
      rw [show w3.alloc (.cells #[.int .i64 (l1 : Int), .int .i64 (u1 : Int)] 24) = W3 from HW3.out]
      refine (rat_any S (y : Int) _ (by omega)).mono ?_
      rintro e w4 ⟨l2, u2, er, rfl, hsp, b4⟩
      obtain ⟨rfl, hpy⟩ := at_border hsp HBY.out
      obtain ⟨y5, y6, y7, y8⟩ := pos_small3 hpy (by omega)
      have z4 : lo ≤ w4.heap.size := by have := b4.size; omega
      obtain ⟨p2, hp2⟩ : ∃ p, w4.heap.size = p := ⟨_, rfl⟩
      obtain ⟨W4, hW4⟩ : ∃ W, w4.alloc (.cells #[.int .i64 (l2 : Int), .int .i64 (u2 : Int)] 24) = W := ⟨_, rfl⟩
      have hp2p : p1 < p2 := by have := b4.size; omega
      have b34 : Below W3.heap.size W3 W4 := by rw [← hW4]; exact b4.alloc b4.size _
      have k4 : Blk W4 p2 24 #[.int .i64 (l2 : Int), .int .i64 (u2 : Int)] := by rw [← hW4, ← hp2]; exact Blk.new _ _ _
      have k34 : Blk W4 p1 24 #[.int .i64 (l1 : Int), .int .i64 (u1 : Int)] := HK3.out.same (b34.block p1 (by omega))
      have hB4 : Below lo w2 W4 := HB3.out.trans (b34.mono (by omega))
      have hO4 : Below wr.heap.size wr W4 := HO3.out.trans (b34.mono HO3.out.size)
      have hown4 : W4.ownsRow lo 78 5 u6 k (pvals ps k) := own_same HO.out (fun g hg => hO4.block g (HO.out.lt g hg).2)
      have z4a : lo ≤ W4.heap.size := by have := b34.size; omega
      have hed : EdS (sb S) ⟨l1, u1, l2, u2, z⟩ (edM (eg xs k)) 0 := by rw [HED.out]; exact ed_there z HPX.out hpy hxy
      obtain ⟨qs, hqs⟩ : ∃ qs : Nat → PE, (fun j => if j = k then (⟨l1, u1, l2, u2, z⟩ : PE) else ps j) = qs := ⟨_, rfl⟩
      have hqk : qs k = ⟨l1, u1, l2, u2, z⟩ := by rw [← hqs]; simp
      have hqj : ∀ j, j < k → qs j = ps j := fun j hj => by rw [← hqs]; simp; omega
      have HQ : Hid (∀ j, j < k + 1 → (qs j).fit ∧ EdS (sb S) (qs j) (edM (eg xs j)) 0) := fun j hj => by
        by_cases e : j = k
        · subst e; rw [hqk]; exact ⟨⟨y3, y4, y7, y8⟩, hed⟩
        · rw [hqj j (by omega)]; exact HPS.out j (by omega)
      have HPV : Hid (pvals qs (k + 1) = pvals ps k ++ [.int .i64 (l1 : Int), .int .i64 (u1 : Int), .int .i64 (l2 : Int), .int .i64 (u2 : Int), .string z]) := Lib.hid (by rw [pvals_succ, hqk, pvals_congr k hqj]; rfl)
      have hw24 : W4.heap[bb]? = w2.heap[bb]? := hB4.block bb hbb
      have HS0 : Hid (∀ W : World, W.heap[p1]? = W4.heap[p1]? → W.heap[p2]? = W4.heap[p2]? → W.heap[bb]? = W4.heap[bb]? → W.cell? ⟨p1, 0, none⟩ = some (.int .i64 (l1 : Int)) ∧ W.cell? ⟨p1, 1, none⟩ = some (.int .i64 (u1 : Int)) ∧ W.cell? ⟨p2, 0, none⟩ = some (.int .i64 (l2 : Int)) ∧ W.cell? ⟨p2, 1, none⟩ = some (.int .i64 (u2 : Int)) ∧ W.cell? ⟨bb, off + k * 3 + 2, none⟩ = some (.string z)) := fun W e1 e2 e3 => by
        have a1 := k34.same e1
        have a2 := k4.same e2
        have a3 := (HC.out k hlt W (e3.trans hw24)).2.2
        rw [HZ.out] at a3
        exact ⟨by simpa using a1.cell 0, by simpa using a1.cell 1, by simpa using a2.cell 0, by simpa using a2.cell 1, a3⟩
      have hbl : p1 < W4.heap.size ∧ p2 < W4.heap.size ∧ bb < W4.heap.size := ⟨k34.lt, k4.lt, by omega⟩
      have hob : ∀ g, u6.ownBlock = some g → g ≠ p1 ∧ g ≠ p2 ∧ g ≠ bb := fun g hg => by
        have h1 := HO.out.lt g hg
        have h2 := HO3.out.size
        omega
      have HS : Hid (∀ W, Below W4.heap.size W4 W → W.cell? ⟨p1, 0, none⟩ = some (.int .i64 (l1 : Int)) ∧ W.cell? ⟨p1, 1, none⟩ = some (.int .i64 (u1 : Int)) ∧ W.cell? ⟨p2, 0, none⟩ = some (.int .i64 (l2 : Int)) ∧ W.cell? ⟨p2, 1, none⟩ = some (.int .i64 (u2 : Int)) ∧ W.cell? ⟨bb, off + k * 3 + 2, none⟩ = some (.string z)) := fun W hW =>
        HS0.out W (hW.block p1 hbl.1) (hW.block p2 hbl.2.1) (hW.block bb hbl.2.2)
      have HG : Hid (∀ w6, ((W4.alloc (.cells #[.int .i64 (l1 : Int), .int .i64 (u1 : Int), .int .i64 (l2 : Int), .int .i64 (u2 : Int), .string z] 78)).drew).grownBy w6 u6.ownBlock → W4.heap.size ≤ w6.heap.size ∧ w6.heap[p1]? = W4.heap[p1]? ∧ w6.heap[p2]? = W4.heap[p2]? ∧ w6.heap[bb]? = W4.heap[bb]?) := fun w6 hg => by
        have hb := ((Below.refl W4.heap.size W4).alloc (Nat.le_refl _) (.cells #[.int .i64 (l1 : Int), .int .i64 (u1 : Int), .int .i64 (l2 : Int), .int .i64 (u2 : Int), .string z] 78)).drew
        have hz := hb.size
        have hz6 := hg.size
        refine ⟨by omega, ?_, ?_, ?_⟩
        · exact (hg.block p1 (by omega) (fun e => (hob p1 e.symm).1 rfl)).trans (hb.block p1 hbl.1)
        · exact (hg.block p2 (by omega) (fun e => (hob p2 e.symm).2.1 rfl)).trans (hb.block p2 hbl.2.1)
        · exact (hg.block bb (by omega) (fun e => (hob bb e.symm).2.2 rfl)).trans (hb.block bb hbl.2.2)
      have HW4 := Lib.hid hW4; have HB4 := Lib.hid hB4; have HP2 := Lib.hid hp2; have HOW := Lib.hid hown4
      have c3 := HS.out W4.drew (Below.refl _ _).drew
      have c4 := HS.out ((W4.alloc (.cells #[.int .i64 (l1 : Int), .int .i64 (u1 : Int), .int .i64 (l2 : Int), .int .i64 (u2 : Int), .string z] 78)).drew) ((Below.refl _ W4).alloc (Nat.le_refl _) _).drew
      clear hsp hpy b4 c1 b34 k4 k34 hB4 hO4 hown4 hed hqs hqk hqj hW4
      go_wp2_with fail
      try rw [HP2.out]
      rw [show w4.alloc (.cells #[.int .i64 (l2 : Int), .int .i64 (u2 : Int)] 24) = W4 from HW4.out]
      go_region_held3 (fun w' => w'.cell? ⟨p1, 0, none⟩ = some (.int .i64 (l1 : Int)) ∧ w'.cell? ⟨p1, 1, none⟩ = some (.int .i64 (u1 : Int)) ∧ w'.cell? ⟨p2, 0, none⟩ = some (.int .i64 (l2 : Int)) ∧ w'.cell? ⟨p2, 1, none⟩ = some (.int .i64 (u2 : Int)) ∧ w'.cell? ⟨bb, off + k * 3 + 2, none⟩ = some (.string z)) (first | exact c3 | exact c4 | exact c6)
        (first | (rw [if_pos (by rfl)]; refine wp_append_at _ _ 45 rfl lo 78 i5 (.agg #[.int .i64 0, .int .i64 0, .int .i64 0, .int .i64 0, .string ⟨#[]⟩]) 5 48 Tryz.underlying45 hi5 jy0 jy1 jy2 rfl (by decide) u6 k (pvals ps k) rfl (HOW.out.alloc _).drew ⟨_, 0, none⟩ 1 1 [.int .i64 (l1 : Int), .int .i64 (u1 : Int), .int .i64 (l2 : Int), .int .i64 (u2 : Int), .string z] rfl rfl (cells_news W4 [.int .i64 (l1 : Int), .int .i64 (u1 : Int), .int .i64 (l2 : Int), .int .i64 (u2 : Int), .string z] _) (fun x hx => by simp at hx; rcases hx with rfl | rfl | rfl | rfl | rfl <;> rfl) (by unfold maxLen; omega) (by omega) (by simp; omega) ?_; intro v' w6 hown6 hgrow6 _; obtain ⟨_, e1, e2, e3⟩ := HG.out w6 hgrow6; have c6 := HS0.out w6 e1 e2 e3))
      have HO6 : Hid (w6.ownsRow lo 78 5 v' (k + 1) (pvals qs (k + 1))) := by rw [HPV.out]; exact hown6
      have H6 : Hid (Below lo w2 w6) := HB4.out.trans ((((Below.refl W4.heap.size W4).alloc (Nat.le_refl _) (.cells #[.int .i64 (l1 : Int), .int .i64 (u1 : Int), .int .i64 (l2 : Int), .int .i64 (u2 : Int), .string z] 78)).drew.mono z4a).grown hgrow6 (by simp; omega) (fun g hg => (HO.out.lt g hg).1))
      clear hown6 hgrow6 c3 c4 c6 e1 e2 e3
      go_wp2
      go_roundw
      case rel => exact ⟨k + 1, qs, by omega, by go_num, HQ, HO6, H6⟩
      case measure => simp [intOf]; omega
    · obtain rfl : n = k := by omega
      obtain ⟨Ap, cp, rfl, hcp1, hcp2, hPC, _⟩ := pcells_of_own HO.out
      obtain ⟨L, hL⟩ : ∃ L, (List.range n).map ps = L := ⟨_, rfl⟩
      have hLl : L.length = n := by rw [← hL]; simp
      have hLg : ∀ j, j < n → pG L j = ps j := fun j hj => by rw [← hL]; simp [pG, hj]
      have hback := back_eds (S := S) (xs := xs) (qs := ps) (by rw [HN.out]; omega) (fun e he => by have := (vErr_ok HX2.out).2.2 e he; omega) (fun j hj => (HPS.out j (by rw [HN.out] at hj; exact hj)).2)
      rw [HN.out, hL] at hback
      have hPS : PS wr.heap.size wr Ap cp L := by
        refine ⟨by omega, hcp2, ?_⟩
        rw [hLl]
        rcases hPC with h0 | ⟨b, o, h1, h2, h3⟩
        · exact .inl h0
        · exact .inr ⟨b, o, h1, h2, fun k hk i hi => by rw [h3 k hk i hi, hLg k hk]⟩
      have hfit : ∀ p ∈ L, p.fit ∧ p.t.size ≤ 100000 := by
        intro p hp
        rw [← hL] at hp
        obtain ⟨j, hj, rfl⟩ := List.mem_map.1 hp
        have hj' : j < n := List.mem_range.1 hj
        have h1 := HPS.out j hj'
        refine ⟨h1.1, ?_⟩
        have hm := eg_mem (es := xs) (k := j) (by rw [HN.out]; exact hj')
        have h2 := (HX3.out _ hm).1
        obtain ⟨o1, e1, o2, e2, _, _, h9⟩ := h1.2
        have hz : ∀ (d : Ed), d = edM (eg xs j) → d.t = (eg xs j).x := fun d hd => by rw [hd]; rfl
        rcases h9 with ⟨q1, q2, _⟩ | ⟨_, q1, q2, _⟩ | ⟨_, _, _, q2, _⟩ | ⟨_, _, _, _, q2⟩
        · exact absurd q2.symm q1
        · exact absurd q2.symm q1
        · omega
        · have := hz _ q2.symm
          simp only at this
          rw [this]; omega
      have hB : Below w2.heap.size w2 wr := by rw [HLO.out]; exact HR.out
      have HF : Hid (PS wr.heap.size wr Ap cp L ∧ L.length = n ∧ (∀ p ∈ L, p.fit ∧ p.t.size ≤ 100000) ∧ pE S L = 0 ∧ pL S L = xs ∧ Below w2.heap.size w2 wr) := ⟨hPS, hLl, hfit, hback.1, hback.2, hB⟩
      clear hLl hLg hback hPS hfit hB hPC hL
      go_wp2
      go_ret2
      obtain ⟨f1, f2, f3, f4, f5, f6⟩ := HF.out
      exact ⟨Ap, cp, L, by rw [f2]; rfl, f1, f2, f3, f4, f5, f6⟩

end Go.Proofs.YtkehgoailhpenaaGreat

/- The contract of Positions, for any text: either it finds a position for each offset, or it says that there is none. Conditions: texts of at most 5000 bytes, valid edits. -/
namespace Go.Proofs.YtkehgoailhpenaaGreat
open Go.RowKit Go.Shelf
set_option linter.unusedVariables false

theorem at_small {s : ByteArray} {off : Int} {l u : Nat} {er : Int} (h : AtSpec (sb s) off l u er) (hs : s.size ≤ 5000) : l ≤ 10000 ∧ u ≤ 10000 ∧ I64n (l : Int) ∧ I64n (u : Int) := by
  rcases h with ⟨_, rfl, rfl, _⟩ | ⟨_, rfl, rfl, _⟩ | ⟨_, i, _, h⟩
  · exact ⟨by omega, by omega, ⟨by omega, by omega⟩, ⟨by omega, by omega⟩⟩
  · exact ⟨by omega, by omega, ⟨by omega, by omega⟩, ⟨by omega, by omega⟩⟩
  · have hi := h.lt
    rw [sb_len] at hi
    have h0 := h.2.2.unis_take
    have h1 := unis_le (((sb s).drop (lf (sb s) i).2).take (i - (lf (sb s) i).2))
    rw [List.length_take, List.length_drop, sb_len] at h1
    have h2 := (lf_le (sb s) i).2
    have h3 := h.2.1
    have a : l ≤ 10000 := by omega
    have b : u ≤ 10000 := by omega
    exact ⟨a, b, ⟨by omega, by omega⟩, ⟨by omega, by omega⟩⟩
theorem at_ok {s : ByteArray} {x l u : Nat} (h : AtSpec (sb s) (x : Int) l u 0) : Pos (sb s) x l u := by
  rcases h with ⟨h, _⟩ | ⟨h, _⟩ | ⟨_, i, hi, h⟩
  · omega
  · omega
  · have : x = i := by omega
    subst this; exact h

set_option maxRecDepth 100000 in
set_option maxHeartbeats 8000000 in
theorem posg_any (S : ByteArray) (ax : Option Addr) (cx : Nat) (xs : List Er) (w2 : World) (hSl : S.size ≤ 5000) (hx1 : xs.length ≤ 64) (hx2 : vErr (S.size : Int) xs = 0) (hx3 : ∀ x ∈ xs, x.x.size ≤ 100000) (hX : ES w2.heap.size w2 ax cx xs) :
    Calls Tryz.prog 32 #[.string S, .slice ax xs.length cx] w2 fun e w' => (e = .returned (.tuple #[.slice none 0 0, .bool false]) ∧ Below w2.heap.size w2 w') ∨ ∃ a c, ∃ ps : List PE, e = .returned (.tuple #[.slice a ps.length c, .bool true]) ∧ PS w'.heap.size w' a c ps ∧ ps.length = xs.length ∧ (∀ p ∈ ps, p.fit ∧ p.t.size ≤ 100000) ∧ pE S ps = 0 ∧ pL S ps = xs ∧ (∀ b, blkOf a b → w2.heap.size ≤ b) ∧ Below w2.heap.size w2 w' := by
  obtain ⟨i5, hi5, jy0, jy1, jy2⟩ := info_parts infoP
  have hok := vErr_ok hx2
  have hfx := fit_of hx2 (by omega) (fun e he => by have := hx3 e he; omega)
  have hcx := hX.le
  obtain ⟨n, hn⟩ : ∃ n, xs.length = n := ⟨_, rfl⟩
  obtain ⟨bb, off, hab, hcell⟩ := hX.cells.core
  obtain ⟨lo, hlo⟩ : ∃ lo, w2.heap.size = lo := ⟨_, rfl⟩
  rw [hn] at hab hcell hcx hx1 ⊢
  rw [hlo] at hab
  have HPOS : Hid (∀ k, k < n → ∃ x y : Nat, (eg xs k).f = (x : Int) ∧ (eg xs k).t = (y : Int) ∧ x ≤ y ∧ y ≤ S.size) := fun k hk => by
    have hm := eg_mem (es := xs) (k := k) (by omega)
    have h1 := hok.2.2 _ hm
    exact ⟨_, (eg xs k).t.toNat, by have : (eg xs k).f = ((eg xs k).f.toNat : Int) := by omega
                                    exact this, by omega, by omega, by omega⟩
  have HN := Lib.hid hn; have HX := Lib.hid hX; have HX2 := Lib.hid hx2; have HFX := Lib.hid hfx; have HAB := Lib.hid hab; have HC := Lib.hid hcell; have HLO := Lib.hid hlo; have HX3 := Lib.hid hx3
  have HO0 : Hid (w2.ownsRow lo 78 5 (.slice none 0 0) 0 (pvals (fun _ => ⟨0, 0, 0, 0, ⟨#[]⟩⟩) 0)) := World.ownsRow_nil _ _ _ _
  have HB0 : Hid (Below lo w2 w2) := Below.refl _ _
  clear hX hx2 hx3 hok hfx hab hcell hn hlo
  go_enter Tryz.func32, Tryz.ntmps32
  go_wp2_with fail
  go_loopw [6, 7] (fun v q wr => ∃ (k : Nat) (ps : Nat → PE), k ≤ n ∧ q = .int .i64 (k : Int) ∧ Hid (∀ j, j < k → (ps j).fit ∧ EdS (sb S) (ps j) (edM (eg xs j)) 0) ∧ Hid (wr.ownsRow lo 78 5 v k (pvals ps k)) ∧ Hid (Below lo w2 wr)) (fun _ q _ => n - (intOf q).toNat)
  case atStart => exact ⟨0, fun _ => ⟨0, 0, 0, 0, ⟨#[]⟩⟩, by omega, rfl, Lib.hid (fun j h => by omega), HO0, HB0.out⟩
  case round =>
    obtain ⟨k, ps, hk, rfl, HPS, HO, HR⟩ := hrel
    have hlr : lo ≤ wr.heap.size := by have := HR.out.size; have := HLO.out; omega
    by_cases hlt : k < n
    · have hkk : (k : Int) < (n : Int) := by omega
      obtain ⟨rfl, hbb⟩ := HAB.out.resolve_left (by omega)
      have hcw : Hid (∀ W, Below lo w2 W → W.cell? ⟨bb, off + k * 3, none⟩ = some (.int .i64 (eg xs k).f) ∧ W.cell? ⟨bb, off + k * 3 + 1, none⟩ = some (.int .i64 (eg xs k).t) ∧ W.cell? ⟨bb, off + k * 3 + 2, none⟩ = some (.string (eg xs k).x)) := fun W hW => HC.out k hlt W (hW.block bb hbb)
      obtain ⟨x, y, hx, hy, hxy, hys⟩ := HPOS.out k hlt
      obtain ⟨z, hz⟩ : ∃ z, (eg xs k).x = z := ⟨_, rfl⟩
      rw [hx, hy, hz] at hcw
      have hed : edM (eg xs k) = ⟨x, y, z⟩ := by unfold edM; rw [hx, hy, hz]; simp
      obtain ⟨c0, _, _⟩ := hcw.out wr HR.out
      have HED := Lib.hid hed; have HZ := Lib.hid hz
      clear hx hy hz hed
      go_wp2_with fail
      refine (rat_any S (x : Int) _ (by omega)).mono ?_
      rintro e w3 ⟨l1, u1, er1, rfl, hsp, b3⟩
      obtain ⟨y1, y2, y3, y4⟩ := at_small hsp (by omega)
      have HPX := Lib.hid hsp
      have hB3 : Below lo w2 w3 := HR.out.trans (b3.mono hlr)
      have z3 : lo ≤ w3.heap.size := by have := b3.size; omega
      obtain ⟨p1, hp1⟩ : ∃ p, w3.heap.size = p := ⟨_, rfl⟩
      obtain ⟨W3, hW3⟩ : ∃ W, w3.alloc (.cells #[.int .i64 (l1 : Int), .int .i64 (u1 : Int)] 24) = W := ⟨_, rfl⟩
      have k3 : Blk W3 p1 24 #[.int .i64 (l1 : Int), .int .i64 (u1 : Int)] := by rw [← hW3, ← hp1]; exact Blk.new _ _ _
      have hB3a : Below lo w2 W3 := by rw [← hW3]; exact hB3.alloc z3 _
      have s3 : W3.heap.size = p1 + 1 := by rw [← hW3, ← hp1]; simp
      obtain ⟨_, c1, _⟩ := hcw.out W3 hB3a
      have hp1w : wr.heap.size ≤ p1 := by have := b3.size; omega
      have hO3 : Below wr.heap.size wr W3 := by rw [← hW3]; exact b3.alloc b3.size _
      have HW3 := Lib.hid hW3; have HK3 := Lib.hid k3; have HB3 := Lib.hid hB3a; have HP1 := Lib.hid hp1; have HO3 := Lib.hid hO3
      clear hsp b3 c0 hW3 k3 hB3 hB3a hO3
      rw [← HW3.out] at c1
      go_wp2_with fail
      rw [show w3.alloc (.cells #[.int .i64 (l1 : Int), .int .i64 (u1 : Int)] 24) = W3 from HW3.out]
      refine (rat_any S (y : Int) _ (by omega)).mono ?_
      rintro e w4 ⟨l2, u2, er2, rfl, hsp, b4⟩
      obtain ⟨y5, y6, y7, y8⟩ := at_small hsp (by omega)
      have HPY := Lib.hid hsp
      have z4 : lo ≤ w4.heap.size := by have := b4.size; omega
      obtain ⟨p2, hp2⟩ : ∃ p, w4.heap.size = p := ⟨_, rfl⟩
      obtain ⟨W4, hW4⟩ : ∃ W, w4.alloc (.cells #[.int .i64 (l2 : Int), .int .i64 (u2 : Int)] 24) = W := ⟨_, rfl⟩
      have hp2p : p1 < p2 := by have := b4.size; omega
      have b34 : Below W3.heap.size W3 W4 := by rw [← hW4]; exact b4.alloc b4.size _
      have k4 : Blk W4 p2 24 #[.int .i64 (l2 : Int), .int .i64 (u2 : Int)] := by rw [← hW4, ← hp2]; exact Blk.new _ _ _
      have k34 : Blk W4 p1 24 #[.int .i64 (l1 : Int), .int .i64 (u1 : Int)] := HK3.out.same (b34.block p1 (by omega))
      have hB4 : Below lo w2 W4 := HB3.out.trans (b34.mono (by omega))
      have hO4 : Below wr.heap.size wr W4 := HO3.out.trans (b34.mono HO3.out.size)
      have hown4 : W4.ownsRow lo 78 5 u6 k (pvals ps k) := own_same HO.out (fun g hg => hO4.block g (HO.out.lt g hg).2)
      have z4a : lo ≤ W4.heap.size := by have := b34.size; omega
      by_cases he : er1 = 0 ∧ er2 = 0
      · obtain ⟨rfl, rfl⟩ := he
        have hed : EdS (sb S) ⟨l1, u1, l2, u2, z⟩ (edM (eg xs k)) 0 := by rw [HED.out]; exact ed_there z (at_ok HPX.out) (at_ok HPY.out) hxy
        obtain ⟨qs, hqs⟩ : ∃ qs : Nat → PE, (fun j => if j = k then (⟨l1, u1, l2, u2, z⟩ : PE) else ps j) = qs := ⟨_, rfl⟩
        have hqk : qs k = ⟨l1, u1, l2, u2, z⟩ := by rw [← hqs]; simp
        have hqj : ∀ j, j < k → qs j = ps j := fun j hj => by rw [← hqs]; simp; omega
        have HQ : Hid (∀ j, j < k + 1 → (qs j).fit ∧ EdS (sb S) (qs j) (edM (eg xs j)) 0) := fun j hj => by
          by_cases e : j = k
          · subst e; rw [hqk]; exact ⟨⟨y3, y4, y7, y8⟩, hed⟩
          · rw [hqj j (by omega)]; exact HPS.out j (by omega)
        have HPV : Hid (pvals qs (k + 1) = pvals ps k ++ [.int .i64 (l1 : Int), .int .i64 (u1 : Int), .int .i64 (l2 : Int), .int .i64 (u2 : Int), .string z]) := Lib.hid (by rw [pvals_succ, hqk, pvals_congr k hqj]; rfl)
        have hw24 : W4.heap[bb]? = w2.heap[bb]? := hB4.block bb hbb
        have HS0 : Hid (∀ W : World, W.heap[p1]? = W4.heap[p1]? → W.heap[p2]? = W4.heap[p2]? → W.heap[bb]? = W4.heap[bb]? → W.cell? ⟨p1, 0, none⟩ = some (.int .i64 (l1 : Int)) ∧ W.cell? ⟨p1, 1, none⟩ = some (.int .i64 (u1 : Int)) ∧ W.cell? ⟨p2, 0, none⟩ = some (.int .i64 (l2 : Int)) ∧ W.cell? ⟨p2, 1, none⟩ = some (.int .i64 (u2 : Int)) ∧ W.cell? ⟨bb, off + k * 3 + 2, none⟩ = some (.string z)) := fun W e1 e2 e3 => by
          have a1 := k34.same e1
          have a2 := k4.same e2
          have a3 := (HC.out k hlt W (e3.trans hw24)).2.2
          rw [HZ.out] at a3
          exact ⟨by simpa using a1.cell 0, by simpa using a1.cell 1, by simpa using a2.cell 0, by simpa using a2.cell 1, a3⟩
        have hbl : p1 < W4.heap.size ∧ p2 < W4.heap.size ∧ bb < W4.heap.size := ⟨k34.lt, k4.lt, by omega⟩
        have hob : ∀ g, u6.ownBlock = some g → g ≠ p1 ∧ g ≠ p2 ∧ g ≠ bb := fun g hg => by
          have h1 := HO.out.lt g hg
          have h2 := HO3.out.size
          omega
        have HS : Hid (∀ W, Below W4.heap.size W4 W → W.cell? ⟨p1, 0, none⟩ = some (.int .i64 (l1 : Int)) ∧ W.cell? ⟨p1, 1, none⟩ = some (.int .i64 (u1 : Int)) ∧ W.cell? ⟨p2, 0, none⟩ = some (.int .i64 (l2 : Int)) ∧ W.cell? ⟨p2, 1, none⟩ = some (.int .i64 (u2 : Int)) ∧ W.cell? ⟨bb, off + k * 3 + 2, none⟩ = some (.string z)) := fun W hW =>
          HS0.out W (hW.block p1 hbl.1) (hW.block p2 hbl.2.1) (hW.block bb hbl.2.2)
        have HG : Hid (∀ w6, ((W4.alloc (.cells #[.int .i64 (l1 : Int), .int .i64 (u1 : Int), .int .i64 (l2 : Int), .int .i64 (u2 : Int), .string z] 78)).drew).grownBy w6 u6.ownBlock → W4.heap.size ≤ w6.heap.size ∧ w6.heap[p1]? = W4.heap[p1]? ∧ w6.heap[p2]? = W4.heap[p2]? ∧ w6.heap[bb]? = W4.heap[bb]?) := fun w6 hg => by
          have hb := ((Below.refl W4.heap.size W4).alloc (Nat.le_refl _) (.cells #[.int .i64 (l1 : Int), .int .i64 (u1 : Int), .int .i64 (l2 : Int), .int .i64 (u2 : Int), .string z] 78)).drew
          have hz := hb.size
          have hz6 := hg.size
          refine ⟨by omega, ?_, ?_, ?_⟩
          · exact (hg.block p1 (by omega) (fun e => (hob p1 e.symm).1 rfl)).trans (hb.block p1 hbl.1)
          · exact (hg.block p2 (by omega) (fun e => (hob p2 e.symm).2.1 rfl)).trans (hb.block p2 hbl.2.1)
          · exact (hg.block bb (by omega) (fun e => (hob bb e.symm).2.2 rfl)).trans (hb.block bb hbl.2.2)
        have HW4 := Lib.hid hW4; have HB4 := Lib.hid hB4; have HP2 := Lib.hid hp2; have HOW := Lib.hid hown4
        have c3 := HS.out W4.drew (Below.refl _ _).drew
        have c4 := HS.out ((W4.alloc (.cells #[.int .i64 (l1 : Int), .int .i64 (u1 : Int), .int .i64 (l2 : Int), .int .i64 (u2 : Int), .string z] 78)).drew) ((Below.refl _ W4).alloc (Nat.le_refl _) _).drew
        clear hsp b4 c1 b34 k4 k34 hB4 hO4 hown4 hed hqs hqk hqj hW4
        go_wp2_with fail
        try rw [HP2.out]
        rw [show w4.alloc (.cells #[.int .i64 (l2 : Int), .int .i64 (u2 : Int)] 24) = W4 from HW4.out]
        go_region_held3 (fun w' => w'.cell? ⟨p1, 0, none⟩ = some (.int .i64 (l1 : Int)) ∧ w'.cell? ⟨p1, 1, none⟩ = some (.int .i64 (u1 : Int)) ∧ w'.cell? ⟨p2, 0, none⟩ = some (.int .i64 (l2 : Int)) ∧ w'.cell? ⟨p2, 1, none⟩ = some (.int .i64 (u2 : Int)) ∧ w'.cell? ⟨bb, off + k * 3 + 2, none⟩ = some (.string z)) (first | exact c3 | exact c4 | exact c6)
          (first | (rw [if_pos (by rfl)]; refine wp_append_at _ _ 45 rfl lo 78 i5 (.agg #[.int .i64 0, .int .i64 0, .int .i64 0, .int .i64 0, .string ⟨#[]⟩]) 5 48 Tryz.underlying45 hi5 jy0 jy1 jy2 rfl (by decide) u6 k (pvals ps k) rfl (HOW.out.alloc _).drew ⟨_, 0, none⟩ 1 1 [.int .i64 (l1 : Int), .int .i64 (u1 : Int), .int .i64 (l2 : Int), .int .i64 (u2 : Int), .string z] rfl rfl (cells_news W4 [.int .i64 (l1 : Int), .int .i64 (u1 : Int), .int .i64 (l2 : Int), .int .i64 (u2 : Int), .string z] _) (fun x hx => by simp at hx; rcases hx with rfl | rfl | rfl | rfl | rfl <;> rfl) (by unfold maxLen; omega) (by omega) (by simp; omega) ?_; intro v' w6 hown6 hgrow6 _; obtain ⟨_, e1, e2, e3⟩ := HG.out w6 hgrow6; have c6 := HS0.out w6 e1 e2 e3))
        have HO6 : Hid (w6.ownsRow lo 78 5 v' (k + 1) (pvals qs (k + 1))) := by rw [HPV.out]; exact hown6
        have H6 : Hid (Below lo w2 w6) := HB4.out.trans ((((Below.refl W4.heap.size W4).alloc (Nat.le_refl _) (.cells #[.int .i64 (l1 : Int), .int .i64 (u1 : Int), .int .i64 (l2 : Int), .int .i64 (u2 : Int), .string z] 78)).drew.mono z4a).grown hgrow6 (by simp; omega) (fun g hg => (HO.out.lt g hg).1))
        clear hown6 hgrow6 c3 c4 c6 e1 e2 e3
        go_wp2
        go_roundw
        case rel => exact ⟨k + 1, qs, by omega, by go_num, HQ, HO6, H6⟩
        case measure => simp [intOf]; omega
      · have HBE := Lib.hid hB4
        have HW4 := Lib.hid hW4
        have hq : (er1 != 0) = true ∨ ((er1 != 0) = false ∧ (er2 != 0) = true) := by
          by_cases h1 : er1 = 0
          · exact .inr ⟨by simp [h1], by simp; exact fun e => he ⟨h1, e⟩⟩
          · exact .inl (by simp [h1])
        clear hsp b4 c1 b34 k4 k34 hB4 hO4 hown4 hW4 he
        rcases hq with q1 | ⟨q1, q2⟩
        all_goals
          go_wp2_with fail
          rw [show w4.alloc (.cells #[.int .i64 (l2 : Int), .int .i64 (u2 : Int)] 24) = W4 from HW4.out]
          go_ret2
          exact .inl ⟨rfl, by rw [HLO.out]; exact HBE.out⟩
    · obtain rfl : n = k := by omega
      obtain ⟨Ap, cp, rfl, hcp1, hcp2, hPC, hnew⟩ := pcells_of_own HO.out
      have hNB : ∀ b, blkOf Ap b → w2.heap.size ≤ b := by
        rintro b ⟨o, ho⟩
        rw [HLO.out]
        rcases hnew with ⟨rfl, _⟩ | ⟨g, rfl, h1, _⟩
        · cases ho
        · cases ho; exact h1
      obtain ⟨L, hL⟩ : ∃ L, (List.range n).map ps = L := ⟨_, rfl⟩
      have hLl : L.length = n := by rw [← hL]; simp
      have hLg : ∀ j, j < n → pG L j = ps j := fun j hj => by rw [← hL]; simp [pG, hj]
      have hback := back_eds (S := S) (xs := xs) (qs := ps) (by rw [HN.out]; omega) (fun e he => by have := (vErr_ok HX2.out).2.2 e he; omega) (fun j hj => (HPS.out j (by rw [HN.out] at hj; exact hj)).2)
      rw [HN.out, hL] at hback
      have hPS : PS wr.heap.size wr Ap cp L := by
        refine ⟨by omega, hcp2, ?_⟩
        rw [hLl]
        rcases hPC with h0 | ⟨b, o, h1, h2, h3⟩
        · exact .inl h0
        · exact .inr ⟨b, o, h1, h2, fun k hk i hi => by rw [h3 k hk i hi, hLg k hk]⟩
      have hfit : ∀ p ∈ L, p.fit ∧ p.t.size ≤ 100000 := by
        intro p hp
        rw [← hL] at hp
        obtain ⟨j, hj, rfl⟩ := List.mem_map.1 hp
        have hj' : j < n := List.mem_range.1 hj
        have h1 := HPS.out j hj'
        refine ⟨h1.1, ?_⟩
        have hm := eg_mem (es := xs) (k := j) (by rw [HN.out]; exact hj')
        have h2 := HX3.out _ hm
        obtain ⟨o1, e1, o2, e2, _, _, h9⟩ := h1.2
        have hz : ∀ (d : Ed), d = edM (eg xs j) → d.t = (eg xs j).x := fun d hd => by rw [hd]; rfl
        rcases h9 with ⟨q1, q2, _⟩ | ⟨_, q1, q2, _⟩ | ⟨_, _, _, q2, _⟩ | ⟨_, _, _, _, q2⟩
        · exact absurd q2.symm q1
        · exact absurd q2.symm q1
        · omega
        · have := hz _ q2.symm
          simp only at this
          rw [this]; omega
      have hB : Below w2.heap.size w2 wr := by rw [HLO.out]; exact HR.out
      have HF : Hid (PS wr.heap.size wr Ap cp L ∧ L.length = n ∧ (∀ p ∈ L, p.fit ∧ p.t.size ≤ 100000) ∧ pE S L = 0 ∧ pL S L = xs ∧ (∀ b, blkOf Ap b → w2.heap.size ≤ b) ∧ Below w2.heap.size w2 wr) := ⟨hPS, hLl, hfit, hback.1, hback.2, hNB, hB⟩
      clear hNB hnew hLl hLg hback hPS hfit hB hPC hL
      go_wp2
      go_ret2
      obtain ⟨f1, f2, f3, f4, f5, f6, f7⟩ := HF.out
      exact .inr ⟨Ap, cp, L, by rw [f2]; rfl, f1, f2, f3, f4, f5, f6, f7⟩

end Go.Proofs.YtkehgoailhpenaaGreat

/- The contract of Chain. Conditions: at most 16 changes are asked for. -/
namespace Go.Proofs.YtkehgoailhpenaaGreat
open Go.RowKit Go.Shelf Go.Maps
set_option linter.unusedVariables false

/-- Blocks from lo on, but for that of a slice. -/
def offB (lo : Nat) (v : Value) (b : Nat) : Prop := lo ≤ b ∧ v.ownBlock ≠ some b
theorem cells_two (w : World) (x y : Value) (t : TypeId) : ∀ j u, ([x, y] : List Value)[j]? = some u → (w.alloc (.cells #[x, y] t)).cell? ((⟨w.heap.size, 0, none⟩ : Addr).add j) = some u := cells_news w [x, y] t

theorem chain_keep {lo n : Nat} {w wr W : World} {o : Value} {xs : List Value} {vs : List (Int × Value)} {cs : List (List PE)} (HO : wr.ownsRow lo 47 2 o n xs) (HV : Held1 (offB lo o) wr vs cs) (HR : Below lo w wr) (hb : Below wr.heap.size wr W) (hlo : lo ≤ wr.heap.size) :
    W.ownsRow lo 47 2 o n xs ∧ Held1 (offB lo o) W vs cs ∧ Below lo w W :=
  ⟨own_same HO (fun g hg => hb.block g (HO.lt g hg).2), HV.keep hb.size (fun b _ hlt => hb.block b hlt) (fun b h _ => h), HR.trans (hb.mono hlo)⟩
theorem chain_grow {lo : Nat} {W w6 : World} {o o' : Value} {vs : List (Int × Value)} {cs : List (List PE)} {p : List PE} {u : Value} (HV : Held1 (offB lo o) W vs cs) (hu : PsG (offB lo o) W u p) (hg : W.grownBy w6 o.ownBlock) (hat : o'.ownBlock = o.ownBlock ∨ o'.ownBlock = some W.heap.size) :
    Held1 (offB lo o') w6 (vs ++ [((cs.length : Int) + 1, u)]) (cs ++ [p]) :=
  (HV.snoc hu).keep hg.size (fun b hb hlt => hg.block b hlt (fun e => hb.2 e.symm)) (fun b hb hlt => ⟨hb.1, fun e => by
    rcases hat with h | h
    · exact hb.2 (h ▸ e)
    · rw [h] at e; simp at e; omega⟩)

set_option maxRecDepth 100000 in
set_option maxHeartbeats 8000000 in
theorem chain_any (a : Option Addr) (cap : Nat) (ls : List Int) (most : Nat) (w : World) (h : Sli .i64 w a cap ls) (hi : ∀ n ∈ ls, -9223372036854775808 ≤ n ∧ n ≤ 9223372036854775807) (hm : most ≤ 16) :
    Calls Tryz.prog 6 #[.slice a ls.length cap, .int .i64 (most : Int)] w fun e w' => ∃ S cs vs v, e = .returned (.tuple #[.string S, v]) ∧ S.size ≤ 96 ∧ Whl (sb S) ∧ cs.length ≤ most ∧ Fits S cs ∧ w'.ownsRow w.heap.size 47 2 v cs.length (cv vs) ∧ Held1 (offB w.heap.size v) w' vs cs ∧ Below w.heap.size w w' := by
  obtain ⟨i5, hi5, jy0, jy1, jy2⟩ := info_parts infoCh
  have cP := part_any a cap ls 0 12 w h (by omega) (by omega)
  have hPA : ∀ (i : Nat) W, i < 16 → Below w.heap.size w W → Calls Tryz.prog 30 #[.slice a ls.length cap, .int .i64 (12 + 10 * (i : Int)), .int .i64 16] W fun e w' => W = w' ∧ ∃ a' n' c', e = .returned (.slice a' n' c') ∧ SlI W.heap.size W a' n' ∧ n' ≤ c' ∧ c' ≤ 9223372036854775807 := fun i W hi' hW => by
    have := part_any a cap ls (12 + 10 * i) 16 W (h.below hW) (by omega) (by omega)
    rw [show ((12 + 10 * i : Nat) : Int) = 12 + 10 * (i : Int) by omega] at this
    refine this.mono ?_
    rintro e w' ⟨rfl, a', c', rfl, hs⟩
    exact ⟨rfl, a', _, c', rfl, SlI.of hs (fun n hn => hi n (List.mem_of_mem_drop (List.mem_of_mem_take hn))), hs.le, hs.mx⟩
  have hi2 : ∀ n ∈ (ls.drop 0).take 12, -9223372036854775808 ≤ n ∧ n ≤ 9223372036854775807 := fun n hn => hi n (List.mem_of_mem_drop (List.mem_of_mem_take hn))
  obtain ⟨L, hL⟩ : ∃ l, (ls.drop 0).take 12 = l := ⟨_, rfl⟩
  obtain ⟨N, hN⟩ : ∃ l, ls.length = l := ⟨_, rfl⟩
  have hNm : N ≤ 9223372036854775807 := by have := h.le; have := h.mx; omega
  obtain ⟨lo, hlo⟩ : ∃ l, w.heap.size = l := ⟨_, rfl⟩
  rw [hL] at cP hi2
  rw [hN] at cP hPA ⊢
  rw [hlo] at hPA ⊢
  have C1 := Lib.hid cP; have HPA := Lib.hid hPA; have HLO := Lib.hid hlo
  have HI2 := Lib.hid hi2
  clear h hi hi2 hL hN cP hPA hlo
  go_enter Tryz.func6, Tryz.ntmps6
  go_wp2_with fail
  refine C1.out.mono ?_
  rintro e w0 ⟨rfl, a1, c1, rfl, hs⟩
  have C2 := Lib.hid (rtext_any a1 c1 L w hs HI2.out)
  clear hs
  go_wp2_with fail
  refine C2.out.mono ?_
  rintro e w1 ⟨S, rfl, hSl, hSw, b1⟩
  rw [HLO.out] at b1
  have HB := Lib.hid b1; have HW := Lib.hid hSw
  clear b1 hSw
  go_wp2_with fail
  go_loopw [7, 8, 9] (fun s o q wr => ∃ (cs : List (List PE)) (vs : List (Int × Value)) (z : ByteArray) (i : Nat), s = .string z ∧ q = .int .i64 (i : Int) ∧ i ≤ most ∧ z.size ≤ 4096 ∧ Hid (cs.length = i) ∧ Hid (Fits S cs) ∧ Hid (endT S cs = z) ∧ Hid (wr.ownsRow lo 47 2 o i (cv vs)) ∧ Hid (Held1 (offB lo o) wr vs cs) ∧ Hid (Below lo w wr)) (fun _ _ q _ => most - (intOf q).toNat)
  case atStart => exact ⟨[], [], S, 0, rfl, rfl, by omega, by omega, Lib.hid rfl, Lib.hid trivial, Lib.hid rfl, Lib.hid (World.ownsRow_nil _ _ _ _), Lib.hid ⟨rfl, fun k hk => by simp at hk⟩, HB⟩
  case round =>
    obtain ⟨cs, vs, z, i, rfl, rfl, hcl, hz, HC, HF, HE, HO, HV, HR⟩ := hrel
    have hlr : lo ≤ wr.heap.size := by have := HR.out.size; have := HLO.out; omega
    have m1 : IntKind.i64.wrap (10 * (i : Int)) = 10 * (i : Int) := by simp [IntKind.wrap, IntKind.signed, IntKind.bits]; omega
    have m2 : IntKind.i64.wrap (12 + 10 * (i : Int)) = 12 + 10 * (i : Int) := by simp [IntKind.wrap, IntKind.signed, IntKind.bits]; omega
    have m3 : IntKind.i64.wrap ((i : Int) + 1) = (i : Int) + 1 := by simp [IntKind.wrap, IntKind.signed, IntKind.bits]; omega
    have HEND : Hid (∀ W, Below wr.heap.size wr W → ∃ S' cs' vs' v', (Ending.returned (.tuple #[.string S, u8]) = .returned (.tuple #[.string S', v'])) ∧ S'.size ≤ 96 ∧ Whl (sb S') ∧ cs'.length ≤ most ∧ Fits S' cs' ∧ W.ownsRow lo 47 2 v' cs'.length (cv vs') ∧ Held1 (offB lo v') W vs' cs' ∧ Below lo w W) := fun W hW => by
      obtain ⟨k1, k2, k3⟩ := chain_keep HO.out HV.out HR.out hW hlr
      exact ⟨S, cs, vs, u8, rfl, hSl, HW.out, by rw [HC.out]; exact hcl, HF.out, by rw [HC.out]; exact k1, k2, k3⟩
    by_cases hgo : i < most ∧ 12 + 10 * i < N
    · have g1 : (i : Int) < (most : Int) := by omega
      have g2 : 12 + 10 * (i : Int) < (N : Int) := by omega
      clear hgo
      go_wp2_with fail
      refine (HPA.out i wr (by omega) HR.out).mono ?_
      rintro e w2 ⟨rfl, a2, n2, c2, rfl, hsl, h2, h3⟩
      have CE := Lib.hid (edits_any z a2 n2 c2 wr (by omega) hsl h2 h3)
      clear hsl
      go_wp2_with fail
      refine CE.out.mono ?_
      rintro e w2 ⟨xs, v2, rfl, hx1, hx2, hx3, hown2, hb2⟩
      obtain ⟨hn2, ax, cx, rfl, hX⟩ := es_of_own hown2
      have CP := Lib.hid (posg_any z ax cx xs w2 (by omega) (by omega) hx2 (fun x hx => by have := (hx3 x hx).1; omega) hX)
      have hfx := fit_of hx2 (by omega) (fun e he => by have := (hx3 e he).1; omega)
      obtain ⟨nx, hnx⟩ : ∃ n, xs.length = n := ⟨_, rfl⟩
      have HNX := Lib.hid hnx; have HX := Lib.hid hX; have HX2 := Lib.hid hx2; have HFX := Lib.hid hfx
      have B2 : Hid (Below wr.heap.size wr w2) := hb2
      rw [hnx] at hx1
      simp only [hnx] at CP
      rw [hnx]
      clear hn2 hX hx2 hx3 hfx hnx hown2 hb2 CE
      go_wp2_with fail
      refine CP.out.mono ?_
      rintro e w3 hpos
      have hb3 : Below w2.heap.size w2 w3 := by
        rcases hpos with ⟨_, h⟩ | ⟨_, _, _, _, _, _, _, _, _, _, h⟩ <;> exact h
      have CA := rapply_any z ax cx xs w3 (by omega) (by have := HNX.out; omega) HFX.out (HX.out.on hb3)
      rw [HX2.out, HNX.out] at CA
      obtain ⟨t, ht⟩ : ∃ t, apS z xs = t := ⟨_, rfl⟩
      rw [ht] at CA
      have HCA := Lib.hid CA; have HT := Lib.hid ht
      have B3 : Hid (Below wr.heap.size wr w3) := B2.out.trans (hb3.mono B2.out.size)
      clear CA ht CP
      rcases hpos with ⟨rfl, _⟩ | ⟨pa, pc, ps, rfl, hp1, hp2, hp3, hp4, hp5, hp6, _⟩
      · clear hb3
        go_wp2_with fail
        refine HCA.out.mono ?_
        rintro e w4 ⟨rfl, b4⟩
        have HQ := HEND.out w4 (B3.out.trans (b4.mono B3.out.size))
        have HQ2 := Lib.hid HQ
        clear b4 HQ
        go_wp2_with fail
        go_ret2
        exact HQ2.out
      · obtain ⟨np, hnp⟩ : ∃ n, ps.length = n := ⟨_, rfl⟩
        obtain rfl : np = nx := by rw [← hnp, hp2]
        have HP := Lib.hid (And.intro hp1 (And.intro hp3 (And.intro hp4 (And.intro hp5 hp6))))
        have HNP := Lib.hid hnp
        rw [hnp]
        clear hb3 hp1 hp2 hp3 hp4 hp5 hp6 hnp
        go_wp2_with fail
        refine HCA.out.mono ?_
        rintro e w4 ⟨rfl, b4⟩
        have B4 : Hid (Below wr.heap.size wr w4) := B3.out.trans (b4.mono B3.out.size)
        have B34 : Hid (Below w3.heap.size w3 w4) := b4
        clear b4
        by_cases hbig : 4096 < t.size
        · have hb2 : (4096 : Int) < (t.size : Int) := by omega
          have HQ2 := Lib.hid (HEND.out w4 B4.out)
          clear hbig
          go_wp2_with fail
          go_ret2
          exact HQ2.out
        · have hb2 : ¬ (4096 : Int) < (t.size : Int) := by omega
          have hz4 : lo ≤ w4.heap.size := by have := B4.out.size; omega
          obtain ⟨k1, k2, k3⟩ := chain_keep HO.out HV.out HR.out B4.out hlr
          obtain ⟨W5, hW5⟩ : ∃ W, w4.alloc (.cells #[.int .i64 ((i : Int) + 1), .slice pa np pc] 47) = W := ⟨_, rfl⟩
          have b5 : Below w4.heap.size w4 W5 := by rw [← hW5]; exact (Below.refl _ _).alloc (Nat.le_refl _) _
          have z5 : lo ≤ W5.heap.size := by have := b5.size; omega
          have HCN : Hid (∀ j y, ([.int .i64 ((i : Int) + 1), .slice pa np pc] : List Value)[j]? = some y → W5.cell? ((⟨w4.heap.size, 0, none⟩ : Addr).add j) = some y) := by rw [← hW5]; exact cells_two w4 _ _ _
          obtain ⟨j1, j2, j3⟩ := chain_keep k1 k2 k3 b5 hz4
          have hpg : PsG (offB lo u8) W5 (.slice pa np pc) ps := by
            have h1 := PsG.of (G := offB lo u8) HP.out.1 (fun _ b hb => ⟨by have := HP.out.2.2.2.2 b hb; have := B2.out.size; omega, fun e => by have := HP.out.2.2.2.2 b hb; have := B2.out.size; have := (HO.out.lt b e).2; omega⟩)
            rw [HNP.out] at h1
            have b35 : Below w3.heap.size w3 W5 := B34.out.trans (b5.mono B34.out.size)
            exact h1.keep b35.size (fun b _ hlt => b35.block b hlt) (fun _ h => h)
          have HF1 : Hid (Fit1 z ps) := by
            obtain ⟨q1, q2, q3, q4, q5⟩ := HP.out
            exact ⟨q3, by rw [q4]; exact HX2.out, by rw [q4, HT.out]; omega, by rw [HNP.out]; omega, q2⟩
          have HJ1 := Lib.hid j1; have HJ2 := Lib.hid j2; have HJ3 := Lib.hid j3; have HPG := Lib.hid hpg; have HW5 := Lib.hid hW5
          have HTT : Hid (t = apS z (pL z ps)) := by rw [HP.out.2.2.2.1]; exact HT.out.symm
          clear k1 k2 k3 b5 j1 j2 j3 hpg hW5 hbig
          go_wp2_with (at_builtin; rw [show w4.alloc (.cells #[.int .i64 ((i : Int) + 1), .slice pa np pc] 47) = W5 from HW5.out]; refine wpList_append_own_at _ rfl _ _ 25 rfl lo 47 i5 (.agg #[.int .i64 0, .slice none 0 0]) 2 32 Tryz.underlying25 hi5 jy0 jy1 jy2 rfl (by decide) u8 i (cv vs) rfl HJ1.out ⟨w4.heap.size, 0, none⟩ 1 1 [.int .i64 ((i : Int) + 1), .slice pa np pc] rfl rfl HCN.out (fun x hx => by simp at hx; rcases hx with rfl | rfl <;> rfl) (by unfold maxLen; omega) (by omega) z5 ?_; intro v' w6 hown6 hgrow6 _ hat6)
          have hh := chain_grow HJ2.out HPG.out hgrow6 hat6
          have hbl := HJ3.out.grown hgrow6 z5 (fun g hg => (HJ1.out.lt g hg).1)
          have HO6 : Hid (w6.ownsRow lo 47 2 v' (i + 1) (cv (vs ++ [((i : Int) + 1, .slice pa np pc)]))) := by rw [cv_app]; exact hown6
          have HV6 : Hid (Held1 (offB lo v') w6 (vs ++ [((i : Int) + 1, .slice pa np pc)]) (cs ++ [ps])) := by rw [HC.out] at hh; exact hh
          have HB6 := Lib.hid hbl
          have HF6 : Hid (Fits S (cs ++ [ps])) := HF.out.snoc (by rw [HE.out]; exact HF1.out)
          have HE6 : Hid (endT S (cs ++ [ps]) = t) := by rw [HTT.out, ← HE.out]; exact endT_snoc _ _ _
          clear hh hbl hown6 hgrow6 hat6
          go_wp2
          go_roundw
          case rel => exact ⟨cs ++ [ps], _, t, i + 1, rfl, by go_num, by omega, by omega, Lib.hid (by rw [List.length_append, HC.out]; rfl), HF6, HE6, HO6, HV6, HB6⟩
          case measure => simp [intOf]; omega
    · have HQ2 := Lib.hid (HEND.out wr (Below.refl _ _))
      have hways : ¬ ((i : Int) < (most : Int)) ∨ ((i : Int) < (most : Int) ∧ ¬ (12 + 10 * (i : Int) < (N : Int))) := by omega
      clear hgo
      rcases hways with g1 | ⟨g1, g2⟩
      all_goals
        go_wp2_with fail
        go_ret2
        exact HQ2.out

end Go.Proofs.YtkehgoailhpenaaGreat

/- The contract of from. It has no conditions. -/
namespace Go.Proofs.YtkehgoailhpenaaGreat
open Go.RowKit Go.Shelf Go.Maps
set_option linter.unusedVariables false

/-- The oldest version that is remembered. -/
def oldS (s : DS) : Int := s.v - s.ss.length + 1
/-- The states of a document, wherever a walk reads them. -/
theorem DocI.states {T G : Nat → Prop} {w : World} {p : Nat} {s : DS} (h : DocI T G w p s) : ∃ g cap m vs, w.cell? ⟨p, 0, none⟩ = some (.int .i64 s.v) ∧ w.cell? ⟨p, 1, none⟩ = some (.slice (some ⟨g, 0, none⟩) s.ss.length cap) ∧ w.cell? ⟨p, 2, none⟩ = some (.map (some m)) ∧ s.ss.length ≤ cap ∧ T g ∧ All2 (StOk G w) vs s.ss ∧
    ∀ V : World, V.heap[g]? = w.heap[g]? → ∀ i (hi : i < vs.length), V.cell? ⟨g, i * 2, none⟩ = some (.string (vs[i]).1) ∧ V.cell? ⟨g, i * 2 + 1, none⟩ = some (vs[i]).2 := by
  obtain ⟨g, cap, m, D, vs, h1, h2, h3, h4, h5, h6, h7⟩ := h.mem
  have hl := h3.len
  have c0 := h1.cell 0
  have c1 := h1.cell 1
  have c2 := h1.cell 2
  simp only [List.getElem?_toArray, List.getElem?_cons_zero, List.getElem?_cons_succ] at c0 c1 c2
  have hcap : vs.length ≤ cap := by
    rcases h2.2 with ⟨hv, _⟩ | ⟨g', cp, cur, hv, _, _, h1, _⟩
    · simp at hv
    · simp only [Value.slice.injEq] at hv; omega
  rw [hl] at c1 hcap
  refine ⟨g, cap, m, vs, c0, c1, c2, hcap, h6, h3, fun V hV i hi => ?_⟩
  have e : ∀ j, V.cell? ⟨g, j, none⟩ = w.cell? ⟨g, j, none⟩ := fun j => by simp only [World.cell?, hV]
  rw [e, e, h2.cellAt (i * 2) (by omega), h2.cellAt (i * 2 + 1) (by omega)]
  exact svals_get vs i hi

set_option maxRecDepth 100000 in
set_option maxHeartbeats 2000000 in
theorem from_any (T G : Nat → Prop) (p : Nat) (s : DS) (w : World) (h : DocI T G w p s) (x : Int) (hx1 : -9223372036854775808 ≤ x) (hx2 : x ≤ 9223372036854775807) :
    Calls Tryz.prog 58 #[.pointer (some ⟨p, 0, none⟩), .int .i64 x] w fun e w' => Below w.heap.size w w' ∧
      ((¬ (oldS s ≤ x ∧ x ≤ s.v) ∧ e = .returned (.slice none 0 0)) ∨
       ((oldS s ≤ x ∧ x ≤ s.v) ∧ ∃ (g cap : Nat) (vs : List (ByteArray × Value)) (k : Nat), (k : Int) = x - oldS s ∧ k < s.ss.length ∧ e = .returned (.slice (some ⟨g, k * 2, none⟩) (s.ss.length - k) (cap - k)) ∧ s.ss.length ≤ cap ∧ T g ∧ All2 (StOk G w) vs s.ss ∧
         ∀ V : World, V.heap[g]? = w.heap[g]? → ∀ i (hi : i < vs.length), V.cell? ⟨g, i * 2, none⟩ = some (.string (vs[i]).1) ∧ V.cell? ⟨g, i * 2 + 1, none⟩ = some (vs[i]).2)) := by
  have hv0 := h.ok.v0
  have hv1 := h.ok.v1
  have hlen := h.ok.len
  have hne : 0 < s.ss.length := List.length_pos_iff.2 h.ok.ne
  obtain ⟨g, cap, m, vs, c0, c1, c2, hcap, hTg, h3, hst⟩ := h.states
  obtain ⟨v, hv⟩ : ∃ v, s.v = v := ⟨_, rfl⟩
  obtain ⟨n, hn⟩ : ∃ n, s.ss.length = n := ⟨_, rfl⟩
  obtain ⟨o, ho⟩ : ∃ o, oldS s = o := ⟨_, rfl⟩
  have ho2 : o = v - (n : Int) + 1 := by rw [← ho, ← hv, ← hn]; rfl
  rw [hv] at c0 hv0 hv1 ⊢
  rw [hn] at c1 hcap hlen hne ⊢
  rw [ho]
  have hw1 : IntKind.i64.wrap (v - (n : Int)) = v - (n : Int) := by simp [IntKind.wrap, IntKind.signed, IntKind.bits]; omega
  have hw2 : IntKind.i64.wrap (v - (n : Int) + 1) = o := by rw [ho2]; simp [IntKind.wrap, IntKind.signed, IntKind.bits]; omega
  have H3 := Lib.hid h3; have HST := Lib.hid hst; have HO := Lib.hid ho2
  have ho3 : -1000 ≤ o ∧ o ≤ 1099511627777 := by omega
  clear h h3 hst hv hn ho ho2 c2
  by_cases h1 : x < o
  · have hN : ¬ (o ≤ x ∧ x ≤ v) := by omega
    have HN := Lib.hid hN
    clear hN
    go_enter Tryz.func58, Tryz.ntmps58
    go_wp2_with fail
    go_quiet (fail)
    go_wp2
    go_ret
    exact ⟨below_drewN (Below.refl _ _) _, .inl ⟨HN.out, rfl⟩⟩
  · by_cases h2 : v < x
    · have hN : ¬ (o ≤ x ∧ x ≤ v) := by omega
      have HN := Lib.hid hN
      clear hN
      go_enter Tryz.func58, Tryz.ntmps58
      go_wp2_with fail
      go_quiet (fail)
      go_wp2
      go_ret
      exact ⟨below_drewN (Below.refl _ _) _, .inl ⟨HN.out, rfl⟩⟩
    · obtain ⟨k, hk⟩ : ∃ k : Nat, x - o = (k : Int) := ⟨(x - o).toNat, by omega⟩
      have hkn : k < n := by have := HO.out; omega
      have HN : Hid (o ≤ x ∧ x ≤ v) := ⟨by omega, by omega⟩
      have hkw : IntKind.i64.wrap (x - o) = (k : Int) := by rw [hk]; simp [IntKind.wrap, IntKind.signed, IntKind.bits]; omega
      have hk1 : (k : Int) ≤ (n : Int) := by omega
      have HK := Lib.hid hk
      clear hk
      go_enter Tryz.func58, Tryz.ntmps58
      go_wp2_with fail
      go_quiet (fail)
      go_wp2
      go_ret
      exact ⟨below_drewN (Below.refl _ _) _, .inr ⟨HN.out, g, cap, vs, k, HK.out.symm, hkn, rfl, hcap, hTg, H3.out, HST.out⟩⟩

end Go.Proofs.YtkehgoailhpenaaGreat

/- The contract of Since where no composition has an error. Conditions: as SncOk says. -/
namespace Go.Proofs.YtkehgoailhpenaaGreat
open Go.RowKit Go.Shelf Go.Maps
set_option linter.unusedVariables false

/-- The compositions go through, and end at r. -/
def SncOk (t : ByteArray) : List Er → List (List Er) → List Er → Prop
  | x, [], r => x = r
  | x, y :: l, r => cmE t x y = 0 ∧ (apS t x).size ≤ 1000000 ∧ (apS (apS t x) y).size ≤ 1000000 ∧ (∀ e ∈ cmS t x y, e.Fit) ∧ (cmS t x y).length ≤ 64 ∧ SncOk t (cmS t x y) l r
/-- The edits of the versions behind the k-th state. -/
def nexts (s : DS) (k : Nat) : List (List Er) := ((s.ss.drop k).take (s.ss.length - k - 1)).map Prod.snd
theorem nexts_len {s : DS} {k : Nat} (hk : k < s.ss.length) : (nexts s k).length = s.ss.length - k - 1 := by
  unfold nexts
  rw [List.length_map, List.length_take, List.length_drop]
  omega
theorem nexts_at {s : DS} {k i : Nat} (hk : k < s.ss.length) (hi : i < (nexts s k).length) : (nexts s k)[i]? = (s.ss[k + i]?).map Prod.snd := by
  rw [nexts_len hk] at hi
  unfold nexts
  rw [List.getElem?_map, List.getElem?_take, if_pos (by omega), List.getElem?_drop]
theorem nexts_get {s : DS} {k i : Nat} (hk : k < s.ss.length) (hi : i < (nexts s k).length) : (nexts s k)[i] = (s.ss[k + i]'(by rw [nexts_len hk] at hi; omega)).2 := by
  simp [nexts]

set_option maxRecDepth 100000 in
set_option maxHeartbeats 4000000 in
theorem since_any (T G : Nat → Prop) (p : Nat) (s : DS) (w : World) (h : DocI T G w p s) (x : Int) (hx1 : -9223372036854775808 ≤ x) (hx2 : x ≤ 9223372036854775807) (hin : oldS s ≤ x ∧ x ≤ s.v) (k : Nat) (hkx : (k : Int) = x - oldS s) (hk : k < s.ss.length) (R : List Er) (hok : SncOk (s.ss[k]).1 [] (nexts s k) R) :
    Calls Tryz.prog 27 #[.pointer (some ⟨p, 0, none⟩), .int .i64 x] w (NewES w R 0) := by
  have CF := Lib.hid (from_any T G p s w h x hx1 hx2)
  have HNG : Hid (∀ i, i < (nexts s k).length → (nexts s k)[i]? = (s.ss[k + i]?).map Prod.snd) := fun i hi => nexts_at hk hi
  have hlen := h.ok.len
  have hets := h.ok.eds
  obtain ⟨t, ht⟩ : ∃ t, (s.ss[k]).1 = t := ⟨_, rfl⟩
  rw [ht] at hok
  have htz : t.size ≤ 4096 := by rw [← ht]; exact h.ok.text _ (List.getElem_mem _)
  have hTl := h.lt
  have hGl := h.glt
  obtain ⟨n, hn⟩ : ∃ n, s.ss.length = n := ⟨_, rfl⟩
  have hnl := nexts_len hk
  have HET := Lib.hid hets; have HTX := Lib.hid ht; have HTL := Lib.hid hTl; have HGL := Lib.hid hGl; have HIN := Lib.hid hin; have HNL := Lib.hid hnl; have HNN := Lib.hid hn
  obtain ⟨L, hL⟩ : ∃ l, nexts s k = l := ⟨_, rfl⟩
  have HL := Lib.hid hL
  rw [hL] at hok
  have HOK := Lib.hid hok
  have HKX := Lib.hid hkx
  have HK := Lib.hid hk
  have hk' : k < n := by omega
  have hn17 : n ≤ 17 := by omega
  clear hok hL hnl hets hTl hGl hin ht hkx h hn hlen
  go_enter Tryz.func27, Tryz.ntmps27
  go_wp2_with fail
  refine CF.out.mono ?_
  rintro e w1 ⟨b1, hw⟩
  have B1 := Lib.hid b1
  obtain ⟨g, cap, vs, k2, hk2, hk3, he, hcap, hTg, h3, hst⟩ := (hw.resolve_left (fun hh => hh.1 HIN.out)).2
  obtain rfl : k2 = k := by have := HKX.out; omega
  subst he
  have hvl := h3.len
  have hglt := HTL.out g hTg
  have hgk : ∀ V, Below w.heap.size w V → V.heap[g]? = w.heap[g]? := fun V hV => hV.block g hglt
  rw [HNN.out] at hcap ⊢
  have hvn : vs.length = n := by rw [hvl]; exact HNN.out
  have HALL : Hid (∀ i, k2 + i < n → ∃ (y : ByteArray × List Er) (nx : Value), s.ss[k2 + i]? = some y ∧ EsG G w nx y.2 ∧ ∀ V, Below w.heap.size w V → V.cell? ⟨g, k2 * 2 + i * 2, none⟩ = some (.string y.1) ∧ V.cell? ⟨g, k2 * 2 + i * 2 + 1, none⟩ = some nx) := fun i hi => by
    have h9 := h3.at_ (k2 + i) (by omega) (by omega)
    refine ⟨s.ss[k2 + i]'(by omega), (vs[k2 + i]'(by omega)).2, List.getElem?_eq_getElem _, h9.2, fun V hV => ?_⟩
    have := hst V (hgk V hV) (k2 + i) (by omega)
    rw [show (k2 + i) * 2 = k2 * 2 + i * 2 by omega, h9.1] at this
    exact this
  obtain ⟨y0, nx0, hy0, _, hc0⟩ := HALL.out 0 (by omega)
  have c0 := (hc0 w1 B1.out).1
  have ht0 : y0.1 = t := by
    have hk9 := HK.out
    rw [Nat.add_zero, List.getElem?_eq_getElem hk9] at hy0
    rw [← Option.some.inj hy0]; exact HTX.out
  rw [ht0] at c0
  simp only [Nat.zero_mul, Nat.add_zero] at c0
  obtain ⟨N, hN⟩ : ∃ N, n - k2 = N := ⟨_, rfl⟩
  obtain ⟨M, hM⟩ : ∃ M, M + 1 = N := ⟨N - 1, by omega⟩
  have hML : L.length = M := by rw [← HL.out, HNL.out, HNN.out]; omega
  obtain ⟨cp, hcp⟩ : ∃ c, cap - k2 = c := ⟨_, rfl⟩
  rw [hN, hcp]
  have hN1 : IntKind.i64.wrap ((N : Int) - 1) = (M : Int) := by simp [IntKind.wrap, IntKind.signed, IntKind.bits]; omega
  have hNn : ¬ (N : Int) = 0 := by omega
  have hN0 : (0 : Int) < (N : Int) := by omega
  have hMN : (M : Int) ≤ (cp : Int) := by omega
  have hM17 : M ≤ 17 := by omega
  have hNz : ((N : Int) == 0) = false := by simp; omega
  have HVN := Lib.hid hvn; have HMM := Lib.hid (And.intro hM hN); have HML := Lib.hid hML
  have HE0 : Hid (ES w1.heap.size w1 none 0 [] ∧ (∀ e ∈ ([] : List Er), e.Fit) ∧ ([] : List Er).length ≤ 64 ∧ SncOk t [] (L.drop 0) R) := ⟨ES.none _ _, fun e he => by simp at he, Nat.zero_le _, HOK.out⟩
  clear hw b1 hk2 hk3 h3 hst hvl hgk hvn ht0 hN hM hML hcp hc0 hy0
  go_wp2_with fail
  go_loopw [8, 29] (fun u q wr => ∃ (i : Nat) (xs : List Er) (ax : Option Addr) (cx : Nat), i ≤ M ∧ q = .int .i64 (i : Int) ∧ u = .slice ax xs.length cx ∧ Hid (ES wr.heap.size wr ax cx xs ∧ (∀ e ∈ xs, e.Fit) ∧ xs.length ≤ 64 ∧ SncOk t xs (L.drop i) R) ∧ Hid (Below w.heap.size w wr)) (fun _ q _ => M - (intOf q).toNat)
  case atStart => exact ⟨0, [], none, 0, by omega, rfl, rfl, HE0, B1.out⟩
  case round =>
    obtain ⟨i, xs, ax, cx, hi, rfl, rfl, HX, HR⟩ := hrel
    by_cases hlt : i < M
    · have hkk : (i : Int) < (M : Int) := by omega
      obtain ⟨y, nx, hy, hnx, hcl⟩ := HALL.out i (by have := HMM.out; omega)
      obtain ⟨an, cn, rfl, hEn⟩ := hnx.es
      obtain ⟨d0, d1⟩ := hcl wr HR.out
      obtain ⟨yt, ye⟩ := y
      simp only at d0 d1 hEn hnx
      obtain ⟨e1, e2, e3, e4⟩ := HX.out
      have hLi : L.drop i = ye :: L.drop (i + 1) := by
        have h8 : i < L.length := by rw [HML.out]; exact hlt
        rw [List.drop_eq_getElem_cons h8]
        congr 1
        have := HNG.out i (by rw [HL.out]; exact h8)
        rw [hy, HL.out, List.getElem?_eq_getElem h8] at this
        simpa using this
      rw [hLi] at e4
      obtain ⟨q1, q2, q3, q4, q5, q6⟩ := e4
      have hye := HET.out (yt, ye) (List.mem_of_getElem? hy)
      simp only at hye
      obtain ⟨ln, hln⟩ : ∃ n, ye.length = n := ⟨_, rfl⟩
      rw [hln] at d1
      have HC : Hid (∀ W, Below wr.heap.size wr W → Calls Tryz.prog 59 #[.string t, .slice ax xs.length cx, .slice an ln cn] W fun e w' => NewES W (cmS t xs ye) 0 e w') := fun W hW => by
        have h1 : ES W.heap.size W an cn ye := hEn.on (HR.out.trans (hW.mono HR.out.size))
        have := pcompose_any t ax an cx cn xs ye W (by omega) q2 q3 (by omega) (by omega) e2 hye.2 (e1.on hW) h1
        rw [q1, hln] at this
        exact this
      obtain ⟨X, hX⟩ : ∃ x, cmS t xs ye = x := ⟨_, rfl⟩
      rw [hX] at q4 q5 q6 HC
      have HQ : Hid ((∀ e ∈ X, e.Fit) ∧ X.length ≤ 64 ∧ SncOk t X (L.drop (i + 1)) R) := ⟨q4, q5, q6⟩
      have HBW : Hid (Below wr.heap.size wr (wr.alloc (.cells #[.string yt, .slice an ln cn] 68))) := (Below.refl _ _).alloc (Nat.le_refl _) _
      clear hy hnx hcl hEn e1 e2 e3 hLi q1 q2 q3 q4 q5 q6 hye hln hX
      go_wp2_with fail
      refine (HC.out _ HBW.out).mono ?_
      rintro e w7 ⟨a7, c7, rfl, hE7, b7⟩
      have HX7 : Hid (ES w7.heap.size w7 a7 c7 X ∧ (∀ e ∈ X, e.Fit) ∧ X.length ≤ 64 ∧ SncOk t X (L.drop (i + 1)) R) := ⟨hE7, HQ.out.1, HQ.out.2.1, HQ.out.2.2⟩
      have H7 : Hid (Below w.heap.size w w7) := HR.out.trans ((HBW.out.trans (b7.mono HBW.out.size)).mono HR.out.size)
      clear hE7 b7
      go_wp2
      go_roundw
      case rel => exact ⟨i + 1, X, a7, c7, by omega, by go_num, rfl, HX7, H7⟩
      case measure => simp [intOf]; omega
    · obtain rfl : M = i := by omega
      have hR := HX.out.2.2.2
      rw [List.drop_eq_nil_of_le (by rw [HML.out]; omega)] at hR
      have hRR : xs = R := hR
      subst hRR
      clear hR
      go_wp2_with fail
      go_ret2
      exact ⟨ax, cx, rfl, HX.out.1, HR.out⟩

end Go.Proofs.YtkehgoailhpenaaGreat

/- The example of the chapter on documents, in the words of the specification. It has no conditions. -/
namespace Go.Proofs.YtkehgoailhpenaaGreat
open Go.RowKit Go.Shelf Go.Maps
set_option linter.unusedVariables false

abbrev lvA : ByteArray := ⟨#[97, 98]⟩
abbrev lvB : ByteArray := ⟨#[97, 120, 98]⟩
abbrev lvC : ByteArray := ⟨#[97, 120, 98, 121]⟩
abbrev lvX : ByteArray := ⟨#[120]⟩
abbrev lvY : ByteArray := ⟨#[121]⟩
def lp1 : PE := ⟨0, 3, 0, 3, lvY⟩
def lp2 : PE := ⟨0, 1, 0, 1, lvX⟩
def le1 : Er := ⟨1, 1, lvX⟩
def le2 : Er := ⟨3, 3, lvY⟩
def le3 : Er := ⟨2, 2, lvY⟩
theorem lv_sbA : sb lvA = [97, 98] := by decide +kernel
theorem lv_sbB : sb lvB = [97, 120, 98] := by decide +kernel
theorem lv_posA : Pos [97, 98] 1 0 1 := ⟨⟨1, bord_of (n := 12) (by decide +kernel)⟩, by decide +kernel, by rw [show (lf [97, 98] 1).2 = 0 by decide +kernel]; exact bord_of (n := 12) (by decide +kernel)⟩
theorem lv_posB : Pos [97, 120, 98] 3 0 3 := ⟨⟨3, bord_of (n := 12) (by decide +kernel)⟩, by decide +kernel, by rw [show (lf [97, 120, 98] 3).2 = 0 by decide +kernel]; exact bord_of (n := 12) (by decide +kernel)⟩
theorem lv_ed2 : edD (sb lvA) lp2 = (⟨1, 1, lvX⟩, 0) := by
  rw [lv_sbA]
  exact edD_eq (ed_there lvX lv_posA lv_posA (Nat.le_refl _))
theorem lv_ed1 : edD (sb lvB) lp1 = (⟨3, 3, lvY⟩, 0) := by
  rw [lv_sbB]
  exact edD_eq (ed_there lvY lv_posB lv_posB (Nat.le_refl _))
theorem lv_pE2 : pE lvA [lp2] = 0 ∧ pL lvA [lp2] = [le1] := by
  have h : pE lvA [lp2] = 0 := by
    unfold pE
    rw [if_neg (by decide)]
    simp only [pE0, lv_ed2, if_true]
  refine ⟨h, ?_⟩
  unfold pL
  rw [if_pos h]
  simp only [List.map_cons, List.map_nil, lv_ed2]
  rfl
theorem lv_pE1 : pE lvB [lp1] = 0 ∧ pL lvB [lp1] = [le2] := by
  have h : pE lvB [lp1] = 0 := by
    unfold pE
    rw [if_neg (by decide)]
    simp only [pE0, lv_ed1, if_true]
  refine ⟨h, ?_⟩
  unfold pL
  rw [if_pos h]
  simp only [List.map_cons, List.map_nil, lv_ed1]
  rfl
def lvS0 : DS := newS lvA 3
def lvS1 : DS := ⟨3, [(lvA, [])], [(5, [lp1])]⟩
def lvS2 : DS := ⟨4, [(lvA, [le1]), (lvB, [])], [(5, [lp1])]⟩
def lvS3 : DS := ⟨5, [(lvA, [le1]), (lvB, [le2]), (lvC, [])], []⟩
theorem lv_r1 : rcvF lvS0 5 [lp1] = ((0, 0), lvS1) := by
  have h1 : chkE lvS0 5 [lp1].length = 0 := by decide +kernel
  have h2 : lvS0.v + 1 < 5 := by decide +kernel
  unfold rcvF
  rw [h1, if_neg (by simp), if_pos h2]
  rfl
theorem lv_apl2 : aplE lvS1 [lp2] = 0 ∧ aplS lvS1 [lp2] = lvS2 := by
  have ht : lvS1.text = lvA := by kernel_rfl
  unfold aplE aplS
  rw [ht, lv_pE2.1, lv_pE2.2, if_pos rfl]
  exact ⟨by decide +kernel, by kernel_rfl⟩
theorem lv_apl1 : aplE (dropH lvS2) [lp1] = 0 ∧ aplS (dropH lvS2) [lp1] = lvS3 := by
  have ht : (dropH lvS2).text = lvB := by kernel_rfl
  unfold aplE aplS
  rw [ht, lv_pE1.1, lv_pE1.2, if_pos rfl]
  exact ⟨by decide +kernel, by kernel_rfl⟩
theorem lv_hld : hldF 1 lvS2 = (1, lvS3) := by
  have h1 : lvS2.v + 1 ∈ lvS2.hs.map Prod.fst := by decide +kernel
  have h2 : lookH lvS2.hs (lvS2.v + 1) = [lp1] := by kernel_rfl
  simp only [hldF]
  rw [if_pos h1, h2, if_pos lv_apl1.1, lv_apl1.2]
theorem lv_r2 : rcvF lvS1 4 [lp2] = ((2, 0), lvS3) := by
  have h1 : chkE lvS1 4 [lp2].length = 0 := by decide +kernel
  have h2 : ¬ lvS1.v + 1 < 4 := by decide +kernel
  unfold rcvF
  rw [h1, if_neg (by simp), if_neg h2, lv_apl2.1, if_neg (by simp), lv_apl2.2, show lvS1.hs.length = 1 from rfl, lv_hld]
  rfl
theorem lv_r3 : rcvF lvS3 4 [lp2] = ((0, 8), lvS3) := by
  have h1 : chkE lvS3 4 [lp2].length = 8 := by decide +kernel
  unfold rcvF
  rw [h1, if_pos (by decide)]
theorem lv_snc : SncOk lvA [] (nexts lvS3 0) [le1, le3] := by
  have h0 : nexts lvS3 0 = [[le1], [le2]] := by kernel_rfl
  have h1 : cmS lvA [] [le1] = [le1] := by kernel_rfl
  have h2 : cmS lvA [le1] [le2] = [le1, le3] := by kernel_rfl
  have f1 : le1.Fit := ⟨by decide, by decide, by decide, by decide, by decide⟩
  have f3 : le3.Fit := ⟨by decide, by decide, by decide, by decide, by decide⟩
  rw [h0]
  refine ⟨by decide +kernel, by decide +kernel, by decide +kernel, ?_, by rw [h1]; decide, ?_⟩
  · rw [h1]; intro e he; simp only [List.mem_singleton] at he; subst he; exact f1
  rw [h1]
  refine ⟨by decide +kernel, by decide +kernel, by decide +kernel, ?_, by rw [h2]; decide, h2⟩
  rw [h2]
  intro e he
  simp only [List.mem_cons, List.not_mem_nil, or_false] at he
  rcases he with rfl | rfl
  · exact f1
  · exact f3

end Go.Proofs.YtkehgoailhpenaaGreat

/- The documented example holds. It has no conditions. -/
namespace Go.Proofs.YtkehgoailhpenaaGreat
open Go.RowKit Go.Shelf Go.Maps
set_option linter.unusedVariables false

/-- One edit by positions in a new block. -/
theorem ps_one (w : World) (p : PE) : PS (w.alloc (.cells p.vals.toArray 78)).heap.size (w.alloc (.cells p.vals.toArray 78)) (some ⟨w.heap.size, 0, none⟩) 1 [p] := by
  refine ⟨Nat.le_refl _, by omega, .inr ⟨w.heap.size, 0, rfl, by simp, fun k hk i hi => ?_⟩⟩
  obtain rfl : k = 0 := by simp at hk; exact hk
  rw [(Blk.new w 78 p.vals.toArray).cell]
  simp [pG]
theorem es_two (w : World) (x y : Er) : ES (w.alloc (.cells (rv [x, y]).toArray 84)).heap.size (w.alloc (.cells (rv [x, y]).toArray 84)) (some ⟨w.heap.size, 0, none⟩) 2 [x, y] := by
  refine ⟨Nat.le_refl _, by omega, (fun h => by cases h), .inr ⟨w.heap.size, 0, rfl, by simp, fun k hk i hi => ?_⟩⟩
  rw [(Blk.new w 84 (rv [x, y]).toArray).cell, List.getElem?_toArray, Nat.zero_add]
  exact rv_get [x, y] k i hk hi
theorem lp_fit (p : PE) (h : p = lp1 ∨ p = lp2) : p.fit ∧ p.t.size ≤ 100000 := by
  rcases h with rfl | rfl <;> exact ⟨⟨⟨by decide, by decide⟩, ⟨by decide, by decide⟩, ⟨by decide, by decide⟩, ⟨by decide, by decide⟩⟩, by decide⟩

/-- What lay when the example began lies as it lay. -/
structure LvO (w W : World) (T : Nat → Prop) : Prop where
  b : Below w.heap.size w W
  t : ∀ b, T b → w.heap.size ≤ b
theorem LvO.below {w W W' : World} {T : Nat → Prop} (h : LvO w W T) (hb : Below W.heap.size W W') : LvO w W' T := ⟨h.b.trans (hb.mono h.b.size), h.t⟩
theorem LvO.step {w W W' : World} {T G T' G' : Nat → Prop} (h : LvO w W T) (k : Stp T G T' G' W W') : LvO w W' T' :=
  ⟨h.b.trans (k.below h.b.size h.t), fun b hb => (k.t b hb).elim (h.t b) (fun e => by have := h.b.size; omega)⟩

set_option maxRecDepth 100000 in
set_option maxHeartbeats 4000000 in
theorem lives_any (w : World) : Calls Tryz.prog 22 #[] w fun e w' => e = .returned (.bool true) ∧ Below w.heap.size w w' := by
  have CN := Lib.hid (new_any lvA 3 w)
  have hE : newE lvA 3 = 0 := by decide +kernel
  rw [hE] at CN
  have HCR : Hid (∀ (T G : Nat → Prop) (p : Nat) (s s' : DS) (cv : Int) (q : PE) (x y : Int) (W : World) (a : Option Addr), DocI T G W p s → (cv = 5 ∨ cv = 4) → (q = lp1 ∨ q = lp2) → PS W.heap.size W a 1 [q] → rcvF s cv [q] = ((x, y), s') →
      Calls Tryz.prog 17 #[.pointer (some ⟨p, 0, none⟩), .agg #[.int .i64 cv, .slice a 1 1]] W fun e w' => e = .returned (.tuple #[.int .i64 x, .int .i64 y]) ∧ ∃ T' G', DocI T' G' w' p s' ∧ Stp T G T' G' W w') := fun T G p s s' cv q x y W a hd hc hq hp hr => by
    have := receive_any T G p s W hd cv (by rcases hc with rfl | rfl <;> decide) (by rcases hc with rfl | rfl <;> decide) a 1 [q] hp (by simp) (fun r h => by simp only [List.mem_singleton] at h; subst h; exact lp_fit r hq)
    rw [hr] at this
    exact this
  clear hE
  go_enter Tryz.func22, Tryz.ntmps22
  go_wp2_with fail
  refine CN.out.mono ?_
  rintro e w1 hw
  obtain ⟨p, rfl, hd1, b1⟩ : ∃ p, e = .returned (.tuple #[.pointer (some ⟨p, 0, none⟩), .int .i64 0]) ∧ DocI (newB w w1) (fun _ => False) w1 p lvS0 ∧ Below w.heap.size w w1 := by
    rcases hw with ⟨h, _⟩ | ⟨_, p, h1, h2, h3⟩
    · exact absurd rfl h
    · exact ⟨p, h1, h2, h3⟩
  have HL1 : Hid (LvO w w1 (newB w w1)) := ⟨b1, fun b hb => hb.1⟩
  have HD1 := Lib.hid hd1
  clear hw hd1 b1
  obtain ⟨W1, hW1⟩ : ∃ W, w1.alloc (.cells lp1.vals.toArray 78) = W := ⟨_, rfl⟩
  have k1 : Below w1.heap.size w1 W1 := by rw [← hW1]; exact (Below.refl _ _).alloc (Nat.le_refl _) _
  have C1 := HCR.out _ _ p lvS0 lvS1 5 lp1 0 0 W1 (some ⟨w1.heap.size, 0, none⟩) (HD1.out.below k1) (.inl rfl) (.inl rfl) (by rw [← hW1]; exact ps_one w1 lp1) lv_r1
  have HC1 := Lib.hid C1; have HK1 := Lib.hid k1; have HW1 : Hid (w1.alloc (.cells #[.int .i64 0, .int .i64 3, .int .i64 0, .int .i64 3, .string ⟨#[121]⟩] 78) = W1) := hW1
  clear C1 k1 hW1
  go_wp2_with fail
  rw [HW1.out]
  refine HC1.out.mono ?_
  rintro e w2 ⟨rfl, T2, G2, hd2, hs2⟩
  have HL2 : Hid (LvO w w2 T2) := (HL1.out.below HK1.out).step hs2
  have HD2 := Lib.hid hd2
  clear hd2 hs2 HC1 HW1 HK1
  obtain ⟨q, hq⟩ : ∃ q, w2.heap.size = q := ⟨_, rfl⟩
  obtain ⟨W2, hW2⟩ : ∃ W, w2.alloc (.cells lp2.vals.toArray 78) = W := ⟨_, rfl⟩
  obtain ⟨W3, hW3⟩ : ∃ W, W2.alloc (.cells #[.int .i64 4, .slice (some ⟨q, 0, none⟩) 1 1] 47) = W := ⟨_, rfl⟩
  have z2 : W2.heap.size = q + 1 := by rw [← hW2, ← hq]; simp
  have k2 : Below w2.heap.size w2 W2 := by rw [← hW2]; exact (Below.refl _ _).alloc (Nat.le_refl _) _
  have k3 : Below W2.heap.size W2 W3 := by rw [← hW3]; exact (Below.refl _ _).alloc (Nat.le_refl _) _
  have kc : Blk W3 (q + 1) 47 #[.int .i64 4, .slice (some ⟨q, 0, none⟩) 1 1] := by rw [← hW3, ← z2]; exact Blk.new _ _ _
  have hp2 : PS W2.heap.size W2 (some ⟨q, 0, none⟩) 1 [lp2] := by rw [← hW2, ← hq]; exact ps_one w2 lp2
  have k23 : Below w2.heap.size w2 W3 := k2.trans (k3.mono k2.size)
  have hp3 := hp2.on k3
  have C2 := HCR.out _ _ p lvS1 lvS3 4 lp2 2 0 W3 (some ⟨q, 0, none⟩) (HD2.out.below k23) (.inr rfl) (.inr rfl) hp3 lv_r2
  have u0 := kc.cell 0
  have u1 := kc.cell 1
  simp only [List.getElem?_toArray, List.getElem?_cons_zero, List.getElem?_cons_succ] at u0 u1
  have HC2 := Lib.hid C2; have HK23 := Lib.hid k23; have HKC := Lib.hid kc; have HP3 := Lib.hid hp3
  have HW3 : Hid ((w2.alloc (.cells #[.int .i64 0, .int .i64 1, .int .i64 0, .int .i64 1, .string ⟨#[120]⟩] 78)).alloc (.cells #[.int .i64 4, .slice (some ⟨q, 0, none⟩) 1 1] 47) = W3) := by rw [← hW3, ← hW2]; rfl
  have HTQ : Hid (∀ b, T2 b → b < q) := fun b hb => by rw [← hq]; exact HD2.out.lt b hb
  have hzq : q + 2 = W3.heap.size := by rw [← hW3]; simp [z2]
  have HZQ := Lib.hid hzq
  clear C2 k23 kc hp3 hp2 k3 k2 z2 hW3 hW2 hzq
  go_wp2_with fail
  rw [HW3.out]
  refine HC2.out.mono ?_
  rintro e w4 ⟨rfl, T4, G4, hd4, hs4⟩
  have hzz := hs4.only.size
  have hbk : ∀ b, q ≤ b → b < W3.heap.size → w4.heap[b]? = W3.heap[b]? := fun b h1 h2 => hs4.only.block b h2 (fun hT => by have := HTQ.out b hT; omega)
  have hz9 := HZQ.out
  have v0 : w4.cell? ⟨q + 1, 0, none⟩ = some (.int .i64 4) := by rw [← u0]; simp only [World.cell?, hbk (q + 1) (by omega) (by omega)]
  have v1 : w4.cell? ⟨q + 1, 1, none⟩ = some (.slice (some ⟨q, 0, none⟩) 1 1) := by rw [← u1]; simp only [World.cell?, hbk (q + 1) (by omega) (by omega)]
  have hp4 : PS w4.heap.size w4 (some ⟨q, 0, none⟩) 1 [lp2] := by
    have h1 := (PsG.of (G := fun b => b = q) HP3.out (fun _ b hb => by obtain ⟨_, hb⟩ := hb; cases hb; rfl)).keep (G' := fun b => b = q) hzz (fun b hb hlt => by subst hb; exact hbk b (Nat.le_refl _) hlt) (fun _ h => h)
    obtain ⟨a', c', e1, e2⟩ := h1.ps
    simp only [Value.slice.injEq, true_and] at e1
    obtain ⟨rfl, rfl⟩ := e1
    exact e2
  have C3 := HCR.out _ _ p lvS3 lvS3 4 lp2 0 8 w4 (some ⟨q, 0, none⟩) hd4 (.inr rfl) (.inr rfl) hp4 lv_r3
  have HC3 := Lib.hid C3
  have HL4 : Hid (LvO w w4 T4) := (HL2.out.below HK23.out).step hs4
  clear C3 hp4 hbk hzz hz9 hs4 hd4 u0 u1 HC2 HW3
  go_wp2_with fail
  refine HC3.out.mono ?_
  rintro e w5 ⟨rfl, T5, G5, hd5, hs5⟩
  have HL5 : Hid (LvO w w5 T5) := HL4.out.step hs5
  have HD5 := Lib.hid hd5
  have C4 := Lib.hid (since_any T5 G5 p lvS3 w5 hd5 3 (by decide) (by decide) (by decide +kernel) 0 (by decide +kernel) (by decide) [le1, le3] lv_snc)
  clear hd5 hs5 HC3 v0 v1
  go_wp2_with fail
  refine C4.out.mono ?_
  rintro e w6 ⟨a6, c6, rfl, hE6, b6⟩
  have HE6 := Lib.hid hE6; have B56 := Lib.hid b6
  have C5 := Lib.hid (text_any T5 G5 p lvS3 w6 (HD5.out.below b6))
  have htx : lvS3.text = ⟨#[97, 120, 98, 121]⟩ := by kernel_rfl
  rw [htx] at C5
  have HL6 : Hid (LvO w w6 T5) := HL5.out.below b6
  clear hE6 b6 htx
  go_wp2_with fail
  refine C5.out.mono ?_
  rintro e w7 ⟨rfl, b7⟩
  have B67 := Lib.hid b7
  have HL7 : Hid (LvO w w7 T5) := HL6.out.below b7
  clear b7
  obtain ⟨W8, hW8⟩ : ∃ W, w7.alloc (.cells (rv [le1, le3]).toArray 84) = W := ⟨_, rfl⟩
  have k8 : Below w7.heap.size w7 W8 := by rw [← hW8]; exact (Below.refl _ _).alloc (Nat.le_refl _) _
  have C6 := Lib.hid (same_any a6 (some ⟨w7.heap.size, 0, none⟩) c6 2 [le1, le3] W8 (by decide) ((HE6.out.on B67.out).on k8) (by rw [← hW8]; exact es_two w7 le1 le3))
  have HL8 : Hid (LvO w W8 T5) := HL7.out.below k8
  have HW8 : Hid (w7.alloc (.cells #[.int .i64 1, .int .i64 1, .string ⟨#[120]⟩, .int .i64 2, .int .i64 2, .string ⟨#[121]⟩] 84) = W8) := hW8
  clear k8 hW8
  go_wp2_with fail
  rw [HW8.out]
  refine C6.out.mono ?_
  rintro e w9 ⟨rfl, b9⟩
  have HL9 : Hid (LvO w w9 T5) := HL8.out.below b9
  clear b9
  go_wp2_with fail
  go_ret
  exact ⟨rfl, HL9.out.b⟩

end Go.Proofs.YtkehgoailhpenaaGreat

/- The contract of Spoilt. Conditions: at most 20 changes, of versions from 1 to 100 and at most five edits. -/
namespace Go.Proofs.YtkehgoailhpenaaGreat
open Go.RowKit Go.Shelf Go.Maps
set_option linter.unusedVariables false

/-- What changes hold. -/
def HeldA (G : Nat → Prop) (w : World) (vs : List (Int × Value)) (As : List (Int × List PE)) : Prop := vs.length = As.length ∧ ∀ k x, As[k]? = some x → (cG vs k).1 = x.1 ∧ PsG G w (cG vs k).2 x.2
theorem HeldA.keep {G G' : Nat → Prop} {w w' : World} {vs : List (Int × Value)} {As : List (Int × List PE)} (h : HeldA G w vs As) (hz : w.heap.size ≤ w'.heap.size) (hb : ∀ b, G b → b < w.heap.size → w'.heap[b]? = w.heap[b]?) (hg : ∀ b, G b → G' b) : HeldA G' w' vs As :=
  ⟨h.1, fun k x hk => ⟨(h.2 k x hk).1, (h.2 k x hk).2.keep hz hb hg⟩⟩
theorem HeldA.on {G : Nat → Prop} {w w' : World} {vs : List (Int × Value)} {As : List (Int × List PE)} (h : HeldA G w vs As) (hb : Below w.heap.size w w') : HeldA G w' vs As :=
  ⟨h.1, fun k x hk => ⟨(h.2 k x hk).1, (h.2 k x hk).2.keep hb.size (fun b _ hlt => hb.block b hlt) (fun _ h => h)⟩⟩
theorem HeldA.ok {G : Nat → Prop} {w : World} {vs : List (Int × Value)} {As : List (Int × List PE)} (h : HeldA G w vs As) : VOk vs := by
  intro x hx
  obtain ⟨k, hk, rfl⟩ := List.getElem_of_mem hx
  obtain ⟨_, h2⟩ := h.2 k _ (List.getElem?_eq_getElem (by have := h.1; omega))
  obtain ⟨a, cap, h1, _⟩ := h2
  have : cG vs k = vs[k] := by unfold cG; rw [List.getElem?_eq_getElem hk]; rfl
  exact ⟨a, _, cap, by rw [← this, h1]⟩
/-- One change is replaced. -/
theorem HeldA.set {G : Nat → Prop} {w : World} {vs : List (Int × Value)} {As : List (Int × List PE)} (h : HeldA G w vs As) {i : Nat} (hi : i < As.length) {x : Int} {u : Value} {ps : List PE} (hu : PsG G w u ps) : HeldA G w (vs.set i (x, u)) (As.set i (x, ps)) := by
  have hl := h.1
  refine ⟨by simp [hl], fun k y hk => ?_⟩
  by_cases e : i = k
  · subst e
    rw [List.getElem?_set_self hi] at hk
    cases hk
    have : cG (vs.set i (x, u)) i = (x, u) := by unfold cG; rw [List.getElem?_set_self (by omega)]; rfl
    rw [this]
    exact ⟨rfl, hu⟩
  · rw [List.getElem?_set_ne e] at hk
    have : cG (vs.set i (x, u)) k = cG vs k := by unfold cG; rw [List.getElem?_set_ne e]
    rw [this]
    exact h.2 k y hk
/-- Changes that a document takes or refuses. -/
def ChOk (As : List (Int × List PE)) : Prop := ∀ x ∈ As, (-9223372036854775808 ≤ x.1 ∧ x.1 ≤ 9223372036854775807) ∧ x.2.length ≤ 64 ∧ ∀ q ∈ x.2, q.fit ∧ q.t.size ≤ 100000
theorem ChOk.set {As : List (Int × List PE)} (h : ChOk As) {i : Nat} {x : Int × List PE} (hx : (-9223372036854775808 ≤ x.1 ∧ x.1 ≤ 9223372036854775807) ∧ x.2.length ≤ 64 ∧ ∀ q ∈ x.2, q.fit ∧ q.t.size ≤ 100000) : ChOk (As.set i x) := by
  intro y hy
  rcases List.mem_or_eq_of_mem_set hy with h1 | rfl
  · exact h y h1
  · exact hx
/-- Changes as they come out of an order. -/
def ChSm (As : List (Int × List PE)) : Prop := ∀ x ∈ As, (1 ≤ x.1 ∧ x.1 ≤ 100) ∧ x.2.length ≤ 5 ∧ ∀ q ∈ x.2, q.fit ∧ q.t.size ≤ 100000
theorem ChSm.ok {As : List (Int × List PE)} (h : ChSm As) : ChOk As := fun x hx => by
  obtain ⟨h1, h2, h3⟩ := h x hx
  exact ⟨by omega, by omega, h3⟩
def qPE (l u : Int) : PE := ⟨l, u, l, u, ⟨#[113]⟩⟩

theorem qPE_ok {pl pu : Int} (h1 : I64n pl) (h2 : I64n pu) : (qPE pl pu).fit ∧ (qPE pl pu).t.size ≤ 100000 := ⟨⟨h1, h2, h1, h2⟩, by show (1 : Nat) ≤ _; omega⟩
/-- One change in two new blocks. -/
theorem spoil_lit (W : World) (h pl pu : Int) (G : Nat → Prop) (hG : ∀ b, W.heap.size ≤ b → G b) : VS ((W.alloc (.cells (qPE pl pu).vals.toArray 78)).alloc (.cells #[.int .i64 h, .slice (some ⟨W.heap.size, 0, none⟩) 1 1] 47)).heap.size ((W.alloc (.cells (qPE pl pu).vals.toArray 78)).alloc (.cells #[.int .i64 h, .slice (some ⟨W.heap.size, 0, none⟩) 1 1] 47)) (some ⟨(W.alloc (.cells (qPE pl pu).vals.toArray 78)).heap.size, 0, none⟩) 1 [(h, .slice (some ⟨W.heap.size, 0, none⟩) 1 1)] ∧
    HeldA G ((W.alloc (.cells (qPE pl pu).vals.toArray 78)).alloc (.cells #[.int .i64 h, .slice (some ⟨W.heap.size, 0, none⟩) 1 1] 47)) [(h, .slice (some ⟨W.heap.size, 0, none⟩) 1 1)] [(h, [qPE pl pu])] ∧
    Below W.heap.size W ((W.alloc (.cells (qPE pl pu).vals.toArray 78)).alloc (.cells #[.int .i64 h, .slice (some ⟨W.heap.size, 0, none⟩) 1 1] 47)) := by
  obtain ⟨W1, hW1⟩ : ∃ V, W.alloc (.cells (qPE pl pu).vals.toArray 78) = V := ⟨_, rfl⟩
  obtain ⟨W2, hW2⟩ : ∃ V, W1.alloc (.cells #[.int .i64 h, .slice (some ⟨W.heap.size, 0, none⟩) 1 1] 47) = V := ⟨_, rfl⟩
  have hps : PS W1.heap.size W1 (some ⟨W.heap.size, 0, none⟩) 1 [qPE pl pu] := by rw [← hW1]; exact ps_one W (qPE pl pu)
  have b1 : Below W.heap.size W W1 := by rw [← hW1]; exact (Below.refl _ _).alloc (Nat.le_refl _) _
  have b2 : Below W1.heap.size W1 W2 := by rw [← hW2]; exact (Below.refl _ _).alloc (Nat.le_refl _) _
  have k2 : Blk W2 W1.heap.size 47 #[.int .i64 h, .slice (some ⟨W.heap.size, 0, none⟩) 1 1] := by rw [← hW2]; exact Blk.new _ _ _
  rw [hW1, hW2]
  refine ⟨⟨Nat.le_refl _, by omega, (fun h => by cases h), .inr ⟨W1.heap.size, 0, rfl, k2.lt, fun k hk => ?_⟩⟩, ⟨rfl, fun k x hk => ?_⟩, b1.trans (b2.mono b1.size)⟩
  · obtain rfl : k = 0 := by simp at hk; exact hk
    exact ⟨k2.cell 0, k2.cell 1⟩
  · cases k with
    | zero =>
      cases hk
      exact ⟨rfl, PsG.of (hps.on b2) (fun _ b hb => hG b (by obtain ⟨_, hb⟩ := hb; cases hb; exact Nat.le_refl _))⟩
    | succ k => simp at hk
theorem cv_set1 : ∀ (us : List (Int × Value)) (k : Nat) (h : k < us.length) (x : Int), (cv us).set (k * 2) (.int .i64 x) = cv (us.set k (x, (cG us k).2)) := by
  intro us
  induction us with
  | nil => intro k h; simp at h
  | cons y us ih =>
    intro k h x
    have e : cv (y :: us) = Value.int .i64 y.1 :: y.2 :: cv us := rfl
    rw [e]
    cases k with
    | zero => rfl
    | succ k =>
      have := ih k (by simpa using h) x
      rw [show (k + 1) * 2 = (k * 2) + 1 + 1 by omega, List.set_cons_succ, List.set_cons_succ, this]
      rfl
theorem cv_set2 : ∀ (us : List (Int × Value)) (k : Nat) (h : k < us.length) (u : Value), (cv us).set (k * 2 + 1) u = cv (us.set k ((cG us k).1, u)) := by
  intro us
  induction us with
  | nil => intro k h; simp at h
  | cons y us ih =>
    intro k h u
    have e : cv (y :: us) = Value.int .i64 y.1 :: y.2 :: cv us := rfl
    rw [e]
    cases k with
    | zero => rfl
    | succ k =>
      have := ih k (by simpa using h) u
      rw [show (k + 1) * 2 + 1 = (k * 2 + 1) + 1 + 1 by omega, List.set_cons_succ, List.set_cons_succ, this]
      rfl
/-- The row of changes behind a store of a version or of edits, as a slice in memory. -/
theorem spoil_row {G : Nat → Prop} {w : World} {lo g n cap : Nat} {vs : List (Int × Value)} {As : List (Int × List PE)} (h : w.ownsRow lo 47 2 (.slice (some ⟨g, 0, none⟩) n cap) n (cv vs)) (hA : HeldA G w vs As) (hn : vs.length = n) : As.length = n ∧ VS w.heap.size w (some ⟨g, 0, none⟩) cap vs := by
  obtain ⟨_, a', c', hv, hs, _⟩ := vs_of_own h
  simp only [Value.slice.injEq] at hv
  obtain ⟨rfl, _, rfl⟩ := hv
  exact ⟨by rw [← hA.1]; exact hn, hs⟩

/-- Nothing is appended: a nil slice, whatever its capacity. -/
theorem append_nil_any {P : Program} {w : World} {ops : Array Oper} {rest : List Oper} {o : Oper} {a : Act} {Q : Exit → Act → World → Prop} (hgd : o.guard = none) (s x : Operand) (t : TypeId) (ho : o.op = .call { callee := .builtin .append, args := #[s, x], argTypes := #[t, t] })
    (base : Nat) (e : TypeId) (i : TypeInfo) (size : Nat) (ht : P.underlying t = some (.slice e)) (hi : P.info? e = some i) (v : Value) (n : Nat) (xs : List Value) (hs : a.eval s = v) (hown : w.ownsRow base e size v n xs) (c : Nat) (hx : a.eval x = .slice none 0 c)
    (h : wpList P ops Q rest (a.put o.dst v) w) : wpList P ops Q (o :: rest) a w := by
  refine wpList_plain hgd fun K hK => ?_
  have hrun : (Builtin.append_ #[t, t] o.type #[v, .slice none 0 c]).run P w = .ok v w := by
    rcases hown.2 with ⟨rfl, rfl⟩ | ⟨g, cap, cur, rfl, _, _, hnc, _⟩
    · simp [Builtin.append_, run_underlying ht, sizeOf, typeInfo, hi, Builtin.lenOf, Builtin.firstCells]
    · simp [Builtin.append_, run_underlying ht, sizeOf, typeInfo, hi, Builtin.lenOf, Builtin.firstCells, hnc, storeCells]
  unfold Oper.wp
  simp [execOp, ho, resolve, invoke, builtin, hs, hx, hrun, Result.andThen]
  exact hK _ _ h
/-- One change of the copied row is another. -/
theorem spoil_fin {G G' : Nat → Prop} {w W : World} {lo B g n cap i : Nat} {vs : List (Int × Value)} {As : List (Int × List PE)} {z : Int} {u : Value} {ps : List PE} (hA : HeldA G w vs As) (hlo : w.heap.size = lo) (hB : Below lo w W) (hn : vs.length = n) (hn20 : n ≤ 20) (hi : i < n) (hrow : W.ownsRow B 47 2 (.slice (some ⟨g, 0, none⟩) n cap) n (cv (vs.set i (z, u)))) (hg : lo ≤ g) (hu : PsG G' W u ps) (hGG : ∀ b, G b → G' b) (hok : ChSm As) (hz : I64n z) (hps : ps.length ≤ 64 ∧ ∀ q ∈ ps, q.fit ∧ q.t.size ≤ 100000) :
    ∃ vs' As', Ending.returned (.slice (some ⟨g, 0, none⟩) n cap) = .returned (.slice (some ⟨g, 0, none⟩) As'.length cap) ∧ VS W.heap.size W (some ⟨g, 0, none⟩) cap vs' ∧ (∀ b, blkOf (some ⟨g, 0, none⟩) b → lo ≤ b) ∧ HeldA G' W vs' As' ∧ ChOk As' ∧ As'.length ≤ 21 ∧ Below lo w W := by
  have hl := hA.1
  obtain ⟨hq, a', c', hv, hs, _⟩ := vs_of_own hrow
  simp only [Value.slice.injEq] at hv
  obtain ⟨rfl, _, rfl⟩ := hv
  have hAW : HeldA G' W vs As := hA.keep (by have := hB.size; omega) (fun b _ hlt => hB.block b (by omega)) hGG
  refine ⟨_, As.set i (z, ps), by rw [List.length_set, ← hl, hn], hs, (fun b hb => by obtain ⟨_, hb⟩ := hb; cases hb; exact hg), hAW.set (by omega) hu, hok.ok.set ⟨hz, hps⟩, by rw [List.length_set]; omega, hB⟩

set_option maxRecDepth 100000 in
set_option maxHeartbeats 8000000 in
theorem spoilt_any (a : Option Addr) (cap : Nat) (vs : List (Int × Value)) (As : List (Int × List PE)) (x h pl pu : Int) (w : World) (hV : VS w.heap.size w a cap vs) (G : Nat → Prop) (hA : HeldA G w vs As) (hn : vs.length ≤ 20) (hok : ChSm As) (hx : I64n x) (hh : I64n h) (hp1 : I64n pl) (hp2 : I64n pu) :
    Calls Tryz.prog 9 #[.slice a vs.length cap, .int .i64 x, .int .i64 h, .agg #[.int .i64 pl, .int .i64 pu]] w fun e w' => ∃ a' c' vs' As', e = .returned (.slice a' As'.length c') ∧ VS w'.heap.size w' a' c' vs' ∧ (∀ b, blkOf a' b → w.heap.size ≤ b) ∧ HeldA (fun b => G b ∨ w.heap.size ≤ b) w' vs' As' ∧ ChOk As' ∧ As'.length ≤ 21 ∧ Below w.heap.size w w' := by
  obtain ⟨i5, hi5, jy0, jy1, jy2⟩ := info_parts infoCh
  obtain ⟨i6, hi6, jz0, jz1, jz2⟩ := info_parts infoPE
  have hvl := hV.le
  have hvm := hV.mx
  obtain ⟨n, hn'⟩ : ∃ n, vs.length = n := ⟨_, rfl⟩
  obtain ⟨lo, hlo⟩ : ∃ l, w.heap.size = l := ⟨_, rfl⟩
  have hcells := hV.cells
  have hnil := hV.nil
  rw [hn'] at hn hvl hcells ⊢
  rw [hlo] at hcells ⊢
  obtain ⟨W0, hW0⟩ : ∃ W, w.alloc (.cells #[.int .i64 pl, .int .i64 pu] 24) = W := ⟨_, rfl⟩
  have b0 : Below lo w W0 := by rw [← hW0, ← hlo]; exact (Below.refl _ _).alloc (Nat.le_refl _) _
  have k0 : Blk W0 lo 24 #[.int .i64 pl, .int .i64 pu] := by rw [← hW0, ← hlo]; exact Blk.new _ _ _
  have z0 : W0.heap.size = lo + 1 := by rw [← hW0, ← hlo]; simp
  have HPP : Hid (∀ W, Below W0.heap.size W0 W → W.cell? ⟨lo, 0, none⟩ = some (.int .i64 pl) ∧ W.cell? ⟨lo, 1, none⟩ = some (.int .i64 pu)) := fun W hW => by
    have hk := k0.same (hW.block lo (by omega))
    have c0 := hk.cell 0
    have c1 := hk.cell 1
    simp only [List.getElem?_toArray, List.getElem?_cons_zero, List.getElem?_cons_succ] at c0 c1
    exact ⟨c0, c1⟩
  have hP0 := HPP.out W0 (Below.refl _ _)
  obtain ⟨e0, e1⟩ := hP0
  obtain ⟨G', hG'⟩ : ∃ K : Nat → Prop, (fun b => G b ∨ lo ≤ b) = K := ⟨_, rfl⟩
  rw [hG']
  have hGG : ∀ b, G b ∨ lo ≤ b → G' b := fun b hb => by rw [← hG']; exact hb
  by_cases h0 : n = 0
  · subst h0
    have HLIT : Hid (∀ V, Below W0.heap.size W0 V → VS ((V.alloc (.cells (qPE pl pu).vals.toArray 78)).alloc (.cells #[.int .i64 h, .slice (some ⟨V.heap.size, 0, none⟩) 1 1] 47)).heap.size ((V.alloc (.cells (qPE pl pu).vals.toArray 78)).alloc (.cells #[.int .i64 h, .slice (some ⟨V.heap.size, 0, none⟩) 1 1] 47)) (some ⟨(V.alloc (.cells (qPE pl pu).vals.toArray 78)).heap.size, 0, none⟩) 1 [(h, .slice (some ⟨V.heap.size, 0, none⟩) 1 1)] ∧ (∀ b, blkOf (some ⟨(V.alloc (.cells (qPE pl pu).vals.toArray 78)).heap.size, 0, none⟩) b → lo ≤ b) ∧ HeldA G' ((V.alloc (.cells (qPE pl pu).vals.toArray 78)).alloc (.cells #[.int .i64 h, .slice (some ⟨V.heap.size, 0, none⟩) 1 1] 47)) [(h, .slice (some ⟨V.heap.size, 0, none⟩) 1 1)] [(h, [qPE pl pu])] ∧ ChOk [(h, [qPE pl pu])] ∧ [(h, [qPE pl pu])].length ≤ 21 ∧ Below lo w ((V.alloc (.cells (qPE pl pu).vals.toArray 78)).alloc (.cells #[.int .i64 h, .slice (some ⟨V.heap.size, 0, none⟩) 1 1] 47))) := fun V hV => by
      have hzV := hV.size
      obtain ⟨l1, l2, l3⟩ := spoil_lit V h pl pu G' (fun b hb => hGG b (.inr (by omega)))
      refine ⟨l1, (fun b hb => by obtain ⟨_, hb⟩ := hb; cases hb; simp; omega), l2, ?_, by simp, (b0.trans (hV.mono (by omega))).trans (l3.mono (by omega))⟩
      intro y hy
      simp only [List.mem_singleton] at hy
      subst hy
      exact ⟨hh, by simp, fun q hq => by simp only [List.mem_singleton] at hq; subst hq; exact qPE_ok hp1 hp2⟩
    have HLO := Lib.hid hlo
    clear hV hA hok hn' hcells hlo b0 k0 z0 hG' hGG
    subst hW0
    cases a with
    | none =>
      obtain rfl : cap = 0 := hnil rfl
      go_enter Tryz.func9, Tryz.ntmps9
      go_wp2_with (at_builtin; refine wpList_append_own_none rfl _ _ 25 rfl lo 47 i5 2 Tryz.underlying25 hi5 (.slice none 0 0) 0 [] rfl (World.ownsRow_nil _ _ _ _) rfl ?_)
      go_ret
      have HQ := HLIT.out _ (Below.refl _ _)
      simp only [World.size_alloc, show (qPE pl pu).vals.toArray = #[.int .i64 pl, .int .i64 pu, .int .i64 pl, .int .i64 pu, .string ⟨#[113]⟩] from rfl] at HQ
      refine ⟨_, 1, [(h, .slice (some ⟨w.heap.size + 1, 0, none⟩) 1 1)], [(h, [qPE pl pu])], rfl, ?_⟩
      simp only [World.size_alloc]
      exact HQ
    | some ad =>
      go_enter Tryz.func9, Tryz.ntmps9
      go_wp2_with (at_builtin; refine wpList_append_own_at _ rfl _ _ 25 rfl lo 47 i5 (.agg #[.int .i64 0, .slice none 0 0]) 2 32 Tryz.underlying25 hi5 jy0 jy1 jy2 rfl (by decide) (.slice none 0 0) 0 [] rfl (World.ownsRow_nil _ _ _ _) ad 0 cap [] rfl rfl (fun j u h => by simp at h) (fun x hx => by simp at hx) (by unfold maxLen; omega) (by omega) (by simp; have := HLO.out; omega) ?_; intro v' w6 hown6 hgrow6 hn6 hat6; obtain rfl := hn6.2 ⟨rfl, rfl⟩; have B6 := (Below.refl _ _).grown hgrow6 (Nat.le_refl _) (fun g hg => by cases hg); obtain ⟨f0, f1⟩ := HPP.out w6 B6; rw [← HLO.out] at f0 f1; clear hown6 hgrow6 hn6 hat6)
      go_ret
      have HQ := HLIT.out w6 B6
      simp only [World.size_alloc, show (qPE pl pu).vals.toArray = #[.int .i64 pl, .int .i64 pu, .int .i64 pl, .int .i64 pu, .string ⟨#[113]⟩] from rfl] at HQ
      refine ⟨_, 1, [(h, .slice (some ⟨w6.heap.size, 0, none⟩) 1 1)], [(h, [qPE pl pu])], rfl, ?_⟩
      simp only [World.size_alloc]
      exact HQ
  · obtain ⟨b, off, rfl, hb, hc⟩ := hcells.resolve_left h0
    have hnews : ∀ j u, (cv vs)[j]? = some u → W0.cell? ((⟨b, off, none⟩ : Addr).add j) = some u := vscells_at (fun k hk => by
      obtain ⟨q1, q2⟩ := hc k (by rw [← hn']; exact hk)
      exact ⟨(b0.cell (p := ⟨b, off + k * 2, none⟩) hb).trans q1, (b0.cell (p := ⟨b, off + k * 2 + 1, none⟩) hb).trans q2⟩)
    have hlen2 : (cv vs).length = n * 2 := by rw [cv_len, hn']
    have HNW := Lib.hid hnews; have HL2 := Lib.hid hlen2; have HOK := Lib.hid hA.ok; have HLO := Lib.hid hlo; have HN := Lib.hid hn'; have HA := Lib.hid hA; have HB0 := Lib.hid b0; have HZ0 := Lib.hid z0; have HSM := Lib.hid hok; have HGG := Lib.hid hGG
    have hnpos : 0 < n := by omega
    have hal : As.length = n := by rw [← hA.1]; exact hn'
    have CA1 := fun W => around_any x n W hx.1 hx.2 (by omega) (by omega)
    have CA2 := fun W => around_any h 3 W hh.1 hh.2 (by omega) (by omega)
    have HA1 := Lib.hid CA1; have HA2 := Lib.hid CA2
    have HLA := Lib.hid hal
    have HW0 := Lib.hid hW0
    clear hV hA hok hn' hcells hlo hc hnews hlen2 hnil h0 b0 k0 z0 hG' hGG hal CA1 CA2 e0 e1 hW0
    go_enter Tryz.func9, Tryz.ntmps9
    go_wp2_with (at_builtin; rw [show w.alloc (.cells #[.int .i64 pl, .int .i64 pu] 24) = W0 from HW0.out]; refine wpList_append_own_at _ rfl _ _ 25 rfl (lo + 1) 47 i5 (.agg #[.int .i64 0, .slice none 0 0]) 2 32 Tryz.underlying25 hi5 jy0 jy1 jy2 rfl (by decide) (.slice none 0 0) 0 [] rfl (World.ownsRow_nil _ _ _ _) ⟨b, off, none⟩ n cap (cv vs) rfl HL2.out HNW.out HOK.out.one (by unfold maxLen; omega) (by omega) (by have := HZ0.out; omega) ?_; intro v' w1 hown hgrow _ hat; obtain ⟨av, cv9, rfl⟩ := own_slice hown)
    rw [Nat.zero_add, List.nil_append] at hown
    have b01 : Below W0.heap.size W0 w1 := (Below.refl _ _).grown hgrow (Nat.le_refl _) (fun g hg => by cases hg)
    obtain ⟨g, hvv⟩ : ∃ g, av = some ⟨g, 0, none⟩ := by
      obtain ⟨m, hm⟩ : ∃ m, n = m + 1 := ⟨n - 1, by omega⟩
      have h1 := hown
      rw [hm] at h1
      obtain ⟨g, cp, h2⟩ := ownsRow_succ h1
      simp only [Value.slice.injEq] at h2
      exact ⟨g, h2.1⟩
    subst hvv
    have HO1 := Lib.hid hown; have HB1 : Hid (Below lo w w1) := HB0.out.trans (b01.mono (by have := HB0.out.size; have := HLO.out; omega))
    have HP1 : Hid (Below W0.heap.size W0 w1) := b01
    have HA9 : Hid (HeldA G w1 vs As) := HA.out.on (by rw [HLO.out]; exact HB1.out)
    clear hown hgrow b01 hat
    refine (HA1.out w1).mono ?_
    rintro e w' ⟨i, hi, rfl, rfl⟩
    go_wp2_with fail
    refine (HA2.out w1).mono ?_
    rintro e w' ⟨r, hr, rfl, rfl⟩
    have hi2 : (i : Int) < (n : Int) := by omega
    have hvl9 : vs.length = n := HN.out
    have hgl := (HO1.out.lt g rfl)
    obtain ⟨y, hy⟩ : ∃ y, As[i]? = some y := ⟨_, List.getElem?_eq_getElem (by rw [HLA.out]; exact hi)⟩
    obtain ⟨vi, hvi⟩ : ∃ z, (cG vs i).1 = z := ⟨_, rfl⟩
    have hyv := (HA9.out.2 i y hy).1
    have hyp := (HA9.out.2 i y hy).2
    rw [hvi] at hyv
    obtain ⟨⟨s1, s2⟩, s3, s4⟩ := HSM.out y (List.mem_of_getElem? hy)
    rw [← hyv] at s1 s2
    obtain ⟨ai, ci, ei, hps⟩ := hyp.ps
    obtain ⟨x1, x2⟩ := cv_get vs i (by omega)
    have hcl := cv_len vs
    have c1 := HO1.out.cellAt (i * 2) (by omega)
    have c2 := HO1.out.cellAt (i * 2 + 1) (by omega)
    rw [x1, hvi] at c1; rw [x2, ei] at c2
    have f1 : w1.frozen? ⟨g, i * 2, none⟩ = false := HO1.out.frozenAt _
    have f2 : w1.frozen? ⟨g, i * 2 + 1, none⟩ = false := HO1.out.frozenAt _
    have hz1 : lo ≤ w1.heap.size := by have := HB1.out.size; have := HLO.out; omega
    have hyG : ∀ W, Below lo w W → PsG G' W (.slice ai y.2.length ci) y.2 := fun W hW => by
      have h1 := (HA.out.2 i y hy).2
      rw [ei] at h1
      exact h1.keep (by have := hW.size; omega) (fun b _ hlt => hW.block b (by rw [← HLO.out]; exact hlt)) (fun b hb => HGG.out b (.inl hb))
    have HVER : Hid (∀ z W, I64n z → W.heap = (w1.setCell ⟨g, i * 2, none⟩ (.int .i64 z)).heap → Below lo w W → W.ownsRow (lo + 1) 47 2 (.slice (some ⟨g, 0, none⟩) n cv9) n ((cv vs).set (i * 2) (.int .i64 z)) → ∃ vs' As', Ending.returned (.slice (some ⟨g, 0, none⟩) n cv9) = .returned (.slice (some ⟨g, 0, none⟩) As'.length cv9) ∧ VS W.heap.size W (some ⟨g, 0, none⟩) cv9 vs' ∧ (∀ b, blkOf (some ⟨g, 0, none⟩) b → lo ≤ b) ∧ HeldA G' W vs' As' ∧ ChOk As' ∧ As'.length ≤ 21 ∧ Below lo w W) := fun z W hz _ hW hrow => by
      rw [cv_set1 vs i (by omega), ei] at hrow
      exact spoil_fin HA.out HLO.out hW hvl9 hn hi hrow (by omega) (hyG W hW) (fun b hb => HGG.out b (.inl hb)) HSM.out hz ⟨by omega, s4⟩
    have HEDS : Hid (∀ u ps W, Below lo w W → PsG G' W u ps → (ps.length ≤ 64 ∧ ∀ q ∈ ps, q.fit ∧ q.t.size ≤ 100000) → W.ownsRow (lo + 1) 47 2 (.slice (some ⟨g, 0, none⟩) n cv9) n ((cv vs).set (i * 2 + 1) u) → ∃ vs' As', Ending.returned (.slice (some ⟨g, 0, none⟩) n cv9) = .returned (.slice (some ⟨g, 0, none⟩) As'.length cv9) ∧ VS W.heap.size W (some ⟨g, 0, none⟩) cv9 vs' ∧ (∀ b, blkOf (some ⟨g, 0, none⟩) b → lo ≤ b) ∧ HeldA G' W vs' As' ∧ ChOk As' ∧ As'.length ≤ 21 ∧ Below lo w W) := fun u ps W hW hu hps hrow => by
      rw [cv_set2 vs i (by omega), hvi] at hrow
      exact spoil_fin HA.out HLO.out hW hvl9 hn hi hrow (by omega) hu (fun b hb => HGG.out b (.inl hb)) HSM.out ⟨by omega, by omega⟩ hps
    have hr3 : r = 0 ∨ r = 1 ∨ r = 2 := by omega
    have HPSi := Lib.hid (And.intro hps (And.intro s3 (And.intro s4 hyG)))
    obtain ⟨ni, hni⟩ : ∃ x, y.2.length = x := ⟨_, rfl⟩
    rw [hni] at c2
    have HNI := Lib.hid hni
    have hgl1 : lo ≤ g := by omega
    clear hr x1 x2 hcl hy hyv hyp s3 s4 ei hps hvi hni hyG hvl9
    rcases hr3 with rfl | rfl | rfl
    · obtain ⟨Q, hQ⟩ : ∃ q, h.tdiv 3 = q := ⟨_, rfl⟩
      have hQb : I64n Q ∧ IntKind.i64.wrap Q = Q := by
        have h9 : -9223372036854775808 ≤ Q ∧ Q ≤ 9223372036854775807 := by
          rw [← hQ]
          rcases Int.le_total 0 h with h0 | h0
          · rw [Int.tdiv_eq_ediv_of_nonneg h0]; have := hh.2; omega
          · have e : h.tdiv 3 = -((-h) / 3) := by rw [← Int.tdiv_eq_ediv_of_nonneg (by omega : 0 ≤ -h), Int.neg_tdiv]; omega
            rw [e]; have := hh.1; omega
        exact ⟨h9, by simp [IntKind.wrap, IntKind.signed, IntKind.bits]; omega⟩
      have hQw := hQb.2
      have HBD : Hid (∀ W, Calls Tryz.prog 34 #[.int .i64 Q, .int .i64 20] W (InBound 20 W)) := fun W => bound_any Q 20 W hQb.1.1 hQb.1.2 (by omega)
      have d1 : w1.drew.cell? ⟨g, i * 2, none⟩ = some (.int .i64 vi) := c1
      have d2 : w1.drew.frozen? ⟨g, i * 2, none⟩ = false := f1
      have HRW : Hid (∀ z, (w1.drew.setCell ⟨g, i * 2, none⟩ (.int .i64 z)).ownsRow (lo + 1) 47 2 (.slice (some ⟨g, 0, none⟩) n cv9) n ((cv vs).set (i * 2) (.int .i64 z))) := fun z => (World.ownsRow.stored (w := w1.drew) HO1.out (i * 2) (.int .i64 z)).1
      clear hQb
      go_wp2_with fail
      go_region_with (go_at_call 34; refine (HBD.out _).mono ?_; rintro e w5 ⟨kb, kb1, kb2, rfl, rfl⟩; have hwr : IntKind.i64.wrap (vi + kb) = vi + kb := (by simp [IntKind.wrap, IntKind.signed, IntKind.bits]; omega))
      all_goals
        have HQ := Lib.hid (HVER.out (vi + kb) (w1.drew.setCell ⟨g, i * 2, none⟩ (.int .i64 (vi + kb))) ⟨by omega, by omega⟩ rfl (HB1.out.drew.setCell (p := ⟨g, i * 2, none⟩) hgl1 _) (HRW.out _))
        go_wp2_with fail
        go_ret
        exact ⟨_, _, HQ.out⟩
    · have hrow := (HO1.out.stored (i * 2) (.int .i64 h)).1
      have HQ := Lib.hid (HVER.out h _ hh rfl (HB1.out.setCell (p := ⟨g, i * 2, none⟩) hgl1 _) hrow)
      clear hrow
      go_wp2_with fail
      go_ret
      exact ⟨_, _, HQ.out⟩
    · obtain ⟨ps, hpsq⟩ : ∃ q, y.2 = q := ⟨_, rfl⟩
      rw [hpsq] at HPSi HNI
      have hni5 : ni ≤ 5 := by have := HPSi.out.2.1; have := HNI.out; omega
      have hpl : (pv ps).length = ni * 5 := by rw [pv_len, HNI.out]
      have HPL := Lib.hid hpl
      have HK7 : Hid (∀ v7 w7, w7.ownsRow w1.heap.size 78 5 v7 ni (pv ps) → Below w1.heap.size w1 w7 →
          w7.cell? ⟨w.heap.size, 0, none⟩ = some (.int .i64 pl) ∧ w7.cell? ⟨w.heap.size, 1, none⟩ = some (.int .i64 pu) ∧ Hid (World.ownsRow (w7.alloc (.cells #[.int .i64 pl, .int .i64 pu, .int .i64 pl, .int .i64 pu, .string ⟨#[113]⟩] 78)) w1.heap.size 78 5 v7 ni (pv ps)) ∧ Hid (Below w1.heap.size w1 (w7.alloc (.cells #[.int .i64 pl, .int .i64 pu, .int .i64 pl, .int .i64 pu, .string ⟨#[113]⟩] 78))) ∧ w1.heap.size ≤ (w7.alloc (.cells #[.int .i64 pl, .int .i64 pu, .int .i64 pl, .int .i64 pu, .string ⟨#[113]⟩] 78)).heap.size) := fun v7 w7 h1 h2 => by
        obtain ⟨q0, q1⟩ := HPP.out w7 (HP1.out.trans (h2.mono HP1.out.size))
        rw [← HLO.out] at q0 q1
        have h3 := h2.alloc h2.size (.cells #[.int .i64 pl, .int .i64 pu, .int .i64 pl, .int .i64 pu, .string ⟨#[113]⟩] 78)
        exact ⟨q0, q1, h1.alloc _, h3, h3.size⟩
      have HK9 : Hid (∀ v7 W8 v9 w9, World.ownsRow W8 w1.heap.size 78 5 v7 ni (pv ps) → Below w1.heap.size w1 W8 → w9.ownsRow w1.heap.size 78 5 v9 (ni + 1) (pv ps ++ [.int .i64 pl, .int .i64 pu, .int .i64 pl, .int .i64 pu, .string ⟨#[113]⟩]) → W8.grownBy w9 v7.ownBlock →
          ∃ a9 c9, v9 = .slice a9 (ni + 1) c9 ∧ w9.cell? ⟨g, i * 2 + 1, none⟩ = some (.slice ai ni ci) ∧ w9.frozen? ⟨g, i * 2 + 1, none⟩ = false ∧ Hid (∃ vs' As', Ending.returned (.slice (some ⟨g, 0, none⟩) n cv9) = .returned (.slice (some ⟨g, 0, none⟩) As'.length cv9) ∧ VS (w9.setCell ⟨g, i * 2 + 1, none⟩ (.slice a9 (ni + 1) c9)).heap.size (w9.setCell ⟨g, i * 2 + 1, none⟩ (.slice a9 (ni + 1) c9)) (some ⟨g, 0, none⟩) cv9 vs' ∧ (∀ b, blkOf (some ⟨g, 0, none⟩) b → lo ≤ b) ∧ HeldA G' (w9.setCell ⟨g, i * 2 + 1, none⟩ (.slice a9 (ni + 1) c9)) vs' As' ∧ ChOk As' ∧ As'.length ≤ 21 ∧ Below lo w (w9.setCell ⟨g, i * 2 + 1, none⟩ (.slice a9 (ni + 1) c9)))) := fun v7 W8 v9 w9 h1 h2 h3 h4 => by
        have hb9 : Below w1.heap.size w1 w9 := h2.grown h4 h2.size (fun q hq => (h1.lt q hq).1)
        have hrow : w9.ownsRow (lo + 1) 47 2 (.slice (some ⟨g, 0, none⟩) n cv9) n (cv vs) := own_same HO1.out (fun q hq => hb9.block q (HO1.out.lt q hq).2)
        have e9 : pv ps ++ [.int .i64 pl, .int .i64 pu, .int .i64 pl, .int .i64 pu, .string ⟨#[113]⟩] = pv (ps ++ [qPE pl pu]) := by unfold pv; rw [List.flatMap_append]; rfl
        rw [e9] at h3
        obtain ⟨hl9, a9, c9, rfl, hP9, hb9b⟩ := ps_of_own h3
        have hl9' : (ps ++ [qPE pl pu]).length = ni + 1 := hl9.symm
        have hlw : lo ≤ w9.heap.size := by have := hb9.size; omega
        have hbW : Below lo w (w9.setCell ⟨g, i * 2 + 1, none⟩ (.slice a9 (ni + 1) c9)) := (HB1.out.trans (hb9.mono hz1)).setCell (p := ⟨g, i * 2 + 1, none⟩) hgl1 _
        have hst := (hrow.stored (i * 2 + 1) (.slice a9 (ni + 1) c9)).1
        have hgr := (hrow.stored (i * 2 + 1) (.slice a9 (ni + 1) c9)).2
        have hps9 : PsG G' (w9.setCell ⟨g, i * 2 + 1, none⟩ (.slice a9 (ni + 1) c9)) (.slice a9 (ni + 1) c9) (ps ++ [qPE pl pu]) := by
          have h5 := PsG.of (G := fun b => w1.heap.size ≤ b) hP9 (fun _ b hb => hb9b b hb)
          rw [hl9'] at h5
          exact h5.keep hgr.size (fun b hb hlt => hgr.block b hlt (fun e => by cases e; have := (HO1.out.lt g rfl).2; omega)) (fun b hb => HGG.out b (.inr (by omega)))
        refine ⟨a9, c9, by rw [hl9'], (hb9.cell (p := ⟨g, i * 2 + 1, none⟩) (HO1.out.lt g rfl).2).trans c2, hrow.frozenAt _, ?_⟩
        refine HEDS.out _ (ps ++ [qPE pl pu]) _ hbW hps9 ⟨by omega, fun q hq => ?_⟩ hst
        rcases List.mem_append.1 hq with h6 | h6
        · exact HPSi.out.2.2.1 q h6
        · simp only [List.mem_singleton] at h6; subst h6; exact qPE_ok hp1 hp2
      have HON := Lib.hid (World.ownsRow_nil w1 w1.heap.size 78 5)
      have HONE : Hid (∀ x ∈ ([.int .i64 pl, .int .i64 pu, .int .i64 pl, .int .i64 pu, .string ⟨#[113]⟩] : List Value), x.oneCell' = true) := Lib.hid (fun x hx => by simp at hx; rcases hx with rfl | rfl | rfl | rfl | rfl <;> rfl)
      clear hpsq hpl
      cases ai with
      | none =>
        have hn0 : ni = 0 := by
          rcases HPSi.out.1.cells with h9 | ⟨_, _, h9, _⟩
          · have := HNI.out; rw [← this]; exact h9
          · cases h9
        subst hn0
        have hps0 : ps = [] := List.eq_nil_of_length_eq_zero HNI.out
        subst hps0
        obtain ⟨e0, e1, HO8, HB8, z8⟩ := HK7.out (.slice none 0 0) w1 HON.out (Below.refl _ _)
        go_wp2_with (first
          | (at_builtin; refine append_nil_any rfl _ _ 45 rfl w1.heap.size 78 i6 5 Tryz.underlying45 hi6 (.slice none 0 0) 0 [] rfl HON.out ci rfl ?_)
          | (at_builtin; refine wpList_append_own_at _ rfl _ _ 45 rfl w1.heap.size 78 i6 (.agg #[.int .i64 0, .int .i64 0, .int .i64 0, .int .i64 0, .string ⟨#[]⟩]) 5 48 Tryz.underlying45 hi6 jz0 jz1 jz2 rfl (by decide) (.slice none 0 0) 0 (pv []) rfl HO8.out ⟨w1.heap.size, 0, none⟩ 1 1 [.int .i64 pl, .int .i64 pu, .int .i64 pl, .int .i64 pu, .string ⟨#[113]⟩] rfl rfl (cells_news w1 [.int .i64 pl, .int .i64 pu, .int .i64 pl, .int .i64 pu, .string ⟨#[113]⟩] _) HONE.out (by unfold maxLen; omega) (by omega) z8 ?_; intro v9 w9 hown9 hgrow9 _ _; obtain ⟨a9, c9, rfl, g1, g2, HQ⟩ := HK9.out _ _ v9 w9 HO8.out HB8.out hown9 hgrow9; clear hown9 hgrow9))
        go_ret
        exact ⟨_, _, HQ.out⟩
      | some ad =>
        have hc : ∀ j u, (pv ps)[j]? = some u → w1.cell? (ad.add j) = some u := by
          rcases HPSi.out.1.cells with h9 | ⟨b9, off9, h9, _, hc9⟩
          · intro j u hj
            have := (List.getElem?_eq_some_iff.1 hj).1
            have := HPL.out; have := HNI.out
            omega
          · cases h9
            exact pscells_at (B := 0) (cap := ci) hc9
        have HC9 := Lib.hid hc
        clear hc
        go_wp2_with (first
          | (at_builtin; refine wpList_append_own_at _ rfl _ _ 45 rfl w1.heap.size 78 i6 (.agg #[.int .i64 0, .int .i64 0, .int .i64 0, .int .i64 0, .string ⟨#[]⟩]) 5 48 Tryz.underlying45 hi6 jz0 jz1 jz2 rfl (by decide) (.slice none 0 0) 0 [] rfl HON.out ad ni ci (pv ps) rfl HPL.out HC9.out (PE_one ps) (by unfold maxLen; omega) (by omega) (Nat.le_refl _) ?_; intro v7 w7 hown7 hgrow7 _ _; rw [Nat.zero_add, List.nil_append] at hown7; have B7 := (Below.refl w1.heap.size w1).grown hgrow7 (Nat.le_refl _) (fun g hg => by cases hg); obtain ⟨e0, e1, HO8, HB8, z8⟩ := HK7.out v7 w7 hown7 B7; clear hown7 hgrow7)
          | (at_builtin; refine wpList_append_own_at _ rfl _ _ 45 rfl w1.heap.size 78 i6 (.agg #[.int .i64 0, .int .i64 0, .int .i64 0, .int .i64 0, .string ⟨#[]⟩]) 5 48 Tryz.underlying45 hi6 jz0 jz1 jz2 rfl (by decide) v7 ni (pv ps) rfl HO8.out ⟨w7.heap.size, 0, none⟩ 1 1 [.int .i64 pl, .int .i64 pu, .int .i64 pl, .int .i64 pu, .string ⟨#[113]⟩] rfl rfl (cells_news w7 [.int .i64 pl, .int .i64 pu, .int .i64 pl, .int .i64 pu, .string ⟨#[113]⟩] _) HONE.out (by unfold maxLen; omega) (by omega) z8 ?_; intro v9 w9 hown9 hgrow9 _ _; obtain ⟨a9, c9, rfl, g1, g2, HQ⟩ := HK9.out _ _ v9 w9 HO8.out HB8.out hown9 hgrow9; clear hown9 hgrow9))
        go_ret
        exact ⟨_, _, HQ.out⟩

end Go.Proofs.YtkehgoailhpenaaGreat

/- The library's contracts of slices.Sorted, maps.Keys and slices.Sort laid at this program: its own functions and types are those of the contracts. No conditions. -/
namespace Go.Proofs.YtkehgoailhpenaaGreat
open Go.RowKit Go.Shelf Go.Maps Go.Sort
def Hs.keysA_ren : Go.Shelf.Ren := ⟨fun | 7 => 51 | 10 => 69 | n => n, fun | 23 => 70 | 26 => 3 | 3 => 45 | 28 => 92 | 0 => 0 | 27 => 91 | 33 => 119 | 4 => 4 | n => n, fun | n => n⟩
theorem Hs.keysA : Go.Proofs.SlLaysZI.n7 Tryz.prog Hs.keysA_ren := {
  mixed := by kernel_rfl
  f7 := ⟨Tryz.f51.name, by decide, Tryz.func51.trans (congrArg some (by kernel_rfl))⟩
  f10 := ⟨Tryz.f69.name, by decide, Tryz.func69.trans (congrArg some (by kernel_rfl))⟩
  t0 := Tryz.underlying0
  a0 := Tryz.isAgg0
  z0 := Tryz.sizeOf0
  v0 := Tryz.zeroValue0
  t4 := Tryz.underlying4
  a4 := Tryz.isAgg4
  z4 := Tryz.sizeOf4
  v4 := Tryz.zeroValue4
  t23 := Tryz.underlying70
  a23 := Tryz.isAgg70
  z23 := Tryz.sizeOf70
  v23 := Tryz.zeroValue70
  t26 := Tryz.underlying3
  a26 := Tryz.isAgg3
  z26 := Tryz.sizeOf3
  v26 := Tryz.zeroValue3
  t27 := Tryz.underlying91
  a27 := Tryz.isAgg91
  z27 := Tryz.sizeOf91
  v27 := Tryz.zeroValue91
  t28 := Tryz.underlying92
  a28 := Tryz.isAgg92
  z28 := Tryz.sizeOf92
  v28 := Tryz.zeroValue92
  t33 := Tryz.underlying119
  a33 := Tryz.isAgg119
  z33 := Tryz.sizeOf119
  v33 := Tryz.zeroValue119 }
def Hs.sortedA_ren : Go.Shelf.Ren := ⟨fun | 6 => 50 | 8 => 67 | 9 => 68 | 11 => 84 | 13 => 86 | 12 => 85 | 23 => 105 | 24 => 106 | 14 => 96 | 15 => 97 | 16 => 98 | 17 => 99 | 18 => 100 | 19 => 101 | 20 => 102 | 21 => 103 | 22 => 104 | 25 => 113 | 26 => 114 | 27 => 115 | 28 => 116 | 29 => 117 | 30 => 118 | 31 => 121 | n => n, fun | 26 => 3 | 28 => 92 | 24 => 22 | 0 => 0 | 3 => 3 | 37 => 137 | 48 => 158 | 50 => 160 | 4 => 4 | 40 => 150 | 39 => 149 | 45 => 155 | 5 => 5 | 9 => 9 | 51 => 167 | 55 => 171 | 57 => 174 | 58 => 142 | 33 => 119 | n => n, fun | n => n⟩
theorem Hs.sortedA : Go.Proofs.SlLaysZI.n6 Tryz.prog Hs.sortedA_ren := {
  mixed := by kernel_rfl
  f6 := ⟨Tryz.f50.name, by decide, Tryz.func50.trans (congrArg some (by kernel_rfl))⟩
  f8 := ⟨Tryz.f67.name, by decide, Tryz.func67.trans (congrArg some (by kernel_rfl))⟩
  f11 := ⟨Tryz.f84.name, by decide, Tryz.func84.trans (congrArg some (by kernel_rfl))⟩
  t0 := Tryz.underlying0
  a0 := Tryz.isAgg0
  z0 := Tryz.sizeOf0
  v0 := Tryz.zeroValue0
  t24 := Tryz.underlying22
  a24 := Tryz.isAgg22
  z24 := Tryz.sizeOf22
  v24 := Tryz.zeroValue22
  t26 := Tryz.underlying3
  a26 := Tryz.isAgg3
  z26 := Tryz.sizeOf3
  v26 := Tryz.zeroValue3
  t28 := Tryz.underlying92
  a28 := Tryz.isAgg92
  z28 := Tryz.sizeOf92
  v28 := Tryz.zeroValue92
  i26 := by kernel_rfl }
def Hs.sortA_ren : Go.Shelf.Ren := ⟨fun | 5 => 68 | 8 => 86 | 7 => 85 | 19 => 105 | 20 => 106 | 10 => 96 | 11 => 97 | 12 => 98 | 13 => 99 | 14 => 100 | 15 => 101 | 16 => 102 | 17 => 103 | 18 => 104 | 30 => 113 | 31 => 114 | 32 => 115 | 33 => 116 | 34 => 117 | 35 => 118 | 40 => 121 | n => n, fun | 23 => 22 | 25 => 3 | 3 => 3 | 32 => 137 | 22 => 22 | 0 => 0 | 44 => 158 | 46 => 160 | 4 => 4 | 36 => 150 | 35 => 149 | 41 => 155 | 5 => 5 | 9 => 9 | 53 => 167 | 57 => 171 | 63 => 174 | 64 => 142 | n => n, fun | n => n⟩
theorem Hs.sortA : Go.Proofs.SlLaysM.n5 Tryz.prog Hs.sortA_ren := {
  mixed := by kernel_rfl
  f5 := ⟨Tryz.f68.name, by decide, Tryz.func68.trans (congrArg some (by kernel_rfl))⟩
  f7 := ⟨Tryz.f85.name, by decide, Tryz.func85.trans (congrArg some (by kernel_rfl))⟩
  f8 := Tryz.func86.trans (congrArg some (by kernel_rfl))
  f10 := ⟨Tryz.f96.name, by decide, Tryz.func96.trans (congrArg some (by kernel_rfl))⟩
  f11 := ⟨Tryz.f97.name, by decide, Tryz.func97.trans (congrArg some (by kernel_rfl))⟩
  f12 := ⟨Tryz.f98.name, by decide, Tryz.func98.trans (congrArg some (by kernel_rfl))⟩
  f13 := ⟨Tryz.f99.name, by decide, Tryz.func99.trans (congrArg some (by kernel_rfl))⟩
  f14 := ⟨Tryz.f100.name, by decide, Tryz.func100.trans (congrArg some (by kernel_rfl))⟩
  f15 := ⟨Tryz.f101.name, by decide, Tryz.func101.trans (congrArg some (by kernel_rfl))⟩
  f16 := ⟨Tryz.f102.name, by decide, Tryz.func102.trans (congrArg some (by kernel_rfl))⟩
  f17 := ⟨Tryz.f103.name, by decide, Tryz.func103.trans (congrArg some (by kernel_rfl))⟩
  f18 := ⟨Tryz.f104.name, by decide, Tryz.func104.trans (congrArg some (by kernel_rfl))⟩
  f19 := Tryz.func105.trans (congrArg some (by kernel_rfl))
  f20 := Tryz.func106.trans (congrArg some (by kernel_rfl))
  f30 := ⟨Tryz.f113.name, by decide, Tryz.func113.trans (congrArg some (by kernel_rfl))⟩
  f31 := Tryz.func114.trans (congrArg some (by kernel_rfl))
  f32 := Tryz.func115.trans (congrArg some (by kernel_rfl))
  f33 := ⟨Tryz.f116.name, by decide, Tryz.func116.trans (congrArg some (by kernel_rfl))⟩
  f34 := ⟨Tryz.f117.name, by decide, Tryz.func117.trans (congrArg some (by kernel_rfl))⟩
  f35 := ⟨Tryz.f118.name, by decide, Tryz.func118.trans (congrArg some (by kernel_rfl))⟩
  f40 := ⟨Tryz.f121.name, by decide, Tryz.func121.trans (congrArg some (by kernel_rfl))⟩
  t0 := Tryz.underlying0
  a0 := Tryz.isAgg0
  z0 := Tryz.sizeOf0
  v0 := Tryz.zeroValue0
  t3 := Tryz.underlying3
  a3 := Tryz.isAgg3
  z3 := Tryz.sizeOf3
  v3 := Tryz.zeroValue3
  t4 := Tryz.underlying4
  a4 := Tryz.isAgg4
  z4 := Tryz.sizeOf4
  v4 := Tryz.zeroValue4
  t5 := Tryz.underlying5
  a5 := Tryz.isAgg5
  z5 := Tryz.sizeOf5
  v5 := Tryz.zeroValue5
  t9 := Tryz.underlying9
  a9 := Tryz.isAgg9
  z9 := Tryz.sizeOf9
  v9 := Tryz.zeroValue9
  t22 := Tryz.underlying22
  a22 := Tryz.isAgg22
  z22 := Tryz.sizeOf22
  v22 := Tryz.zeroValue22
  t23 := Tryz.underlying22
  a23 := Tryz.isAgg22
  z23 := Tryz.sizeOf22
  v23 := Tryz.zeroValue22
  t25 := Tryz.underlying3
  a25 := Tryz.isAgg3
  z25 := Tryz.sizeOf3
  v25 := Tryz.zeroValue3
  t32 := Tryz.underlying137
  a32 := Tryz.isAgg137
  z32 := Tryz.sizeOf137
  v32 := Tryz.zeroValue137
  t35 := Tryz.underlying149
  a35 := Tryz.isAgg149
  z35 := Tryz.sizeOf149
  v35 := Tryz.zeroValue149
  t36 := Tryz.underlying150
  a36 := Tryz.isAgg150
  z36 := Tryz.sizeOf150
  v36 := Tryz.zeroValue150
  t41 := Tryz.underlying155
  a41 := Tryz.isAgg155
  z41 := Tryz.sizeOf155
  v41 := Tryz.zeroValue155
  t44 := Tryz.underlying158
  a44 := Tryz.isAgg158
  z44 := Tryz.sizeOf158
  v44 := Tryz.zeroValue158
  t46 := Tryz.underlying160
  a46 := Tryz.isAgg160
  z46 := Tryz.sizeOf160
  v46 := Tryz.zeroValue160
  t53 := Tryz.underlying167
  a53 := Tryz.isAgg167
  z53 := Tryz.sizeOf167
  v53 := Tryz.zeroValue167
  t57 := Tryz.underlying171
  a57 := Tryz.isAgg171
  z57 := Tryz.sizeOf171
  v57 := Tryz.zeroValue171
  t63 := Tryz.underlying174
  a63 := Tryz.isAgg174
  z63 := Tryz.sizeOf174
  v63 := Tryz.zeroValue174
  t64 := Tryz.underlying142
  a64 := Tryz.isAgg142
  z64 := Tryz.sizeOf142
  v64 := Tryz.zeroValue142 }
end Go.Proofs.YtkehgoailhpenaaGreat

/- The contract of Held. It has no conditions. -/
namespace Go.Proofs.YtkehgoailhpenaaGreat
open Go.RowKit Go.Shelf Go.Maps Go.Sort
set_option linter.unusedVariables false


/-- slices.Sort's two contracts at this dump, at the fence that asks nothing. -/
theorem Hs.sortsA (m : Nat) : AnyZI.SortsIn Tryz.prog Hs.sortedA_ren Fence.wide m :=
  ⟨fun blk off cap ss W hH hblk hsz => callsIn_wide.2 (AnyM.slices_Sort_int Hs.sortA blk off cap ss W hH hblk hsz),
   fun p cap W => callsIn_wide.2 (AnyM.slices_Sort_int_none Hs.sortA p cap W)⟩

set_option maxHeartbeats 4000000 in
theorem held_any (T G : Nat → Prop) (p : Nat) (s : DS) (w : World) (h : DocI T G w p s) :
    Calls Tryz.prog 21 #[.pointer (some ⟨p, 0, none⟩)] w fun e w' => ∃ (v : Value) (ss : List Int) (D : DataW Value), e = .returned v ∧ HeldOk G w D s.hs ∧ (∃ m, w.ownsMap Tryz.prog 3 RH m (Maps.size D) D) ∧ ss.Perm (intKeys D) ∧
      w'.ownsRow w.heap.size 3 1 v ss.length ((ss.mergeSort (fun x y => decide (x ≤ y))).map encZ) ∧ (v = .slice none 0 0 ↔ ss = []) ∧ Below w.heap.size w w' := by
  obtain ⟨g, cp, b, n', D0, _, _, _, _, c2, hown, hh, hTm, hpW⟩ := h.full
  have hl16 := h.ok.hlen
  have hsz := hh.size
  have hmax : Maps.size D0 ≤ maxLen := by unfold maxLen; omega
  have hbytes : Maps.size D0 * 8 ≤ 140737488355328 := by omega
  have HO := Lib.hid hown; have HH := Lib.hid hh
  refine (callsIn_wide (n := 6)).1 ?_
  have hbl := hown.lt
  have hseq : SeqGives Fence.wide 2 Tryz.prog 69 #[.pointer (some ⟨w.heap.size, 0, none⟩)] encZ (fun ss => ss.Perm (intKeys D0)) (Maps.size D0) (w.alloc (.cells #[.map (some b)] 70)) :=
    AnyZI.keys_gives (ρ := Hs.keysA_ren) { Hs.keysA with } Fence.wide _ trivial rfl (by omega) w.heap.size b (Maps.size D0) D0 _ (by simp) (by simp) (by
      obtain ⟨es, clock, hb, Ft, hs, hD⟩ := hown
      exact ⟨es, clock, (Below.heap_alloc _ _ b hbl).trans hb, Ft, hs, hD⟩)
  have cK : ∀ mb W, CallsIn Fence.wide 5 Tryz.prog 51 #[.map mb] W fun e w' => e = .returned (.func (.func 69) #[] #[.pointer (some ⟨W.heap.size, 0, none⟩)]) ∧ w' = W.alloc (.cells #[.map mb] 70) := fun mb W => AnyZI.keys_in Hs.keysA Fence.wide 5 trivial rfl mb W
  have cS := AnyZI.sorted_in Hs.sortedA Fence.wide 5 trivial trivial trivial trivial rfl (by omega) (Hs.sortsA _) (enters_of Tryz.func68 (by kernel_rfl) rfl) 69 #[.pointer (some ⟨w.heap.size, 0, none⟩)] trivial (enters_of Tryz.func69 (by kernel_rfl) rfl) _ _ hmax hbytes _ hseq
  change CallsIn _ _ Tryz.prog 50 _ _ _ at cS
  have hfK : Fence.wide.fn 51 := trivial
  have hfS : Fence.wide.fn 50 := trivial
  refine callsIn_of_wp Tryz.func21 rfl trivial ?_ rfl
  simp only [Tryz.ntmps21, List.size_toArray, List.length_cons, List.length_nil, Nat.reduceAdd, Nat.reduceSub, Array.replicate_succ, Array.replicate_zero, List.push_toArray, List.append_toArray, List.nil_append, List.cons_append]
  gi_wp2_with (first
    | (gi_at_call 51; refine (cK _ _).mono ?_; rintro e w' ⟨rfl, rfl⟩)
    | (gi_at_call 50; refine cS.mono ?_; rintro e w' ⟨v, ss, rfl, hS, hrow, hnil, hb⟩))
  go_ret
  exact ⟨v, ss, D0, rfl, HH.out, ⟨b, HO.out⟩, hS, ownsRow_base_a hrow (by simp), hnil, ((Below.refl _ w).alloc (Nat.le_refl _) _).trans (hb.mono (by simp))⟩

end Go.Proofs.YtkehgoailhpenaaGreat

/- What Held answers, in the words of the document's state. It has no conditions. -/
namespace Go.Proofs.YtkehgoailhpenaaGreat
open Go.RowKit Go.Shelf Go.Maps Go.Sort
set_option linter.unusedVariables false

/-- The versions of the held changes, ascending. -/
def heldL (s : DS) : List Int := (s.hs.map Prod.fst).mergeSort leI
theorem heldL_len (s : DS) : (heldL s).length = s.hs.length := by unfold heldL; rw [List.length_mergeSort, List.length_map]
theorem held_perm {G : Nat → Prop} {w : World} {D : DataW Value} {hs : List (Int × List PE)} {m : Nat} (hh : HeldOk G w D hs) (hm : w.ownsMap Tryz.prog 3 RH m (Maps.size D) D) : (hs.map Prod.fst).Perm (intKeys D) := by
  have h : CollectedI D (fun _ => false) (hs.map Prod.fst) := ⟨hh.nodup, fun x => by have := hh.keys x; unfold kI at this; rw [this]; simp⟩
  exact h.perm hm keyInt Tryz.underlying3 (fun _ => rfl)
theorem held_all (T G : Nat → Prop) (p : Nat) (s : DS) (w : World) (h : DocI T G w p s) :
    Calls Tryz.prog 21 #[.pointer (some ⟨p, 0, none⟩)] w fun e w' => ∃ (a : Option Addr) (cap : Nat), e = .returned (.slice a s.hs.length cap) ∧
      w'.ownsRow w.heap.size 3 1 (.slice a s.hs.length cap) s.hs.length ((heldL s).map encZ) ∧ Below w.heap.size w w' := by
  refine (held_any T G p s w h).mono ?_
  rintro e w' ⟨v, ss, D, rfl, hh, ⟨m, hm⟩, hp, hrow, _, hb⟩
  have h1 := held_perm hh hm
  have h2 : ss.Perm (s.hs.map Prod.fst) := hp.trans h1.symm
  have h3 : ss.mergeSort leI = heldL s := by
    refine List.Perm.eq_of_pairwise (le := fun a b => leI a b = true) ?_ ?_ ?_ ((List.mergeSort_perm ss leI).trans (h2.trans (List.mergeSort_perm (s.hs.map Prod.fst) leI).symm))
    · intro a b _ _ h1 h2
      simp only [leI, decide_eq_true_eq] at h1 h2
      omega
    · exact List.pairwise_mergeSort (fun a b c h1 h2 => by simp only [leI, decide_eq_true_eq] at *; omega) (fun a b => by simp only [leI, Bool.or_eq_true, decide_eq_true_eq]; omega) ss
    · exact List.pairwise_mergeSort (fun a b c h1 h2 => by simp only [leI, decide_eq_true_eq] at *; omega) (fun a b => by simp only [leI, Bool.or_eq_true, decide_eq_true_eq]; omega) _
  have h4 : ss.length = s.hs.length := by rw [h2.length_eq, List.length_map]
  rw [show (fun x y : Int => decide (x ≤ y)) = leI from rfl, h3, h4] at hrow
  obtain ⟨a, c, rfl⟩ := own_slice hrow
  exact ⟨a, c, rfl, hrow, hb⟩

end Go.Proofs.YtkehgoailhpenaaGreat
