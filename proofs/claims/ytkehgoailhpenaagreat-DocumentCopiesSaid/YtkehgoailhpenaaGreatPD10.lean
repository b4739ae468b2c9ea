/- Texts of one claim, put together: DPos, DPg, DCh, DSf, DHl, DHs, DHt, DKw. Each part says what it proves and under which conditions. -/
import Derived.Test.YtkehgoailhpenaaGreatPD09
import Derived.Deep.RegionHeld3
import Derived.Shelf.SlIterI.Nil
import Derived.Shelf.SortM.Plain
import Derived.Shelf.SortM.SortNone
import Derived.Ground.GgzProg
import Derived.Ground.SlgmProg
import Derived.Test.YtkehgoailhpenaaGreatProg

/- The contract of Positions. Conditions: whole characters, texts of at most 400 bytes, valid edits at boundaries. -/
namespace Go.Proofs.YtkehgoailhpenaaGreat
open Go.RowKit Go.Shelf
set_option linter.unusedVariables false

theorem pos_small3 {s : ByteArray} {i l u : Nat} (h : Pos (sb s) i l u) (hs : s.size ≤ 500) : l ≤ 1000 ∧ u ≤ 1000 ∧ I64n (l : Int) ∧ I64n (u : Int) := by
  have hi := h.lt
  rw [sb_len] at hi
  have h0 := h.2.2.unis_take
  have h1 := unis_le (((sb s).drop (lf (sb s) i).2).take (i - (lf (sb s) i).2))
  rw [List.length_take, List.length_drop, sb_len] at h1
  have h2 := (lf_le (sb s) i).2
  have h3 := h.2.1
  have a : l ≤ 1000 := by omega
  have b : u ≤ 1000 := by omega
  exact ⟨a, b, ⟨by omega, by omega⟩, ⟨by omega, by omega⟩⟩
/-- An edit by offsets, of an edit that came in. -/
def edM (e : Er) : Ed := ⟨e.f.toNat, e.t.toNat, e.x⟩
theorem infoP : (Tryz.prog.info? 78).map (fun i => (i.zero, i.size, i.bytes)) = some (some (.agg #[.int .i64 0, .int .i64 0, .int .i64 0, .int .i64 0, .string ⟨#[]⟩]), 5, 48) := by kernel_rfl
/-- Edits by positions that become these edits. -/
theorem back_eds {S : ByteArray} {xs : List Er} {qs : Nat → PE} (hl : xs.length ≤ 64) (hpos : ∀ e ∈ xs, 0 ≤ e.f ∧ 0 ≤ e.t) (h : ∀ j, j < xs.length → EdS (sb S) (qs j) (edM (eg xs j)) 0) : pE S ((List.range xs.length).map qs) = 0 ∧ pL S ((List.range xs.length).map qs) = xs := by
  have hg : ∀ j, j < xs.length → pG ((List.range xs.length).map qs) j = qs j := fun j hj => by simp [pG, hj]
  have hE : pE S ((List.range xs.length).map qs) = 0 := by
    unfold pE
    rw [if_neg (by simp; omega)]
    refine pE0_zero (fun j hj => ?_)
    have hj' : j < xs.length := by simpa using hj
    rw [hg j hj', edD_eq (h j hj')]
  refine ⟨hE, ?_⟩
  unfold pL
  rw [if_pos hE]
  refine List.ext_getElem (by simp) (fun j h1 h2 => ?_)
  have hj : j < xs.length := h2
  simp only [List.map_map, List.getElem_map, List.getElem_range, Function.comp]
  rw [edD_eq (h j hj)]
  have he : eg xs j = xs[j] := by simp [eg, List.getElem?_eq_getElem hj]
  have hp := hpos _ (eg_mem hj)
  rw [← he]
  generalize eg xs j = e at hp ⊢
  obtain ⟨f, t, x⟩ := e
  simp only at hp
  simp only [edM, Ed.er]
  congr 1 <;> omega

set_option maxRecDepth 100000 in
set_option maxHeartbeats 8000000 in
theorem positions_any (S : ByteArray) (ax : Option Addr) (cx : Nat) (xs : List Er) (w2 : World) (hSl : S.size ≤ 400) (HW : Hid (Whl (sb S))) (hx1 : xs.length ≤ 5) (hx2 : vErr (S.size : Int) xs = 0) (hx3 : ∀ x ∈ xs, x.x.size ≤ S.size + 7 ∧ Bd (sb S) x.f.toNat ∧ Bd (sb S) x.t.toNat) (hX : ES w2.heap.size w2 ax cx xs) :
    Calls Tryz.prog 32 #[.string S, .slice ax xs.length cx] w2 fun e w' => ∃ a c, ∃ ps : List PE, e = .returned (.tuple #[.slice a ps.length c, .bool true]) ∧ PS w'.heap.size w' a c ps ∧ ps.length = xs.length ∧ (∀ p ∈ ps, p.fit ∧ p.t.size ≤ 100000) ∧ pE S ps = 0 ∧ pL S ps = xs ∧ Below w2.heap.size w2 w' := by
  obtain ⟨i5, hi5, jy0, jy1, jy2⟩ := info_parts infoP
  have hok := vErr_ok hx2
  have hfx := fit_of hx2 (by omega) (fun e he => by have := (hx3 e he).1; omega)
  have hcx := hX.le
  obtain ⟨n, hn⟩ : ∃ n, xs.length = n := ⟨_, rfl⟩
  obtain ⟨bb, off, hab, hcell⟩ := hX.cells.core
  obtain ⟨lo, hlo⟩ : ∃ lo, w2.heap.size = lo := ⟨_, rfl⟩
  rw [hn] at hab hcell hcx hx1 ⊢
  rw [hlo] at hab
  have HPOS : Hid (∀ k, k < n → ∃ x y U V : Nat, (eg xs k).f = (x : Int) ∧ (eg xs k).t = (y : Int) ∧ Bord (sb S) x U ∧ Bord (sb S) y V ∧ x ≤ y ∧ y ≤ S.size) := fun k hk => by
    have hm := eg_mem (es := xs) (k := k) (by omega)
    have h1 := hok.2.2 _ hm
    obtain ⟨_, h2, h3⟩ := hx3 _ hm
    obtain ⟨U, hU⟩ := bord_of_bd HW.out (by rw [sb_len]; omega) h2
    obtain ⟨V, hV⟩ := bord_of_bd HW.out (by rw [sb_len]; omega) h3
    exact ⟨_, _, U, V, by omega, by omega, hU, hV, by omega, by omega⟩
  have HN := Lib.hid hn; have HX := Lib.hid hX; have HX2 := Lib.hid hx2; have HFX := Lib.hid hfx; have HAB := Lib.hid hab; have HC := Lib.hid hcell; have HLO := Lib.hid hlo; have HX3 := Lib.hid hx3
  have HO0 : Hid (w2.ownsRow lo 78 5 (.slice none 0 0) 0 (pvals (fun _ => ⟨0, 0, 0, 0, ⟨#[]⟩⟩) 0)) := World.ownsRow_nil _ _ _ _
  have HB0 : Hid (Below lo w2 w2) := Below.refl _ _
  clear hX hx2 hx3 hok hfx hab hcell hn hlo
  go_enter Tryz.func32, Tryz.ntmps32
  go_wp2_with fail
  go_loopw [6, 7] (fun v q wr => ∃ (k : Nat) (ps : Nat → PE), k ≤ n ∧ q = .int .i64 (k : Int) ∧ Hid (∀ j, j < k → (ps j).fit ∧ EdS (sb S) (ps j) (edM (eg xs j)) 0) ∧ Hid (wr.ownsRow lo 78 5 v k (pvals ps k)) ∧ Hid (Below lo w2 wr)) (fun _ q _ => n - (intOf q).toNat)
  case atStart => exact ⟨0, fun _ => ⟨0, 0, 0, 0, ⟨#[]⟩⟩, by omega, rfl, Lib.hid (fun j h => by omega), HO0, HB0.out⟩
  case round =>
    obtain ⟨k, ps, hk, rfl, HPS, HO, HR⟩ := hrel
    have hlr : lo ≤ wr.heap.size := by have := HR.out.size; have := HLO.out; omega
    by_cases hlt : k < n
    · have hkk : (k : Int) < (n : Int) := by omega
      obtain ⟨rfl, hbb⟩ := HAB.out.resolve_left (by omega)
      have hcw : Hid (∀ W, Below lo w2 W → W.cell? ⟨bb, off + k * 3, none⟩ = some (.int .i64 (eg xs k).f) ∧ W.cell? ⟨bb, off + k * 3 + 1, none⟩ = some (.int .i64 (eg xs k).t) ∧ W.cell? ⟨bb, off + k * 3 + 2, none⟩ = some (.string (eg xs k).x)) := fun W hW => HC.out k hlt W (hW.block bb hbb)
      obtain ⟨x, y, U, V, hx, hy, hU, hV, hxy, hys⟩ := HPOS.out k hlt
      obtain ⟨z, hz⟩ : ∃ z, (eg xs k).x = z := ⟨_, rfl⟩
      rw [hx, hy, hz] at hcw
      have hed : edM (eg xs k) = ⟨x, y, z⟩ := by unfold edM; rw [hx, hy, hz]; simp
      obtain ⟨c0, _, _⟩ := hcw.out wr HR.out
      have HBX := Lib.hid hU; have HBY := Lib.hid hV; have HED := Lib.hid hed; have HZ := Lib.hid hz
      clear hU hV hx hy hz hed
      go_wp2_with fail
      refine (rat_any S (x : Int) _ (by omega)).mono ?_
      rintro e w3 ⟨l1, u1, er, rfl, hsp, b3⟩
      obtain ⟨rfl, hpx⟩ := at_border hsp HBX.out
      obtain ⟨y1, y2, y3, y4⟩ := pos_small3 hpx (by omega)
      have HPX := Lib.hid hpx
      have hB3 : Below lo w2 w3 := HR.out.trans (b3.mono hlr)
      have z3 : lo ≤ w3.heap.size := by have := b3.size; omega
      obtain ⟨p1, hp1⟩ : ∃ p, w3.heap.size = p := ⟨_, rfl⟩
      obtain ⟨W3, hW3⟩ : ∃ W, w3.alloc (.cells #[.int .i64 (l1 : Int), .int .i64 (u1 : Int)] 24) = W := ⟨_, rfl⟩
      have k3 : Blk W3 p1 24 #[.int .i64 (l1 : Int), .int .i64 (u1 : Int)] := by rw [← hW3, ← hp1]; exact Blk.new _ _ _
      have hB3a : Below lo w2 W3 := by rw [← hW3]; exact hB3.alloc z3 _
      have s3 : W3.heap.size = p1 + 1 := by rw [← hW3, ← hp1]; simp
      obtain ⟨_, c1, _⟩ := hcw.out W3 hB3a
      have hp1w : wr.heap.size ≤ p1 := by have := b3.size; omega
      have hO3 : Below wr.heap.size wr W3 := by rw [← hW3]; exact b3.alloc b3.size _
      have HW3 := Lib.hid hW3; have HK3 := Lib.hid k3; have HB3 := Lib.hid hB3a; have HP1 := Lib.hid hp1; have HO3 := Lib.hid hO3
      clear hsp hpx b3 c0 hW3 k3 hB3 hB3a hO3
      rw [← HW3.out] at c1
      go_wp2_with fail
      rw [show w3.alloc (.cells #[.int .i64 (l1 : Int), .int .i64 (u1 : Int)] 24) = W3 from HW3.out]
      refine (rat_any S (y : Int) _ (by omega)).mono ?_
      rintro e w4 ⟨l2, u2, er, rfl, hsp, b4⟩
      obtain ⟨rfl, hpy⟩ := at_border hsp HBY.out
      obtain ⟨y5, y6, y7, y8⟩ := pos_small3 hpy (by omega)
      have z4 : lo ≤ w4.heap.size := by have := b4.size; omega
      obtain ⟨p2, hp2⟩ : ∃ p, w4.heap.size = p := ⟨_, rfl⟩
      obtain ⟨W4, hW4⟩ : ∃ W, w4.alloc (.cells #[.int .i64 (l2 : Int), .int .i64 (u2 : Int)] 24) = W := ⟨_, rfl⟩
      have hp2p : p1 < p2 := by have := b4.size; omega
      have b34 : Below W3.heap.size W3 W4 := by rw [← hW4]; exact b4.alloc b4.size _
      have k4 : Blk W4 p2 24 #[.int .i64 (l2 : Int), .int .i64 (u2 : Int)] := by rw [← hW4, ← hp2]; exact Blk.new _ _ _
      have k34 : Blk W4 p1 24 #[.int .i64 (l1 : Int), .int .i64 (u1 : Int)] := HK3.out.same (b34.block p1 (by omega))
      have hB4 : Below lo w2 W4 := HB3.out.trans (b34.mono (by omega))
      have hO4 : Below wr.heap.size wr W4 := HO3.out.trans (b34.mono HO3.out.size)
      have hown4 : W4.ownsRow lo 78 5 u6 k (pvals ps k) := own_same HO.out (fun g hg => hO4.block g (HO.out.lt g hg).2)
      have z4a : lo ≤ W4.heap.size := by have := b34.size; omega
      have hed : EdS (sb S) ⟨l1, u1, l2, u2, z⟩ (edM (eg xs k)) 0 := by rw [HED.out]; exact ed_there z HPX.out hpy hxy
      obtain ⟨qs, hqs⟩ : ∃ qs : Nat → PE, (fun j => if j = k then (⟨l1, u1, l2, u2, z⟩ : PE) else ps j) = qs := ⟨_, rfl⟩
      have hqk : qs k = ⟨l1, u1, l2, u2, z⟩ := by rw [← hqs]; simp
      have hqj : ∀ j, j < k → qs j = ps j := fun j hj => by rw [← hqs]; simp; omega
      have HQ : Hid (∀ j, j < k + 1 → (qs j).fit ∧ EdS (sb S) (qs j) (edM (eg xs j)) 0) := fun j hj => by
        by_cases e : j = k
        · subst e; rw [hqk]; exact ⟨⟨y3, y4, y7, y8⟩, hed⟩
        · rw [hqj j (by omega)]; exact HPS.out j (by omega)
      have HPV : Hid (pvals qs (k + 1) = pvals ps k ++ [.int .i64 (l1 : Int), .int .i64 (u1 : Int), .int .i64 (l2 : Int), .int .i64 (u2 : Int), .string z]) := Lib.hid (by rw [pvals_succ, hqk, pvals_congr k hqj]; rfl)
      have hw24 : W4.heap[bb]? = w2.heap[bb]? := hB4.block bb hbb
      have HS0 : Hid (∀ W : World, W.heap[p1]? = W4.heap[p1]? → W.heap[p2]? = W4.heap[p2]? → W.heap[bb]? = W4.heap[bb]? → W.cell? ⟨p1, 0, none⟩ = some (.int .i64 (l1 : Int)) ∧ W.cell? ⟨p1, 1, none⟩ = some (.int .i64 (u1 : Int)) ∧ W.cell? ⟨p2, 0, none⟩ = some (.int .i64 (l2 : Int)) ∧ W.cell? ⟨p2, 1, none⟩ = some (.int .i64 (u2 : Int)) ∧ W.cell? ⟨bb, off + k * 3 + 2, none⟩ = some (.string z)) := fun W e1 e2 e3 => by
        have a1 := k34.same e1
        have a2 := k4.same e2
        have a3 := (HC.out k hlt W (e3.trans hw24)).2.2
        rw [HZ.out] at a3
        exact ⟨by simpa using a1.cell 0, by simpa using a1.cell 1, by simpa using a2.cell 0, by simpa using a2.cell 1, a3⟩
      have hbl : p1 < W4.heap.size ∧ p2 < W4.heap.size ∧ bb < W4.heap.size := ⟨k34.lt, k4.lt, by omega⟩
      have hob : ∀ g, u6.ownBlock = some g → g ≠ p1 ∧ g ≠ p2 ∧ g ≠ bb := fun g hg => by
        have h1 := HO.out.lt g hg
        have h2 := HO3.out.size
        omega
      have HS : Hid (∀ W, Below W4.heap.size W4 W → W.cell? ⟨p1, 0, none⟩ = some (.int .i64 (l1 : Int)) ∧ W.cell? ⟨p1, 1, none⟩ = some (.int .i64 (u1 : Int)) ∧ W.cell? ⟨p2, 0, none⟩ = some (.int .i64 (l2 : Int)) ∧ W.cell? ⟨p2, 1, none⟩ = some (.int .i64 (u2 : Int)) ∧ W.cell? ⟨bb, off + k * 3 + 2, none⟩ = some (.string z)) := fun W hW =>
        HS0.out W (hW.block p1 hbl.1) (hW.block p2 hbl.2.1) (hW.block bb hbl.2.2)
      have HG : Hid (∀ w6, ((W4.alloc (.cells #[.int .i64 (l1 : Int), .int .i64 (u1 : Int), .int .i64 (l2 : Int), .int .i64 (u2 : Int), .string z] 78)).drew).grownBy w6 u6.ownBlock → W4.heap.size ≤ w6.heap.size ∧ w6.heap[p1]? = W4.heap[p1]? ∧ w6.heap[p2]? = W4.heap[p2]? ∧ w6.heap[bb]? = W4.heap[bb]?) := fun w6 hg => by
        have hb := ((Below.refl W4.heap.size W4).alloc (Nat.le_refl _) (.cells #[.int .i64 (l1 : Int), .int .i64 (u1 : Int), .int .i64 (l2 : Int), .int .i64 (u2 : Int), .string z] 78)).drew
        have hz := hb.size
        have hz6 := hg.size
        refine ⟨by omega, ?_, ?_, ?_⟩
        · exact (hg.block p1 (by omega) (fun e => (hob p1 e.symm).1 rfl)).trans (hb.block p1 hbl.1)
        · exact (hg.block p2 (by omega) (fun e => (hob p2 e.symm).2.1 rfl)).trans (hb.block p2 hbl.2.1)
        · exact (hg.block bb (by omega) (fun e => (hob bb e.symm).2.2 rfl)).trans (hb.block bb hbl.2.2)
      have HW4 := Lib.hid hW4; have HB4 := Lib.hid hB4; have HP2 := Lib.hid hp2; have HOW := Lib.hid hown4
      have c3 := HS.out W4.drew (Below.refl _ _).drew
      have c4 := HS.out ((W4.alloc (.cells #[.int .i64 (l1 : Int), .int .i64 (u1 : Int), .int .i64 (l2 : Int), .int .i64 (u2 : Int), .string z] 78)).drew) ((Below.refl _ W4).alloc (Nat.le_refl _) _).drew
      clear hsp hpy b4 c1 b34 k4 k34 hB4 hO4 hown4 hed hqs hqk hqj hW4
      go_wp2_with fail
      try rw [HP2.out]
      rw [show w4.alloc (.cells #[.int .i64 (l2 : Int), .int .i64 (u2 : Int)] 24) = W4 from HW4.out]
      go_region_held3 (fun w' => w'.cell? ⟨p1, 0, none⟩ = some (.int .i64 (l1 : Int)) ∧ w'.cell? ⟨p1, 1, none⟩ = some (.int .i64 (u1 : Int)) ∧ w'.cell? ⟨p2, 0, none⟩ = some (.int .i64 (l2 : Int)) ∧ w'.cell? ⟨p2, 1, none⟩ = some (.int .i64 (u2 : Int)) ∧ w'.cell? ⟨bb, off + k * 3 + 2, none⟩ = some (.string z)) (first | exact c3 | exact c4 | exact c6)
        (first | (rw [if_pos (by rfl)]; refine wp_append_at _ _ 45 rfl lo 78 i5 (.agg #[.int .i64 0, .int .i64 0, .int .i64 0, .int .i64 0, .string ⟨#[]⟩]) 5 48 Tryz.underlying45 hi5 jy0 jy1 jy2 rfl (by decide) u6 k (pvals ps k) rfl (HOW.out.alloc _).drew ⟨_, 0, none⟩ 1 1 [.int .i64 (l1 : Int), .int .i64 (u1 : Int), .int .i64 (l2 : Int), .int .i64 (u2 : Int), .string z] rfl rfl (cells_news W4 [.int .i64 (l1 : Int), .int .i64 (u1 : Int), .int .i64 (l2 : Int), .int .i64 (u2 : Int), .string z] _) (fun x hx => by simp at hx; rcases hx with rfl | rfl | rfl | rfl | rfl <;> rfl) (by unfold maxLen; omega) (by omega) (by simp; omega) ?_; intro v' w6 hown6 hgrow6 _; obtain ⟨_, e1, e2, e3⟩ := HG.out w6 hgrow6; have c6 := HS0.out w6 e1 e2 e3))
      have HO6 : Hid (w6.ownsRow lo 78 5 v' (k + 1) (pvals qs (k + 1))) := by rw [HPV.out]; exact hown6
      have H6 : Hid (Below lo w2 w6) := HB4.out.trans ((((Below.refl W4.heap.size W4).alloc (Nat.le_refl _) (.cells #[.int .i64 (l1 : Int), .int .i64 (u1 : Int), .int .i64 (l2 : Int), .int .i64 (u2 : Int), .string z] 78)).drew.mono z4a).grown hgrow6 (by simp; omega) (fun g hg => (HO.out.lt g hg).1))
      clear hown6 hgrow6 c3 c4 c6 e1 e2 e3
      go_wp2
      go_roundw
      case rel => exact ⟨k + 1, qs, by omega, by go_num, HQ, HO6, H6⟩
      case measure => simp [intOf]; omega
    · obtain rfl : n = k := by omega
      obtain ⟨Ap, cp, rfl, hcp1, hcp2, hPC, _⟩ := pcells_of_own HO.out
      obtain ⟨L, hL⟩ : ∃ L, (List.range n).map ps = L := ⟨_, rfl⟩
      have hLl : L.length = n := by rw [← hL]; simp
      have hLg : ∀ j, j < n → pG L j = ps j := fun j hj => by rw [← hL]; simp [pG, hj]
      have hback := back_eds (S := S) (xs := xs) (qs := ps) (by rw [HN.out]; omega) (fun e he => by have := (vErr_ok HX2.out).2.2 e he; omega) (fun j hj => (HPS.out j (by rw [HN.out] at hj; exact hj)).2)
      rw [HN.out, hL] at hback
      have hPS : PS wr.heap.size wr Ap cp L := by
        refine ⟨by omega, hcp2, ?_⟩
        rw [hLl]
        rcases hPC with h0 | ⟨b, o, h1, h2, h3⟩
        · exact .inl h0
        · exact .inr ⟨b, o, h1, h2, fun k hk i hi => by rw [h3 k hk i hi, hLg k hk]⟩
      have hfit : ∀ p ∈ L, p.fit ∧ p.t.size ≤ 100000 := by
        intro p hp
        rw [← hL] at hp
        obtain ⟨j, hj, rfl⟩ := List.mem_map.1 hp
        have hj' : j < n := List.mem_range.1 hj
        have h1 := HPS.out j hj'
        refine ⟨h1.1, ?_⟩
        have hm := eg_mem (es := xs) (k := j) (by rw [HN.out]; exact hj')
        have h2 := (HX3.out _ hm).1
        obtain ⟨o1, e1, o2, e2, _, _, h9⟩ := h1.2
        have hz : ∀ (d : Ed), d = edM (eg xs j) → d.t = (eg xs j).x := fun d hd => by rw [hd]; rfl
        rcases h9 with ⟨q1, q2, _⟩ | ⟨_, q1, q2, _⟩ | ⟨_, _, _, q2, _⟩ | ⟨_, _, _, _, q2⟩
        · exact absurd q2.symm q1
        · exact absurd q2.symm q1
        · omega
        · have := hz _ q2.symm
          simp only at this
          rw [this]; omega
      have hB : Below w2.heap.size w2 wr := by rw [HLO.out]; exact HR.out
      have HF : Hid (PS wr.heap.size wr Ap cp L ∧ L.length = n ∧ (∀ p ∈ L, p.fit ∧ p.t.size ≤ 100000) ∧ pE S L = 0 ∧ pL S L = xs ∧ Below w2.heap.size w2 wr) := ⟨hPS, hLl, hfit, hback.1, hback.2, hB⟩
      clear hLl hLg hback hPS hfit hB hPC hL
      go_wp2
      go_ret2
      obtain ⟨f1, f2, f3, f4, f5, f6⟩ := HF.out
      exact ⟨Ap, cp, L, by rw [f2]; rfl, f1, f2, f3, f4, f5, f6⟩

end Go.Proofs.YtkehgoailhpenaaGreat

/- The contract of Positions, for any text: either it finds a position for each offset, or it says that there is none. Conditions: texts of at most 5000 bytes, valid edits. -/
namespace Go.Proofs.YtkehgoailhpenaaGreat
open Go.RowKit Go.Shelf
set_option linter.unusedVariables false

theorem at_small {s : ByteArray} {off : Int} {l u : Nat} {er : Int} (h : AtSpec (sb s) off l u er) (hs : s.size ≤ 5000) : l ≤ 10000 ∧ u ≤ 10000 ∧ I64n (l : Int) ∧ I64n (u : Int) := by
  rcases h with ⟨_, rfl, rfl, _⟩ | ⟨_, rfl, rfl, _⟩ | ⟨_, i, _, h⟩
  · exact ⟨by omega, by omega, ⟨by omega, by omega⟩, ⟨by omega, by omega⟩⟩
  · exact ⟨by omega, by omega, ⟨by omega, by omega⟩, ⟨by omega, by omega⟩⟩
  · have hi := h.lt
    rw [sb_len] at hi
    have h0 := h.2.2.unis_take
    have h1 := unis_le (((sb s).drop (lf (sb s) i).2).take (i - (lf (sb s) i).2))
    rw [List.length_take, List.length_drop, sb_len] at h1
    have h2 := (lf_le (sb s) i).2
    have h3 := h.2.1
    have a : l ≤ 10000 := by omega
    have b : u ≤ 10000 := by omega
    exact ⟨a, b, ⟨by omega, by omega⟩, ⟨by omega, by omega⟩⟩
theorem at_ok {s : ByteArray} {x l u : Nat} (h : AtSpec (sb s) (x : Int) l u 0) : Pos (sb s) x l u := by
  rcases h with ⟨h, _⟩ | ⟨h, _⟩ | ⟨_, i, hi, h⟩
  · omega
  · omega
  · have : x = i := by omega
    subst this; exact h

set_option maxRecDepth 100000 in
set_option maxHeartbeats 8000000 in
theorem posg_any (S : ByteArray) (ax : Option Addr) (cx : Nat) (xs : List Er) (w2 : World) (hSl : S.size ≤ 5000) (hx1 : xs.length ≤ 64) (hx2 : vErr (S.size : Int) xs = 0) (hx3 : ∀ x ∈ xs, x.x.size ≤ 100000) (hX : ES w2.heap.size w2 ax cx xs) :
    Calls Tryz.prog 32 #[.string S, .slice ax xs.length cx] w2 fun e w' => (e = .returned (.tuple #[.slice none 0 0, .bool false]) ∧ Below w2.heap.size w2 w') ∨ ∃ a c, ∃ ps : List PE, e = .returned (.tuple #[.slice a ps.length c, .bool true]) ∧ PS w'.heap.size w' a c ps ∧ ps.length = xs.length ∧ (∀ p ∈ ps, p.fit ∧ p.t.size ≤ 100000) ∧ pE S ps = 0 ∧ pL S ps = xs ∧ (∀ b, blkOf a b → w2.heap.size ≤ b) ∧ Below w2.heap.size w2 w' := by
  obtain ⟨i5, hi5, jy0, jy1, jy2⟩ := info_parts infoP
  have hok := vErr_ok hx2
  have hfx := fit_of hx2 (by omega) (fun e he => by have := hx3 e he; omega)
  have hcx := hX.le
  obtain ⟨n, hn⟩ : ∃ n, xs.length = n := ⟨_, rfl⟩
  obtain ⟨bb, off, hab, hcell⟩ := hX.cells.core
  obtain ⟨lo, hlo⟩ : ∃ lo, w2.heap.size = lo := ⟨_, rfl⟩
  rw [hn] at hab hcell hcx hx1 ⊢
  rw [hlo] at hab
  have HPOS : Hid (∀ k, k < n → ∃ x y : Nat, (eg xs k).f = (x : Int) ∧ (eg xs k).t = (y : Int) ∧ x ≤ y ∧ y ≤ S.size) := fun k hk => by
    have hm := eg_mem (es := xs) (k := k) (by omega)
    have h1 := hok.2.2 _ hm
    exact ⟨_, (eg xs k).t.toNat, by have : (eg xs k).f = ((eg xs k).f.toNat : Int) := by omega
                                    exact this, by omega, by omega, by omega⟩
  have HN := Lib.hid hn; have HX := Lib.hid hX; have HX2 := Lib.hid hx2; have HFX := Lib.hid hfx; have HAB := Lib.hid hab; have HC := Lib.hid hcell; have HLO := Lib.hid hlo; have HX3 := Lib.hid hx3
  have HO0 : Hid (w2.ownsRow lo 78 5 (.slice none 0 0) 0 (pvals (fun _ => ⟨0, 0, 0, 0, ⟨#[]⟩⟩) 0)) := World.ownsRow_nil _ _ _ _
  have HB0 : Hid (Below lo w2 w2) := Below.refl _ _
  clear hX hx2 hx3 hok hfx hab hcell hn hlo
  go_enter Tryz.func32, Tryz.ntmps32
  go_wp2_with fail
  go_loopw [6, 7] (fun v q wr => ∃ (k : Nat) (ps : Nat → PE), k ≤ n ∧ q = .int .i64 (k : Int) ∧ Hid (∀ j, j < k → (ps j).fit ∧ EdS (sb S) (ps j) (edM (eg xs j)) 0) ∧ Hid (wr.ownsRow lo 78 5 v k (pvals ps k)) ∧ Hid (Below lo w2 wr)) (fun _ q _ => n - (intOf q).toNat)
  case atStart => exact ⟨0, fun _ => ⟨0, 0, 0, 0, ⟨#[]⟩⟩, by omega, rfl, Lib.hid (fun j h => by omega), HO0, HB0.out⟩
  case round =>
    obtain ⟨k, ps, hk, rfl, HPS, HO, HR⟩ := hrel
    have hlr : lo ≤ wr.heap.size := by have := HR.out.size; have := HLO.out; omega
    by_cases hlt : k < n
    · have hkk : (k : Int) < (n : Int) := by omega
      obtain ⟨rfl, hbb⟩ := HAB.out.resolve_left (by omega)
      have hcw : Hid (∀ W, Below lo w2 W → W.cell? ⟨bb, off + k * 3, none⟩ = some (.int .i64 (eg xs k).f) ∧ W.cell? ⟨bb, off + k * 3 + 1, none⟩ = some (.int .i64 (eg xs k).t) ∧ W.cell? ⟨bb, off + k * 3 + 2, none⟩ = some (.string (eg xs k).x)) := fun W hW => HC.out k hlt W (hW.block bb hbb)
      obtain ⟨x, y, hx, hy, hxy, hys⟩ := HPOS.out k hlt
      obtain ⟨z, hz⟩ : ∃ z, (eg xs k).x = z := ⟨_, rfl⟩
      rw [hx, hy, hz] at hcw
      have hed : edM (eg xs k) = ⟨x, y, z⟩ := by unfold edM; rw [hx, hy, hz]; simp
      obtain ⟨c0, _, _⟩ := hcw.out wr HR.out
      have HED := Lib.hid hed; have HZ := Lib.hid hz
      clear hx hy hz hed
      go_wp2_with fail
      refine (rat_any S (x : Int) _ (by omega)).mono ?_
      rintro e w3 ⟨l1, u1, er1, rfl, hsp, b3⟩
      obtain ⟨y1, y2, y3, y4⟩ := at_small hsp (by omega)
      have HPX := Lib.hid hsp
      have hB3 : Below lo w2 w3 := HR.out.trans (b3.mono hlr)
      have z3 : lo ≤ w3.heap.size := by have := b3.size; omega
      obtain ⟨p1, hp1⟩ : ∃ p, w3.heap.size = p := ⟨_, rfl⟩
      obtain ⟨W3, hW3⟩ : ∃ W, w3.alloc (.cells #[.int .i64 (l1 : Int), .int .i64 (u1 : Int)] 24) = W := ⟨_, rfl⟩
      have k3 : Blk W3 p1 24 #[.int .i64 (l1 : Int), .int .i64 (u1 : Int)] := by rw [← hW3, ← hp1]; exact Blk.new _ _ _
      have hB3a : Below lo w2 W3 := by rw [← hW3]; exact hB3.alloc z3 _
      have s3 : W3.heap.size = p1 + 1 := by rw [← hW3, ← hp1]; simp
      obtain ⟨_, c1, _⟩ := hcw.out W3 hB3a
      have hp1w : wr.heap.size ≤ p1 := by have := b3.size; omega
      have hO3 : Below wr.heap.size wr W3 := by rw [← hW3]; exact b3.alloc b3.size _
      have HW3 := Lib.hid hW3; have HK3 := Lib.hid k3; have HB3 := Lib.hid hB3a; have HP1 := Lib.hid hp1; have HO3 := Lib.hid hO3
      clear hsp b3 c0 hW3 k3 hB3 hB3a hO3
      rw [← HW3.out] at c1
      go_wp2_with fail
      rw [show w3.alloc (.cells #[.int .i64 (l1 : Int), .int .i64 (u1 : Int)] 24) = W3 from HW3.out]
      refine (rat_any S (y : Int) _ (by omega)).mono ?_
      rintro e w4 ⟨l2, u2, er2, rfl, hsp, b4⟩
      obtain ⟨y5, y6, y7, y8⟩ := at_small hsp (by omega)
      have HPY := Lib.hid hsp
      have z4 : lo ≤ w4.heap.size := by have := b4.size; omega
      obtain ⟨p2, hp2⟩ : ∃ p, w4.heap.size = p := ⟨_, rfl⟩
      obtain ⟨W4, hW4⟩ : ∃ W, w4.alloc (.cells #[.int .i64 (l2 : Int), .int .i64 (u2 : Int)] 24) = W := ⟨_, rfl⟩
      have hp2p : p1 < p2 := by have := b4.size; omega
      have b34 : Below W3.heap.size W3 W4 := by rw [← hW4]; exact b4.alloc b4.size _
      have k4 : Blk W4 p2 24 #[.int .i64 (l2 : Int), .int .i64 (u2 : Int)] := by rw [← hW4, ← hp2]; exact Blk.new _ _ _
      have k34 : Blk W4 p1 24 #[.int .i64 (l1 : Int), .int .i64 (u1 : Int)] := HK3.out.same (b34.block p1 (by omega))
      have hB4 : Below lo w2 W4 := HB3.out.trans (b34.mono (by omega))
      have hO4 : Below wr.heap.size wr W4 := HO3.out.trans (b34.mono HO3.out.size)
      have hown4 : W4.ownsRow lo 78 5 u6 k (pvals ps k) := own_same HO.out (fun g hg => hO4.block g (HO.out.lt g hg).2)
      have z4a : lo ≤ W4.heap.size := by have := b34.size; omega
      by_cases he : er1 = 0 ∧ er2 = 0
      · obtain ⟨rfl, rfl⟩ := he
        have hed : EdS (sb S) ⟨l1, u1, l2, u2, z⟩ (edM (eg xs k)) 0 := by rw [HED.out]; exact ed_there z (at_ok HPX.out) (at_ok HPY.out) hxy
        obtain ⟨qs, hqs⟩ : ∃ qs : Nat → PE, (fun j => if j = k then (⟨l1, u1, l2, u2, z⟩ : PE) else ps j) = qs := ⟨_, rfl⟩
        have hqk : qs k = ⟨l1, u1, l2, u2, z⟩ := by rw [← hqs]; simp
        have hqj : ∀ j, j < k → qs j = ps j := fun j hj => by rw [← hqs]; simp; omega
        have HQ : Hid (∀ j, j < k + 1 → (qs j).fit ∧ EdS (sb S) (qs j) (edM (eg xs j)) 0) := fun j hj => by
          by_cases e : j = k
          · subst e; rw [hqk]; exact ⟨⟨y3, y4, y7, y8⟩, hed⟩
          · rw [hqj j (by omega)]; exact HPS.out j (by omega)
        have HPV : Hid (pvals qs (k + 1) = pvals ps k ++ [.int .i64 (l1 : Int), .int .i64 (u1 : Int), .int .i64 (l2 : Int), .int .i64 (u2 : Int), .string z]) := Lib.hid (by rw [pvals_succ, hqk, pvals_congr k hqj]; rfl)
        have hw24 : W4.heap[bb]? = w2.heap[bb]? := hB4.block bb hbb
        have HS0 : Hid (∀ W : World, W.heap[p1]? = W4.heap[p1]? → W.heap[p2]? = W4.heap[p2]? → W.heap[bb]? = W4.heap[bb]? → W.cell? ⟨p1, 0, none⟩ = some (.int .i64 (l1 : Int)) ∧ W.cell? ⟨p1, 1, none⟩ = some (.int .i64 (u1 : Int)) ∧ W.cell? ⟨p2, 0, none⟩ = some (.int .i64 (l2 : Int)) ∧ W.cell? ⟨p2, 1, none⟩ = some (.int .i64 (u2 : Int)) ∧ W.cell? ⟨bb, off + k * 3 + 2, none⟩ = some (.string z)) := fun W e1 e2 e3 => by
          have a1 := k34.same e1
          have a2 := k4.same e2
          have a3 := (HC.out k hlt W (e3.trans hw24)).2.2
          rw [HZ.out] at a3
          exact ⟨by simpa using a1.cell 0, by simpa using a1.cell 1, by simpa using a2.cell 0, by simpa using a2.cell 1, a3⟩
        have hbl : p1 < W4.heap.size ∧ p2 < W4.heap.size ∧ bb < W4.heap.size := ⟨k34.lt, k4.lt, by omega⟩
        have hob : ∀ g, u6.ownBlock = some g → g ≠ p1 ∧ g ≠ p2 ∧ g ≠ bb := fun g hg => by
          have h1 := HO.out.lt g hg
          have h2 := HO3.out.size
          omega
        have HS : Hid (∀ W, Below W4.heap.size W4 W → W.cell? ⟨p1, 0, none⟩ = some (.int .i64 (l1 : Int)) ∧ W.cell? ⟨p1, 1, none⟩ = some (.int .i64 (u1 : Int)) ∧ W.cell? ⟨p2, 0, none⟩ = some (.int .i64 (l2 : Int)) ∧ W.cell? ⟨p2, 1, none⟩ = some (.int .i64 (u2 : Int)) ∧ W.cell? ⟨bb, off + k * 3 + 2, none⟩ = some (.string z)) := fun W hW =>
          HS0.out W (hW.block p1 hbl.1) (hW.block p2 hbl.2.1) (hW.block bb hbl.2.2)
        have HG : Hid (∀ w6, ((W4.alloc (.cells #[.int .i64 (l1 : Int), .int .i64 (u1 : Int), .int .i64 (l2 : Int), .int .i64 (u2 : Int), .string z] 78)).drew).grownBy w6 u6.ownBlock → W4.heap.size ≤ w6.heap.size ∧ w6.heap[p1]? = W4.heap[p1]? ∧ w6.heap[p2]? = W4.heap[p2]? ∧ w6.heap[bb]? = W4.heap[bb]?) := fun w6 hg => by
          have hb := ((Below.refl W4.heap.size W4).alloc (Nat.le_refl _) (.cells #[.int .i64 (l1 : Int), .int .i64 (u1 : Int), .int .i64 (l2 : Int), .int .i64 (u2 : Int), .string z] 78)).drew
          have hz := hb.size
          have hz6 := hg.size
          refine ⟨by omega, ?_, ?_, ?_⟩
          · exact (hg.block p1 (by omega) (fun e => (hob p1 e.symm).1 rfl)).trans (hb.block p1 hbl.1)
          · exact (hg.block p2 (by omega) (fun e => (hob p2 e.symm).2.1 rfl)).trans (hb.block p2 hbl.2.1)
          · exact (hg.block bb (by omega) (fun e => (hob bb e.symm).2.2 rfl)).trans (hb.block bb hbl.2.2)
        have HW4 := Lib.hid hW4; have HB4 := Lib.hid hB4; have HP2 := Lib.hid hp2; have HOW := Lib.hid hown4
        have c3 := HS.out W4.drew (Below.refl _ _).drew
        have c4 := HS.out ((W4.alloc (.cells #[.int .i64 (l1 : Int), .int .i64 (u1 : Int), .int .i64 (l2 : Int), .int .i64 (u2 : Int), .string z] 78)).drew) ((Below.refl _ W4).alloc (Nat.le_refl _) _).drew
        clear hsp b4 c1 b34 k4 k34 hB4 hO4 hown4 hed hqs hqk hqj hW4
        go_wp2_with fail
        try rw [HP2.out]
        rw [show w4.alloc (.cells #[.int .i64 (l2 : Int), .int .i64 (u2 : Int)] 24) = W4 from HW4.out]
        go_region_held3 (fun w' => w'.cell? ⟨p1, 0, none⟩ = some (.int .i64 (l1 : Int)) ∧ w'.cell? ⟨p1, 1, none⟩ = some (.int .i64 (u1 : Int)) ∧ w'.cell? ⟨p2, 0, none⟩ = some (.int .i64 (l2 : Int)) ∧ w'.cell? ⟨p2, 1, none⟩ = some (.int .i64 (u2 : Int)) ∧ w'.cell? ⟨bb, off + k * 3 + 2, none⟩ = some (.string z)) (first | exact c3 | exact c4 | exact c6)
          (first | (rw [if_pos (by rfl)]; refine wp_append_at _ _ 45 rfl lo 78 i5 (.agg #[.int .i64 0, .int .i64 0, .int .i64 0, .int .i64 0, .string ⟨#[]⟩]) 5 48 Tryz.underlying45 hi5 jy0 jy1 jy2 rfl (by decide) u6 k (pvals ps k) rfl (HOW.out.alloc _).drew ⟨_, 0, none⟩ 1 1 [.int .i64 (l1 : Int), .int .i64 (u1 : Int), .int .i64 (l2 : Int), .int .i64 (u2 : Int), .string z] rfl rfl (cells_news W4 [.int .i64 (l1 : Int), .int .i64 (u1 : Int), .int .i64 (l2 : Int), .int .i64 (u2 : Int), .string z] _) (fun x hx => by simp at hx; rcases hx with rfl | rfl | rfl | rfl | rfl <;> rfl) (by unfold maxLen; omega) (by omega) (by simp; omega) ?_; intro v' w6 hown6 hgrow6 _; obtain ⟨_, e1, e2, e3⟩ := HG.out w6 hgrow6; have c6 := HS0.out w6 e1 e2 e3))
        have HO6 : Hid (w6.ownsRow lo 78 5 v' (k + 1) (pvals qs (k + 1))) := by rw [HPV.out]; exact hown6
        have H6 : Hid (Below lo w2 w6) := HB4.out.trans ((((Below.refl W4.heap.size W4).alloc (Nat.le_refl _) (.cells #[.int .i64 (l1 : Int), .int .i64 (u1 : Int), .int .i64 (l2 : Int), .int .i64 (u2 : Int), .string z] 78)).drew.mono z4a).grown hgrow6 (by simp; omega) (fun g hg => (HO.out.lt g hg).1))
        clear hown6 hgrow6 c3 c4 c6 e1 e2 e3
        go_wp2
        go_roundw
        case rel => exact ⟨k + 1, qs, by omega, by go_num, HQ, HO6, H6⟩
        case measure => simp [intOf]; omega
      · have HBE := Lib.hid hB4
        have HW4 := Lib.hid hW4
        have hq : (er1 != 0) = true ∨ ((er1 != 0) = false ∧ (er2 != 0) = true) := by
          by_cases h1 : er1 = 0
          · exact .inr ⟨by simp [h1], by simp; exact fun e => he ⟨h1, e⟩⟩
          · exact .inl (by simp [h1])
        clear hsp b4 c1 b34 k4 k34 hB4 hO4 hown4 hW4 he
        rcases hq with q1 | ⟨q1, q2⟩
        all_goals
          go_wp2_with fail
          rw [show w4.alloc (.cells #[.int .i64 (l2 : Int), .int .i64 (u2 : Int)] 24) = W4 from HW4.out]
          go_ret2
          exact .inl ⟨rfl, by rw [HLO.out]; exact HBE.out⟩
    · obtain rfl : n = k := by omega
      obtain ⟨Ap, cp, rfl, hcp1, hcp2, hPC, hnew⟩ := pcells_of_own HO.out
      have hNB : ∀ b, blkOf Ap b → w2.heap.size ≤ b := by
        rintro b ⟨o, ho⟩
        rw [HLO.out]
        rcases hnew with ⟨rfl, _⟩ | ⟨g, rfl, h1, _⟩
        · cases ho
        · cases ho; exact h1
      obtain ⟨L, hL⟩ : ∃ L, (List.range n).map ps = L := ⟨_, rfl⟩
      have hLl : L.length = n := by rw [← hL]; simp
      have hLg : ∀ j, j < n → pG L j = ps j := fun j hj => by rw [← hL]; simp [pG, hj]
      have hback := back_eds (S := S) (xs := xs) (qs := ps) (by rw [HN.out]; omega) (fun e he => by have := (vErr_ok HX2.out).2.2 e he; omega) (fun j hj => (HPS.out j (by rw [HN.out] at hj; exact hj)).2)
      rw [HN.out, hL] at hback
      have hPS : PS wr.heap.size wr Ap cp L := by
        refine ⟨by omega, hcp2, ?_⟩
        rw [hLl]
        rcases hPC with h0 | ⟨b, o, h1, h2, h3⟩
        · exact .inl h0
        · exact .inr ⟨b, o, h1, h2, fun k hk i hi => by rw [h3 k hk i hi, hLg k hk]⟩
      have hfit : ∀ p ∈ L, p.fit ∧ p.t.size ≤ 100000 := by
        intro p hp
        rw [← hL] at hp
        obtain ⟨j, hj, rfl⟩ := List.mem_map.1 hp
        have hj' : j < n := List.mem_range.1 hj
        have h1 := HPS.out j hj'
        refine ⟨h1.1, ?_⟩
        have hm := eg_mem (es := xs) (k := j) (by rw [HN.out]; exact hj')
        have h2 := HX3.out _ hm
        obtain ⟨o1, e1, o2, e2, _, _, h9⟩ := h1.2
        have hz : ∀ (d : Ed), d = edM (eg xs j) → d.t = (eg xs j).x := fun d hd => by rw [hd]; rfl
        rcases h9 with ⟨q1, q2, _⟩ | ⟨_, q1, q2, _⟩ | ⟨_, _, _, q2, _⟩ | ⟨_, _, _, _, q2⟩
        · exact absurd q2.symm q1
        · exact absurd q2.symm q1
        · omega
        · have := hz _ q2.symm
          simp only at this
          rw [this]; omega
      have hB : Below w2.heap.size w2 wr := by rw [HLO.out]; exact HR.out
      have HF : Hid (PS wr.heap.size wr Ap cp L ∧ L.length = n ∧ (∀ p ∈ L, p.fit ∧ p.t.size ≤ 100000) ∧ pE S L = 0 ∧ pL S L = xs ∧ (∀ b, blkOf Ap b → w2.heap.size ≤ b) ∧ Below w2.heap.size w2 wr) := ⟨hPS, hLl, hfit, hback.1, hback.2, hNB, hB⟩
      clear hNB hnew hLl hLg hback hPS hfit hB hPC hL
      go_wp2
      go_ret2
      obtain ⟨f1, f2, f3, f4, f5, f6, f7⟩ := HF.out
      exact .inr ⟨Ap, cp, L, by rw [f2]; rfl, f1, f2, f3, f4, f5, f6, f7⟩

end Go.Proofs.YtkehgoailhpenaaGreat

/- The contract of Chain. Conditions: at most 16 changes are asked for. -/
namespace Go.Proofs.YtkehgoailhpenaaGreat
open Go.RowKit Go.Shelf Go.Maps
set_option linter.unusedVariables false

/-- Blocks from lo on, but for that of a slice. -/
def offB (lo : Nat) (v : Value) (b : Nat) : Prop := lo ≤ b ∧ v.ownBlock ≠ some b
theorem cells_two (w : World) (x y : Value) (t : TypeId) : ∀ j u, ([x, y] : List Value)[j]? = some u → (w.alloc (.cells #[x, y] t)).cell? ((⟨w.heap.size, 0, none⟩ : Addr).add j) = some u := cells_news w [x, y] t

theorem chain_keep {lo n : Nat} {w wr W : World} {o : Value} {xs : List Value} {vs : List (Int × Value)} {cs : List (List PE)} (HO : wr.ownsRow lo 47 2 o n xs) (HV : Held1 (offB lo o) wr vs cs) (HR : Below lo w wr) (hb : Below wr.heap.size wr W) (hlo : lo ≤ wr.heap.size) :
    W.ownsRow lo 47 2 o n xs ∧ Held1 (offB lo o) W vs cs ∧ Below lo w W :=
  ⟨own_same HO (fun g hg => hb.block g (HO.lt g hg).2), HV.keep hb.size (fun b _ hlt => hb.block b hlt) (fun b h _ => h), HR.trans (hb.mono hlo)⟩
theorem chain_grow {lo : Nat} {W w6 : World} {o o' : Value} {vs : List (Int × Value)} {cs : List (List PE)} {p : List PE} {u : Value} (HV : Held1 (offB lo o) W vs cs) (hu : PsG (offB lo o) W u p) (hg : W.grownBy w6 o.ownBlock) (hat : o'.ownBlock = o.ownBlock ∨ o'.ownBlock = some W.heap.size) :
    Held1 (offB lo o') w6 (vs ++ [((cs.length : Int) + 1, u)]) (cs ++ [p]) :=
  (HV.snoc hu).keep hg.size (fun b hb hlt => hg.block b hlt (fun e => hb.2 e.symm)) (fun b hb hlt => ⟨hb.1, fun e => by
    rcases hat with h | h
    · exact hb.2 (h ▸ e)
    · rw [h] at e; simp at e; omega⟩)

set_option maxRecDepth 100000 in
set_option maxHeartbeats 8000000 in
theorem chain_any (a : Option Addr) (cap : Nat) (ls : List Int) (most : Nat) (w : World) (h : Sli .i64 w a cap ls) (hi : ∀ n ∈ ls, -9223372036854775808 ≤ n ∧ n ≤ 9223372036854775807) (hm : most ≤ 16) :
    Calls Tryz.prog 6 #[.slice a ls.length cap, .int .i64 (most : Int)] w fun e w' => ∃ S cs vs v, e = .returned (.tuple #[.string S, v]) ∧ S.size ≤ 96 ∧ Whl (sb S) ∧ cs.length ≤ most ∧ Fits S cs ∧ w'.ownsRow w.heap.size 47 2 v cs.length (cv vs) ∧ Held1 (offB w.heap.size v) w' vs cs ∧ Below w.heap.size w w' := by
  obtain ⟨i5, hi5, jy0, jy1, jy2⟩ := info_parts infoCh
  have cP := part_any a cap ls 0 12 w h (by omega) (by omega)
  have hPA : ∀ (i : Nat) W, i < 16 → Below w.heap.size w W → Calls Tryz.prog 30 #[.slice a ls.length cap, .int .i64 (12 + 10 * (i : Int)), .int .i64 16] W fun e w' => W = w' ∧ ∃ a' n' c', e = .returned (.slice a' n' c') ∧ SlI W.heap.size W a' n' ∧ n' ≤ c' ∧ c' ≤ 9223372036854775807 := fun i W hi' hW => by
    have := part_any a cap ls (12 + 10 * i) 16 W (h.below hW) (by omega) (by omega)
    rw [show ((12 + 10 * i : Nat) : Int) = 12 + 10 * (i : Int) by omega] at this
    refine this.mono ?_
    rintro e w' ⟨rfl, a', c', rfl, hs⟩
    exact ⟨rfl, a', _, c', rfl, SlI.of hs (fun n hn => hi n (List.mem_of_mem_drop (List.mem_of_mem_take hn))), hs.le, hs.mx⟩
  have hi2 : ∀ n ∈ (ls.drop 0).take 12, -9223372036854775808 ≤ n ∧ n ≤ 9223372036854775807 := fun n hn => hi n (List.mem_of_mem_drop (List.mem_of_mem_take hn))
  obtain ⟨L, hL⟩ : ∃ l, (ls.drop 0).take 12 = l := ⟨_, rfl⟩
  obtain ⟨N, hN⟩ : ∃ l, ls.length = l := ⟨_, rfl⟩
  have hNm : N ≤ 9223372036854775807 := by have := h.le; have := h.mx; omega
  obtain ⟨lo, hlo⟩ : ∃ l, w.heap.size = l := ⟨_, rfl⟩
  rw [hL] at cP hi2
  rw [hN] at cP hPA ⊢
  rw [hlo] at hPA ⊢
  have C1 := Lib.hid cP; have HPA := Lib.hid hPA; have HLO := Lib.hid hlo
  have HI2 := Lib.hid hi2
  clear h hi hi2 hL hN cP hPA hlo
  go_enter Tryz.func6, Tryz.ntmps6
  go_wp2_with fail
  refine C1.out.mono ?_
  rintro e w0 ⟨rfl, a1, c1, rfl, hs⟩
  have C2 := Lib.hid (rtext_any a1 c1 L w hs HI2.out)
  clear hs
  go_wp2_with fail
  refine C2.out.mono ?_
  rintro e w1 ⟨S, rfl, hSl, hSw, b1⟩
  rw [HLO.out] at b1
  have HB := Lib.hid b1; have HW := Lib.hid hSw
  clear b1 hSw
  go_wp2_with fail
  go_loopw [7, 8, 9] (fun s o q wr => ∃ (cs : List (List PE)) (vs : List (Int × Value)) (z : ByteArray) (i : Nat), s = .string z ∧ q = .int .i64 (i : Int) ∧ i ≤ most ∧ z.size ≤ 4096 ∧ Hid (cs.length = i) ∧ Hid (Fits S cs) ∧ Hid (endT S cs = z) ∧ Hid (wr.ownsRow lo 47 2 o i (cv vs)) ∧ Hid (Held1 (offB lo o) wr vs cs) ∧ Hid (Below lo w wr)) (fun _ _ q _ => most - (intOf q).toNat)
  case atStart => exact ⟨[], [], S, 0, rfl, rfl, by omega, by omega, Lib.hid rfl, Lib.hid trivial, Lib.hid rfl, Lib.hid (World.ownsRow_nil _ _ _ _), Lib.hid ⟨rfl, fun k hk => by simp at hk⟩, HB⟩
  case round =>
    obtain ⟨cs, vs, z, i, rfl, rfl, hcl, hz, HC, HF, HE, HO, HV, HR⟩ := hrel
    have hlr : lo ≤ wr.heap.size := by have := HR.out.size; have := HLO.out; omega
    have m1 : IntKind.i64.wrap (10 * (i : Int)) = 10 * (i : Int) := by simp [IntKind.wrap, IntKind.signed, IntKind.bits]; omega
    have m2 : IntKind.i64.wrap (12 + 10 * (i : Int)) = 12 + 10 * (i : Int) := by simp [IntKind.wrap, IntKind.signed, IntKind.bits]; omega
    have m3 : IntKind.i64.wrap ((i : Int) + 1) = (i : Int) + 1 := by simp [IntKind.wrap, IntKind.signed, IntKind.bits]; omega
    have HEND : Hid (∀ W, Below wr.heap.size wr W → ∃ S' cs' vs' v', (Ending.returned (.tuple #[.string S, u8]) = .returned (.tuple #[.string S', v'])) ∧ S'.size ≤ 96 ∧ Whl (sb S') ∧ cs'.length ≤ most ∧ Fits S' cs' ∧ W.ownsRow lo 47 2 v' cs'.length (cv vs') ∧ Held1 (offB lo v') W vs' cs' ∧ Below lo w W) := fun W hW => by
      obtain ⟨k1, k2, k3⟩ := chain_keep HO.out HV.out HR.out hW hlr
      exact ⟨S, cs, vs, u8, rfl, hSl, HW.out, by rw [HC.out]; exact hcl, HF.out, by rw [HC.out]; exact k1, k2, k3⟩
    by_cases hgo : i < most ∧ 12 + 10 * i < N
    · have g1 : (i : Int) < (most : Int) := by omega
      have g2 : 12 + 10 * (i : Int) < (N : Int) := by omega
      clear hgo
      go_wp2_with fail
      refine (HPA.out i wr (by omega) HR.out).mono ?_
      rintro e w2 ⟨rfl, a2, n2, c2, rfl, hsl, h2, h3⟩
      have CE := Lib.hid (edits_any z a2 n2 c2 wr (by omega) hsl h2 h3)
      clear hsl
      go_wp2_with fail
      refine CE.out.mono ?_
      rintro e w2 ⟨xs, v2, rfl, hx1, hx2, hx3, hown2, hb2⟩
      obtain ⟨hn2, ax, cx, rfl, hX⟩ := es_of_own hown2
      have CP := Lib.hid (posg_any z ax cx xs w2 (by omega) (by omega) hx2 (fun x hx => by have := (hx3 x hx).1; omega) hX)
      have hfx := fit_of hx2 (by omega) (fun e he => by have := (hx3 e he).1; omega)
      obtain ⟨nx, hnx⟩ : ∃ n, xs.length = n := ⟨_, rfl⟩
      have HNX := Lib.hid hnx; have HX := Lib.hid hX; have HX2 := Lib.hid hx2; have HFX := Lib.hid hfx
      have B2 : Hid (Below wr.heap.size wr w2) := hb2
      rw [hnx] at hx1
      simp only [hnx] at CP
      rw [hnx]
      clear hn2 hX hx2 hx3 hfx hnx hown2 hb2 CE
      go_wp2_with fail
      refine CP.out.mono ?_
      rintro e w3 hpos
      have hb3 : Below w2.heap.size w2 w3 := by
        rcases hpos with ⟨_, h⟩ | ⟨_, _, _, _, _, _, _, _, _, _, h⟩ <;> exact h
      have CA := rapply_any z ax cx xs w3 (by omega) (by have := HNX.out; omega) HFX.out (HX.out.on hb3)
      rw [HX2.out, HNX.out] at CA
      obtain ⟨t, ht⟩ : ∃ t, apS z xs = t := ⟨_, rfl⟩
      rw [ht] at CA
      have HCA := Lib.hid CA; have HT := Lib.hid ht
      have B3 : Hid (Below wr.heap.size wr w3) := B2.out.trans (hb3.mono B2.out.size)
      clear CA ht CP
      rcases hpos with ⟨rfl, _⟩ | ⟨pa, pc, ps, rfl, hp1, hp2, hp3, hp4, hp5, hp6, _⟩
      · clear hb3
        go_wp2_with fail
        refine HCA.out.mono ?_
        rintro e w4 ⟨rfl, b4⟩
        have HQ := HEND.out w4 (B3.out.trans (b4.mono B3.out.size))
        have HQ2 := Lib.hid HQ
        clear b4 HQ
        go_wp2_with fail
        go_ret2
        exact HQ2.out
      · obtain ⟨np, hnp⟩ : ∃ n, ps.length = n := ⟨_, rfl⟩
        obtain rfl : np = nx := by rw [← hnp, hp2]
        have HP := Lib.hid (And.intro hp1 (And.intro hp3 (And.intro hp4 (And.intro hp5 hp6))))
        have HNP := Lib.hid hnp
        rw [hnp]
        clear hb3 hp1 hp2 hp3 hp4 hp5 hp6 hnp
        go_wp2_with fail
        refine HCA.out.mono ?_
        rintro e w4 ⟨rfl, b4⟩
        have B4 : Hid (Below wr.heap.size wr w4) := B3.out.trans (b4.mono B3.out.size)
        have B34 : Hid (Below w3.heap.size w3 w4) := b4
        clear b4
        by_cases hbig : 4096 < t.size
        · have hb2 : (4096 : Int) < (t.size : Int) := by omega
          have HQ2 := Lib.hid (HEND.out w4 B4.out)
          clear hbig
          go_wp2_with fail
          go_ret2
          exact HQ2.out
        · have hb2 : ¬ (4096 : Int) < (t.size : Int) := by omega
          have hz4 : lo ≤ w4.heap.size := by have := B4.out.size; omega
          obtain ⟨k1, k2, k3⟩ := chain_keep HO.out HV.out HR.out B4.out hlr
          obtain ⟨W5, hW5⟩ : ∃ W, w4.alloc (.cells #[.int .i64 ((i : Int) + 1), .slice pa np pc] 47) = W := ⟨_, rfl⟩
          have b5 : Below w4.heap.size w4 W5 := by rw [← hW5]; exact (Below.refl _ _).alloc (Nat.le_refl _) _
          have z5 : lo ≤ W5.heap.size := by have := b5.size; omega
          have HCN : Hid (∀ j y, ([.int .i64 ((i : Int) + 1), .slice pa np pc] : List Value)[j]? = some y → W5.cell? ((⟨w4.heap.size, 0, none⟩ : Addr).add j) = some y) := by rw [← hW5]; exact cells_two w4 _ _ _
          obtain ⟨j1, j2, j3⟩ := chain_keep k1 k2 k3 b5 hz4
          have hpg : PsG (offB lo u8) W5 (.slice pa np pc) ps := by
            have h1 := PsG.of (G := offB lo u8) HP.out.1 (fun _ b hb => ⟨by have := HP.out.2.2.2.2 b hb; have := B2.out.size; omega, fun e => by have := HP.out.2.2.2.2 b hb; have := B2.out.size; have := (HO.out.lt b e).2; omega⟩)
            rw [HNP.out] at h1
            have b35 : Below w3.heap.size w3 W5 := B34.out.trans (b5.mono B34.out.size)
            exact h1.keep b35.size (fun b _ hlt => b35.block b hlt) (fun _ h => h)
          have HF1 : Hid (Fit1 z ps) := by
            obtain ⟨q1, q2, q3, q4, q5⟩ := HP.out
            exact ⟨q3, by rw [q4]; exact HX2.out, by rw [q4, HT.out]; omega, by rw [HNP.out]; omega, q2⟩
          have HJ1 := Lib.hid j1; have HJ2 := Lib.hid j2; have HJ3 := Lib.hid j3; have HPG := Lib.hid hpg; have HW5 := Lib.hid hW5
          have HTT : Hid (t = apS z (pL z ps)) := by rw [HP.out.2.2.2.1]; exact HT.out.symm
          clear k1 k2 k3 b5 j1 j2 j3 hpg hW5 hbig
          go_wp2_with (at_builtin; rw [show w4.alloc (.cells #[.int .i64 ((i : Int) + 1), .slice pa np pc] 47) = W5 from HW5.out]; refine wpList_append_own_at _ rfl _ _ 25 rfl lo 47 i5 (.agg #[.int .i64 0, .slice none 0 0]) 2 32 Tryz.underlying25 hi5 jy0 jy1 jy2 rfl (by decide) u8 i (cv vs) rfl HJ1.out ⟨w4.heap.size, 0, none⟩ 1 1 [.int .i64 ((i : Int) + 1), .slice pa np pc] rfl rfl HCN.out (fun x hx => by simp at hx; rcases hx with rfl | rfl <;> rfl) (by unfold maxLen; omega) (by omega) z5 ?_; intro v' w6 hown6 hgrow6 _ hat6)
          have hh := chain_grow HJ2.out HPG.out hgrow6 hat6
          have hbl := HJ3.out.grown hgrow6 z5 (fun g hg => (HJ1.out.lt g hg).1)
          have HO6 : Hid (w6.ownsRow lo 47 2 v' (i + 1) (cv (vs ++ [((i : Int) + 1, .slice pa np pc)]))) := by rw [cv_app]; exact hown6
          have HV6 : Hid (Held1 (offB lo v') w6 (vs ++ [((i : Int) + 1, .slice pa np pc)]) (cs ++ [ps])) := by rw [HC.out] at hh; exact hh
          have HB6 := Lib.hid hbl
          have HF6 : Hid (Fits S (cs ++ [ps])) := HF.out.snoc (by rw [HE.out]; exact HF1.out)
          have HE6 : Hid (endT S (cs ++ [ps]) = t) := by rw [HTT.out, ← HE.out]; exact endT_snoc _ _ _
          clear hh hbl hown6 hgrow6 hat6
          go_wp2
          go_roundw
          case rel => exact ⟨cs ++ [ps], _, t, i + 1, rfl, by go_num, by omega, by omega, Lib.hid (by rw [List.length_append, HC.out]; rfl), HF6, HE6, HO6, HV6, HB6⟩
          case measure => simp [intOf]; omega
    · have HQ2 := Lib.hid (HEND.out wr (Below.refl _ _))
      have hways : ¬ ((i : Int) < (most : Int)) ∨ ((i : Int) < (most : Int) ∧ ¬ (12 + 10 * (i : Int) < (N : Int))) := by omega
      clear hgo
      rcases hways with g1 | ⟨g1, g2⟩
      all_goals
        go_wp2_with fail
        go_ret2
        exact HQ2.out

end Go.Proofs.YtkehgoailhpenaaGreat

/- The contract of Shuffled. Conditions: at most 16 changes. -/
namespace Go.Proofs.YtkehgoailhpenaaGreat
open Go.RowKit Go.Shelf Go.Maps
set_option linter.unusedVariables false

set_option maxRecDepth 100000 in
set_option maxHeartbeats 8000000 in
theorem shuffled_any (a : Option Addr) (cap : Nat) (vs : List (Int × Value)) (al : Option Addr) (nl cl : Nat) (w : World) (hV : VS w.heap.size w a cap vs) (hn : vs.length ≤ 16) (hok : VOk vs) (hL : SlI w.heap.size w al nl) (hcl : nl ≤ cl) (hcl2 : cl ≤ 9223372036854775807) :
    Calls Tryz.prog 10 #[.slice a vs.length cap, .slice al nl cl] w fun e w' => ∃ v ks, e = .returned v ∧ Arr vs.length ks ∧ ks.length ≤ vs.length + 3 ∧ w'.ownsRow w.heap.size 47 2 v ks.length (cv (pickL vs ks)) ∧ Below w.heap.size w w' := by
  obtain ⟨i5, hi5, jy0, jy1, jy2⟩ := info_parts infoCh
  have hvl := hV.le
  have hvm := hV.mx
  obtain ⟨n, hn'⟩ : ∃ n, vs.length = n := ⟨_, rfl⟩
  obtain ⟨lo, hlo⟩ : ∃ l, w.heap.size = l := ⟨_, rfl⟩
  have HPK : Hid (∀ (W : World) (j m : Nat), Below lo w W → j ≤ 1000 → 1 ≤ m → m ≤ 1000 → Calls Tryz.prog 35 #[.slice al nl cl, .int .i64 (j : Int), .int .i64 (m : Int)] W (Index m W)) := fun W j m hW h1 h2 h3 => by
    have hW' : Below w.heap.size w W := by rw [hlo]; exact hW
    exact pick_any w.heap.size al nl cl j m W (hL.below hW') hcl hcl2 h1 h2 (by omega)
  have hcells := hV.cells
  have hnil := hV.nil
  rw [hn'] at hn hvl hcells ⊢
  rw [hlo] at hcells ⊢
  by_cases h0 : n = 0
  · subst h0
    have hvs : vs = [] := List.eq_nil_of_length_eq_zero hn'
    have HFIN : Hid (∀ W v, W.ownsRow lo 47 2 v 0 [] → Below lo w W → ∃ v' ks, Ending.returned v = .returned v' ∧ Arr 0 ks ∧ ks.length ≤ 0 + 3 ∧ W.ownsRow lo 47 2 v' ks.length (cv (pickL vs ks)) ∧ Below lo w W) := fun W v h1 h2 => ⟨v, [], rfl, ⟨fun k h => by simp at h, fun k h => by omega⟩, by simp, h1, h2⟩
    have HLO := Lib.hid hlo
    clear hV hok hL hcl hcl2 hn' hcells hlo hvs HPK
    cases a with
    | none =>
      obtain rfl : cap = 0 := hnil rfl
      go_enter Tryz.func10, Tryz.ntmps10
      go_wp2_with (at_builtin; refine wpList_append_own_none rfl _ _ 25 rfl lo 47 i5 2 Tryz.underlying25 hi5 (.slice none 0 0) 0 [] rfl (World.ownsRow_nil _ _ _ _) rfl ?_)
      have HQ := Lib.hid (HFIN.out w (.slice none 0 0) (World.ownsRow_nil _ _ _ _) (by rw [← HLO.out]; exact Below.refl _ _))
      go_loopw [6] (fun q wr => q = .int .i64 0 ∧ wr = w) (fun _ _ => 0)
      case atStart => exact ⟨rfl, rfl⟩
      case round =>
        obtain ⟨rfl, rfl⟩ := hrel
        go_wp2_with fail
        go_loopw [5, 9] (fun o q wr2 => o = .slice none 0 0 ∧ q = .int .i64 0 ∧ wr2 = wr) (fun _ _ _ => 0)
        case atStart => exact ⟨rfl, rfl, rfl⟩
        case round =>
          obtain ⟨rfl, rfl, rfl⟩ := hrel
          go_wp2_with fail
          go_ret
          exact HQ.out
    | some ad =>
      go_enter Tryz.func10, Tryz.ntmps10
      go_wp2_with (at_builtin; refine wpList_append_own_at _ rfl _ _ 25 rfl lo 47 i5 (.agg #[.int .i64 0, .slice none 0 0]) 2 32 Tryz.underlying25 hi5 jy0 jy1 jy2 rfl (by decide) (.slice none 0 0) 0 [] rfl (World.ownsRow_nil _ _ _ _) ad 0 cap [] rfl rfl (fun j u h => by simp at h) (fun x hx => by simp at hx) (by unfold maxLen; omega) (by omega) (by rw [HLO.out]; exact Nat.le_refl _) ?_; intro v' w6 hown6 hgrow6 hn6 hat6; obtain rfl := hn6.2 ⟨rfl, rfl⟩)
      have hb6 : Below lo w w6 := by rw [← HLO.out]; exact (Below.refl _ _).grown hgrow6 (Nat.le_refl _) (fun g hg => by cases hg)
      have HQ := Lib.hid (HFIN.out w6 (.slice none 0 0) (World.ownsRow_nil _ _ _ _) hb6)
      clear hown6 hgrow6 hn6 hat6 hb6
      go_loopw [6] (fun q wr => q = .int .i64 0 ∧ wr = w6) (fun _ _ => 0)
      case atStart => exact ⟨rfl, rfl⟩
      case round =>
        obtain ⟨rfl, rfl⟩ := hrel
        go_wp2_with fail
        go_loopw [5, 9] (fun o q wr2 => o = .slice none 0 0 ∧ q = .int .i64 0 ∧ wr2 = wr) (fun _ _ _ => 0)
        case atStart => exact ⟨rfl, rfl, rfl⟩
        case round =>
          obtain ⟨rfl, rfl, rfl⟩ := hrel
          go_wp2_with fail
          go_ret
          exact HQ.out
  · obtain ⟨b, off, rfl, hb, hc⟩ := hcells.resolve_left h0
    have hnews : ∀ j u, (cv vs)[j]? = some u → w.cell? ((⟨b, off, none⟩ : Addr).add j) = some u := vscells_at (by rw [hn']; exact hc)
    have hlen2 : (cv vs).length = n * 2 := by rw [cv_len, hn']
    have HC : Hid (∀ W, Below lo w W → ∀ k, k < n → W.cell? ⟨b, off + k * 2, none⟩ = some (.int .i64 (cG vs k).1) ∧ W.cell? ⟨b, off + k * 2 + 1, none⟩ = some (cG vs k).2) := fun W hW k hk => by
      obtain ⟨q1, q2⟩ := hc k hk
      exact ⟨(hW.cell (p := ⟨b, off + k * 2, none⟩) hb).trans q1, (hW.cell (p := ⟨b, off + k * 2 + 1, none⟩) hb).trans q2⟩
    have HNW := Lib.hid hnews; have HL2 := Lib.hid hlen2; have HOK := Lib.hid hok; have HLO := Lib.hid hlo; have HN := Lib.hid hn'
    have hnpos : 0 < n := by omega
    clear hV hok hL hcl hcl2 hn' hcells hlo hc hnews hlen2 hnil h0
    go_enter Tryz.func10, Tryz.ntmps10
    go_wp2_with (at_builtin; refine wpList_append_own_at _ rfl _ _ 25 rfl lo 47 i5 (.agg #[.int .i64 0, .slice none 0 0]) 2 32 Tryz.underlying25 hi5 jy0 jy1 jy2 rfl (by decide) (.slice none 0 0) 0 [] rfl (World.ownsRow_nil _ _ _ _) ⟨b, off, none⟩ n cap (cv vs) rfl HL2.out HNW.out HOK.out.one (by unfold maxLen; omega) (by omega) (by rw [HLO.out]; exact Nat.le_refl _) ?_; intro v' w1 hown hgrow _ _)
    have hb1 : Below lo w w1 := by rw [← HLO.out]; exact (Below.refl _ _).grown hgrow (Nat.le_refl _) (fun g hg => by cases hg)
    rw [Nat.zero_add, List.nil_append] at hown
    obtain ⟨g, cp, hvv⟩ : ∃ g cp, v' = .slice (some ⟨g, 0, none⟩) n cp := by
      obtain ⟨m, hm⟩ : ∃ m, n = m + 1 := ⟨n - 1, by omega⟩
      have h1 := hown
      rw [hm] at h1
      obtain ⟨g, cp, h2⟩ := ownsRow_succ h1
      exact ⟨g, cp, by rw [h2, hm]⟩
    subst hvv
    have HO1 : Hid (w1.ownsRow lo 47 2 (.slice (some ⟨g, 0, none⟩) n cp) n (cv (pickL vs (List.range n)))) := by
      rw [← HN.out, pickL_range, HN.out]; exact hown
    have HB1 := Lib.hid hb1
    clear hown hgrow hb1
    go_loopw [6] (fun q wr => ∃ (ks : List Nat) (i : Nat), q = .int .i64 (i : Int) ∧ i ≤ n ∧ Hid (Arr n ks ∧ ks.length = n) ∧ Hid (wr.ownsRow lo 47 2 (.slice (some ⟨g, 0, none⟩) n cp) n (cv (pickL vs ks))) ∧ Hid (Below lo w wr)) (fun q _ => n - (intOf q).toNat)
    case atStart => exact ⟨List.range n, 0, rfl, by omega, Lib.hid ⟨Arr.range n, by simp⟩, HO1, HB1⟩
    case round =>
      obtain ⟨ks, i, rfl, hi, HA, HO, HR⟩ := hrel
      by_cases hlt : i < n
      · have hlt2 : (i : Int) < (n : Int) := by omega
        have m1 : IntKind.i64.wrap ((n : Int) - (i : Int)) = (n : Int) - (i : Int) := by simp [IntKind.wrap, IntKind.signed, IntKind.bits]; omega
        have HP := HPK.out wr i (n - i) HR.out (by omega) (by omega) (by omega)
        rw [show ((n - i : Nat) : Int) = (n : Int) - (i : Int) by omega] at HP
        have HP1 := Lib.hid HP
        clear HP
        go_wp2_with fail
        refine HP1.out.mono ?_
        rintro e w' ⟨r, hr, rfl, rfl⟩
        obtain ⟨k, hk⟩ : ∃ k : Nat, (i : Int) + (r : Int) = (k : Int) := ⟨i + r, by omega⟩
        have m2 : IntKind.i64.wrap (k : Int) = (k : Int) := by simp [IntKind.wrap, IntKind.signed, IntKind.bits]; omega
        have hkn : k < n := by omega
        have hkn2 : (k : Int) < (n : Int) := by omega
        have hlks : ks.length = n := HA.out.2
        obtain ⟨us, hus⟩ : ∃ us, pickL vs ks = us := ⟨_, rfl⟩
        have hul : us.length = n := by rw [← hus, pickL_len]; exact hlks
        have hown : wr.ownsRow lo 47 2 (.slice (some ⟨g, 0, none⟩) n cp) n (cv us) := by rw [← hus]; exact HO.out
        obtain ⟨x1, x2⟩ := cv_get us i (by omega)
        obtain ⟨y1, y2⟩ := cv_get us k (by omega)
        have hcl := cv_len us
        have c1 := hown.cellAt (i * 2) (by omega)
        have c2 := hown.cellAt (i * 2 + 1) (by omega)
        have c3 := hown.cellAt (k * 2) (by omega)
        have c4 := hown.cellAt (k * 2 + 1) (by omega)
        rw [x1] at c1; rw [x2] at c2; rw [y1] at c3; rw [y2] at c4
        have hok2 : VOk us := by rw [← hus]; exact pickL_ok HOK.out (by rw [HN.out]; exact HA.out.1.lt)
        obtain ⟨ai, ni, ci, ei⟩ := hok2 _ (cG_mem (vs := us) (k := i) (by omega))
        obtain ⟨ak, nk, ck, ek⟩ := hok2 _ (cG_mem (vs := us) (k := k) (by omega))
        obtain ⟨vi, hvi⟩ : ∃ x, (cG us i).1 = x := ⟨_, rfl⟩
        obtain ⟨vk, hvk⟩ : ∃ x, (cG us k).1 = x := ⟨_, rfl⟩
        rw [hvi] at c1; rw [hvk] at c3; rw [ei] at c2; rw [ek] at c4
        obtain ⟨W1, hW1⟩ : ∃ W, wr.alloc (.cells #[.int .i64 vi, .slice ai ni ci] 47) = W := ⟨_, rfl⟩
        have b1 : Below wr.heap.size wr W1 := by rw [← hW1]; exact (Below.refl _ _).alloc (Nat.le_refl _) _
        have hgl := (hown.lt g rfl).2
        have hlg := (hown.lt g rfl).1
        have hlr : lo ≤ wr.heap.size := by omega
        have kp : Blk W1 wr.heap.size 47 #[.int .i64 vi, .slice ai ni ci] := by rw [← hW1]; exact Blk.new _ _ _
        have hO1 : W1.ownsRow lo 47 2 (.slice (some ⟨g, 0, none⟩) n cp) n (cv us) := own_same hown (fun g' hg => b1.block g' (hown.lt g' hg).2)
        have d3 := hO1.cellAt (k * 2) (by omega)
        have d4 := hO1.cellAt (k * 2 + 1) (by omega)
        rw [y1, hvk] at d3; rw [y2, ek] at d4
        have f1 : W1.frozen? ⟨g, i * 2, none⟩ = false := hO1.frozenAt _
        obtain ⟨z1, e1⟩ := own_some hO1 (i * 2) (by omega)
        obtain ⟨z2, e2⟩ := own_some (hO1.stored (i * 2) (.int .i64 vk)).1 (i * 2 + 1) (by omega)
        have f2 : (W1.setCell ⟨g, i * 2, none⟩ (.int .i64 vk)).frozen? ⟨g, i * 2 + 1, none⟩ = false := ((hO1.stored (i * 2) (.int .i64 vk)).1).frozenAt _
        obtain ⟨W2, hW2⟩ : ∃ W, (W1.setCell ⟨g, i * 2, none⟩ (.int .i64 vk)).setCell ⟨g, i * 2 + 1, none⟩ (.slice ak nk ck) = W := ⟨_, rfl⟩
        have hO2 : W2.ownsRow lo 47 2 (.slice (some ⟨g, 0, none⟩) n cp) n (cv (us.set i (vk, .slice ak nk ck))) := by rw [← hW2]; exact row_put hO1 (by omega) _ _
        have b2 : Below lo wr W2 := by
          rw [← hW2]
          exact ((b1.mono hlr).setCell (p := ⟨g, i * 2, none⟩) hlg _).setCell (p := ⟨g, i * 2 + 1, none⟩) hlg _
        have kp2 : Blk W2 wr.heap.size 47 #[.int .i64 vi, .slice ai ni ci] := by
          rw [← hW2]
          exact kp.same ((Below.heap_setCell _ _ _ _ (fun e => by simp at e; omega)).trans (Below.heap_setCell _ _ _ _ (fun e => by simp at e; omega)))
        have p0 := kp2.cell 0
        have p1 := kp2.cell 1
        simp only [List.getElem?_toArray, List.getElem?_cons_zero, List.getElem?_cons_succ] at p0 p1
        have f3 : W2.frozen? ⟨g, k * 2, none⟩ = false := hO2.frozenAt _
        obtain ⟨z3, e3⟩ := own_some hO2 (k * 2) (by omega)
        obtain ⟨z4, e4⟩ := own_some (hO2.stored (k * 2) (.int .i64 vi)).1 (k * 2 + 1) (by omega)
        have f4 : (W2.setCell ⟨g, k * 2, none⟩ (.int .i64 vi)).frozen? ⟨g, k * 2 + 1, none⟩ = false := ((hO2.stored (k * 2) (.int .i64 vi)).1).frozenAt _
        obtain ⟨W3, hW3⟩ : ∃ W, (W2.setCell ⟨g, k * 2, none⟩ (.int .i64 vi)).setCell ⟨g, k * 2 + 1, none⟩ (.slice ai ni ci) = W := ⟨_, rfl⟩
        have hO3 : W3.ownsRow lo 47 2 (.slice (some ⟨g, 0, none⟩) n cp) n (cv ((us.set i (vk, .slice ak nk ck)).set k (vi, .slice ai ni ci))) := by rw [← hW3]; exact row_put hO2 (by simp; omega) _ _
        have hui : cG us i = (vi, .slice ai ni ci) := Prod.ext hvi ei
        have huk : cG us k = (vk, .slice ak nk ck) := Prod.ext hvk ek
        have hsw := pickL_swap vs (ks := ks) (i := i) (k := k) (by omega) (by omega)
        rw [hus, hui, huk] at hsw
        rw [hsw] at hO3
        have hA3 : Arr n ((ks.set i ks[k]).set k ks[i]) ∧ ((ks.set i ks[k]).set k ks[i]).length = n := ⟨HA.out.1.swap (by omega) (by omega), by simp [hlks]⟩
        obtain ⟨kz, hkz⟩ : ∃ x, (ks.set i ks[k]).set k ks[i] = x := ⟨_, rfl⟩
        rw [hkz] at hO3 hA3
        have HO3 := Lib.hid hO3; have HA3 := Lib.hid hA3
        have hb3 : Below lo wr W3 := by
          rw [← hW3]
          exact (b2.setCell (p := ⟨g, k * 2, none⟩) hlg _).setCell (p := ⟨g, k * 2 + 1, none⟩) hlg _
        have HB3 : Hid (Below lo w W3) := HR.out.trans hb3
        clear x1 x2 y1 y2 hO1 hO2 hO3 kp kp2 b1 b2 hb3 hown ei ek hvi hvk hok2 hgl hlg hlr hsw hui huk hcl
        subst hW3
        subst hW2
        subst hW1
        go_wp2
        go_roundw
        case rel => exact ⟨_, i + 1, by go_num, by omega, HA3, HO3, HB3⟩
        case measure => simp [intOf]; omega
      · have hlt2 : ¬ ((i : Int) < (n : Int)) := by omega
        clear hi hlt
        go_wp2_with fail
        go_loopw [5, 9] (fun o q wx => ∃ (ks : List Nat) (j M g' cp' : Nat), o = .slice (some ⟨g', 0, none⟩) M cp' ∧ q = .int .i64 (j : Int) ∧ j ≤ 3 ∧ Hid (M = n + j) ∧ M ≤ 19 ∧ M ≤ cp' ∧ cp' ≤ 9223372036854775807 ∧ Hid (Arr n ks ∧ ks.length = M) ∧ Hid (wx.ownsRow lo 47 2 (.slice (some ⟨g', 0, none⟩) M cp') M (cv (pickL vs ks))) ∧ Hid (Below lo w wx)) (fun _ q _ => 3 - (intOf q).toNat)
        case atStart =>
          obtain ⟨h1, h2⟩ : n ≤ cp ∧ cp ≤ 9223372036854775807 := by
            obtain ⟨_, a', c', hv, hs, _⟩ := vs_of_own HO.out
            have := hs.le; have := hs.mx
            simp only [Value.slice.injEq] at hv
            omega
          exact ⟨ks, 0, n, g, cp, rfl, rfl, by omega, Lib.hid rfl, by omega, h1, h2, HA, HO, HR⟩
        case round =>
          obtain ⟨ks, j, M, g', cp', rfl, rfl, hj, HM, hM, hMc, hcm, HA, HO, HR⟩ := hrel
          have hlr : lo ≤ wr.heap.size := by have := HR.out.size; have := HLO.out; omega
          by_cases hgo : j < n ∧ j < 3
          · have g1 : (j : Int) < (n : Int) := by omega
            have g2 : (j : Int) < 3 := by omega
            have m1 : IntKind.i64.wrap ((n : Int) + (j : Int)) = (n : Int) + (j : Int) := by simp [IntKind.wrap, IntKind.signed, IntKind.bits]; omega
            have m2 : IntKind.i64.wrap ((M : Int) + 1) = (M : Int) + 1 := by simp [IntKind.wrap, IntKind.signed, IntKind.bits]; omega
            have m3 : IntKind.i64.wrap ((n : Int) + 3) = (n : Int) + 3 := by simp [IntKind.wrap, IntKind.signed, IntKind.bits]; omega
            have m4 : IntKind.i64.wrap ((n : Int) + 3 + (j : Int)) = (n : Int) + 3 + (j : Int) := by simp [IntKind.wrap, IntKind.signed, IntKind.bits]; omega
            have m5 : IntKind.i64.wrap ((j : Int) + 1) = (j : Int) + 1 := by simp [IntKind.wrap, IntKind.signed, IntKind.bits]; omega
            have HP := HPK.out wr (n + j) (M + 1) HR.out (by omega) (by omega) (by omega)
            rw [show ((n + j : Nat) : Int) = (n : Int) + (j : Int) by omega, show ((M + 1 : Nat) : Int) = (M : Int) + 1 by omega] at HP
            have HP1 := Lib.hid HP
            have HP2 : Hid (∀ W, Below lo w W → Calls Tryz.prog 35 #[.slice al nl cl, .int .i64 ((n : Int) + 3 + (j : Int)), .int .i64 (n : Int)] W (Index n W)) := fun W hW => by
              have := HPK.out W (n + 3 + j) n hW (by omega) (by omega) (by omega)
              rwa [show ((n + 3 + j : Nat) : Int) = (n : Int) + 3 + (j : Int) by omega] at this
            clear HP hgo
            go_wp2_with fail
            refine HP1.out.mono ?_
            rintro e w' ⟨r, hr, rfl, rfl⟩
            have hrM : r ≤ M := by omega
            have hr1 : (r : Int) ≤ (cp' : Int) := by omega
            have hr2 : (r : Int) ≤ (M : Int) := by omega
            have hr3 : (0 : Int) ≤ (r : Int) := by omega
            have hr4 : (M : Int) ≤ (cp' : Int) := by omega
            obtain ⟨us, hus⟩ : ∃ us, pickL vs ks = us := ⟨_, rfl⟩
            have hul : us.length = M := by rw [← hus, pickL_len]; exact HA.out.2
            have hown : wr.ownsRow lo 47 2 (.slice (some ⟨g', 0, none⟩) M cp') M (cv us) := by rw [← hus]; exact HO.out
            have hok2 : VOk us := by rw [← hus]; exact pickL_ok HOK.out (by rw [HN.out]; exact HA.out.1.lt)
            have HN1 := Lib.hid (row_news hown hul).1
            have hltk : (cv (us.take r)).length = r * 2 := by rw [cv_len, List.length_take]; omega
            have hok3 : ∀ u ∈ cv (us.take r), u.oneCell' = true := VOk.one (fun x hx => hok2 x (List.mem_of_mem_take hx))
            have HLT := Lib.hid hltk; have HK3 := Lib.hid hok3; have HK2 := Lib.hid hok2; have HOW := Lib.hid hown; have HUL := Lib.hid hul; have HUS := Lib.hid hus
            clear hltk hok3 hok2 hown hul hus
            go_wp2_with (at_builtin; refine wpList_append_own_at _ rfl _ _ 25 rfl lo 47 i5 (.agg #[.int .i64 0, .slice none 0 0]) 2 32 Tryz.underlying25 hi5 jy0 jy1 jy2 rfl (by decide) (.slice none 0 0) 0 [] rfl (World.ownsRow_nil _ _ _ _) ⟨g', 0, none⟩ r cp' (cv (us.take r)) rfl HLT.out (HN1.out r) HK3.out (by unfold maxLen; omega) (by omega) hlr ?_; intro v3 w3 hown3 hgrow3 _ hat3)
            rw [Nat.zero_add, List.nil_append] at hown3
            have b3 : Below wr.heap.size wr w3 := (Below.refl _ _).grown hgrow3 (Nat.le_refl _) (fun g hg => by cases hg)
            have hB3 : Below lo w w3 := HR.out.trans (b3.mono hlr)
            have hg' := HOW.out.lt g' rfl
            have hv3 : ∀ q, v3.ownBlock = some q → wr.heap.size ≤ q := fun q hq => by
              rcases hat3 with h | h
              · rw [h] at hq; cases hq
              · rw [h] at hq; cases hq; exact Nat.le_refl _
            have HO3 := Lib.hid hown3; have B3 := Lib.hid b3; have HB3 := Lib.hid hB3; have HV3 := Lib.hid hv3
            have z3 : wr.heap.size ≤ w3.heap.size := b3.size
            clear hown3 hgrow3 hat3 b3 hB3 hv3
            refine (HP2.out w3 HB3.out).mono ?_
            rintro e w' ⟨x, hx, rfl, rfl⟩
            have hx2 : (x : Int) < (n : Int) := by omega
            obtain ⟨c1, c2⟩ := HC.out w3 HB3.out x hx
            obtain ⟨ax, nx, cx, ex⟩ := HOK.out _ (cG_mem (vs := vs) (k := x) (by rw [HN.out]; exact hx))
            obtain ⟨vx, hvx⟩ : ∃ y, (cG vs x).1 = y := ⟨_, rfl⟩
            rw [hvx] at c1; rw [ex] at c2
            have HX : Hid (cG vs x = (vx, .slice ax nx cx)) := Prod.ext hvx ex
            obtain ⟨W4, hW4⟩ : ∃ W, w3.alloc (.cells #[.int .i64 vx, .slice ax nx cx] 47) = W := ⟨_, rfl⟩
            have b4 : Below w3.heap.size w3 W4 := by rw [← hW4]; exact (Below.refl _ _).alloc (Nat.le_refl _) _
            have hcn : ∀ j y, ([.int .i64 vx, .slice ax nx cx] : List Value)[j]? = some y → W4.cell? ((⟨w3.heap.size, 0, none⟩ : Addr).add j) = some y := by rw [← hW4]; exact cells_two w3 _ _ _
            have ho4 : W4.ownsRow lo 47 2 v3 r (cv (us.take r)) := own_same HO3.out (fun q hq => b4.block q (HO3.out.lt q hq).2)
            have z4 : lo ≤ W4.heap.size := by have := b4.size; omega
            have HO4 := Lib.hid ho4; have HCN := Lib.hid hcn; have B4 : Hid (Below w3.heap.size w3 W4) := b4; have HW4 := Lib.hid hW4
            clear ho4 hcn b4 hW4 ex hvx
            have HKEY : Hid (∀ v5 w5, w5.ownsRow lo 47 2 v5 (r + 1) (cv (us.take r) ++ [.int .i64 vx, .slice ax nx cx]) → W4.grownBy w5 v3.ownBlock → (v5.ownBlock = v3.ownBlock ∨ v5.ownBlock = some W4.heap.size) →
                Hid (w5.ownsRow lo 47 2 v5 (r + 1) (cv (us.take r) ++ [.int .i64 vx, .slice ax nx cx])) ∧ Hid (Below lo w w5) ∧ Hid (∀ j u, (cv (us.drop r))[j]? = some u → w5.cell? ((⟨g', r * 2, none⟩ : Addr).add j) = some u) ∧ lo ≤ w5.heap.size) := fun v5 w5 h1 h2 h3 => by
              have hz := h2.size
              have hz4 := B4.out.size
              have hb4 : Below lo w W4 := HB3.out.trans (B4.out.mono (by omega))
              have hb5 : Below lo w w5 := hb4.grown h2 z4 (fun g hg => (HO4.out.lt g hg).1)
              have hgg : w5.heap[g']? = wr.heap[g']? := ((h2.block g' (by omega) (fun e => by have := HV3.out g' e.symm; omega)).trans (B4.out.block g' (by omega))).trans (B3.out.block g' hg'.2)
              have hrow : w5.ownsRow lo 47 2 (.slice (some ⟨g', 0, none⟩) M cp') M (cv us) := own_same HOW.out (fun q hq => by cases hq; exact hgg)
              exact ⟨h1, hb5, (row_news hrow HUL.out).2 r, by omega⟩
            have hld : (cv (us.drop r)).length = (M - r) * 2 := by rw [cv_len, List.length_drop, HUL.out]
            have hokd : ∀ u ∈ cv (us.drop r), u.oneCell' = true := VOk.one (fun x hx => HK2.out x (List.mem_of_mem_drop hx))
            have HLD := Lib.hid hld; have HKD := Lib.hid hokd
            have hmr : r + 1 + (M - r) = M + 1 := by omega
            have HMR := Lib.hid hmr
            clear hld hokd hmr
            have HREL : Hid (∀ v6 w6, w6.ownsRow lo 47 2 v6 (r + 1 + (M - r)) (cv (us.take r) ++ [.int .i64 vx, .slice ax nx cx] ++ cv (us.drop r)) → Below lo w w6 → ∃ (ks : List Nat) (j_1 M g' cp' : Nat), v6 = .slice (some ⟨g', 0, none⟩) M cp' ∧ Value.int .i64 ((j : Int) + 1) = .int .i64 (j_1 : Int) ∧ j_1 ≤ 3 ∧ Hid (M = n + j_1) ∧ M ≤ 19 ∧ M ≤ cp' ∧ cp' ≤ 9223372036854775807 ∧ Hid (Arr n ks ∧ ks.length = M) ∧ Hid (w6.ownsRow lo 47 2 (.slice (some ⟨g', 0, none⟩) M cp') M (cv (pickL vs ks))) ∧ Hid (Below lo w w6)) := fun v6 w6 h1 h2 => by
              have hM9 := HM.out
              have hlk := HA.out.2
              have h3 : cv (us.take r) ++ [.int .i64 vx, .slice ax nx cx] ++ cv (us.drop r) = cv (pickL vs (ks.take r ++ [x] ++ ks.drop r)) := by
                rw [← pickL_put, HUS.out, HX.out, cv_app, cv_app]; rfl
              rw [h3, HMR.out] at h1
              obtain ⟨g6, c6, rfl⟩ := ownsRow_succ h1
              obtain ⟨_, a', c', hv, hs, _⟩ := vs_of_own h1
              have q1 := hs.le; have q2 := hs.mx
              simp only [Value.slice.injEq] at hv
              have hl6 : (ks.take r ++ [x] ++ ks.drop r).length = M + 1 := by simp; omega
              rw [pickL_len] at q1
              exact ⟨_, j + 1, M + 1, g6, c6, rfl, by go_num, by omega, Lib.hid (by omega), by omega, by omega, by omega, Lib.hid ⟨HA.out.1.put hx r, hl6⟩, Lib.hid h1, Lib.hid h2⟩
            by_cases hcr : cp' = r
            · have hMr : M - r = 0 := by omega
              have HMr := Lib.hid hMr
              clear hMr
              go_wp2_with (first
                | (at_builtin; rw [show w3.alloc (.cells #[.int .i64 vx, .slice ax nx cx] 47) = W4 from HW4.out]; refine wpList_append_own_at _ rfl _ _ 25 rfl lo 47 i5 (.agg #[.int .i64 0, .slice none 0 0]) 2 32 Tryz.underlying25 hi5 jy0 jy1 jy2 rfl (by decide) v3 r (cv (us.take r)) rfl HO4.out ⟨w3.heap.size, 0, none⟩ 1 1 [.int .i64 vx, .slice ax nx cx] rfl rfl HCN.out (fun x hx => by simp at hx; rcases hx with rfl | rfl <;> rfl) (by unfold maxLen; omega) (by omega) z4 ?_; intro v5 w5 hown5 hgrow5 hnn5 hat5; obtain ⟨HO5, HB5, HN5, z5⟩ := HKEY.out v5 w5 hown5 hgrow5 hat5; clear hown5 hgrow5 hnn5 hat5; obtain ⟨a5, c5, rfl⟩ := own_slice HO5.out)
                | (at_builtin; refine wpList_append_own_at _ rfl _ _ 25 rfl lo 47 i5 (.agg #[.int .i64 0, .slice none 0 0]) 2 32 Tryz.underlying25 hi5 jy0 jy1 jy2 rfl (by decide) (.slice a5 (r + 1) c5) (r + 1) (cv (us.take r) ++ [.int .i64 vx, .slice ax nx cx]) rfl HO5.out _ (M - r) _ (cv (us.drop r)) rfl HLD.out (fun j u h => by have := (List.getElem?_eq_some_iff.1 h).1; have := HLD.out; have := HMr.out; omega) HKD.out (by unfold maxLen; omega) (by omega) z5 ?_; intro v6 w6 hown6 hgrow6 hnn6 hat6))
              have hb6 := HB5.out.grown hgrow6 z5 (fun g hg => (HO5.out.lt g hg).1)
              exact ⟨HREL.out v6 w6 hown6 hb6, by simp [intOf]; omega⟩
            · have hcr2 : ¬ (cp' : Int) = (r : Int) := by omega
              go_wp2_with (first
                | (at_builtin; rw [show w3.alloc (.cells #[.int .i64 vx, .slice ax nx cx] 47) = W4 from HW4.out]; refine wpList_append_own_at _ rfl _ _ 25 rfl lo 47 i5 (.agg #[.int .i64 0, .slice none 0 0]) 2 32 Tryz.underlying25 hi5 jy0 jy1 jy2 rfl (by decide) v3 r (cv (us.take r)) rfl HO4.out ⟨w3.heap.size, 0, none⟩ 1 1 [.int .i64 vx, .slice ax nx cx] rfl rfl HCN.out (fun x hx => by simp at hx; rcases hx with rfl | rfl <;> rfl) (by unfold maxLen; omega) (by omega) z4 ?_; intro v5 w5 hown5 hgrow5 hnn5 hat5; obtain ⟨HO5, HB5, HN5, z5⟩ := HKEY.out v5 w5 hown5 hgrow5 hat5; clear hown5 hgrow5 hnn5 hat5; obtain ⟨a5, c5, rfl⟩ := own_slice HO5.out)
                | (at_builtin; refine wpList_append_own_at _ rfl _ _ 25 rfl lo 47 i5 (.agg #[.int .i64 0, .slice none 0 0]) 2 32 Tryz.underlying25 hi5 jy0 jy1 jy2 rfl (by decide) (.slice a5 (r + 1) c5) (r + 1) (cv (us.take r) ++ [.int .i64 vx, .slice ax nx cx]) rfl HO5.out ⟨g', r * 2, none⟩ (M - r) (cp' - r) (cv (us.drop r)) rfl HLD.out HN5.out HKD.out (by unfold maxLen; omega) (by omega) z5 ?_; intro v6 w6 hown6 hgrow6 hnn6 hat6))
              have hb6 := HB5.out.grown hgrow6 z5 (fun g hg => (HO5.out.lt g hg).1)
              exact ⟨HREL.out v6 w6 hown6 hb6, by simp [intOf]; omega⟩
          · have hways : ¬ ((j : Int) < (n : Int)) ∨ ((j : Int) < (n : Int) ∧ ¬ ((j : Int) < 3)) := by omega
            have HQ : Hid (Arr n ks ∧ ks.length ≤ n + 3 ∧ wr.ownsRow lo 47 2 (.slice (some ⟨g', 0, none⟩) M cp') ks.length (cv (pickL vs ks)) ∧ Below lo w wr) := ⟨HA.out.1, by have := HM.out; rw [HA.out.2]; omega, by rw [HA.out.2]; exact HO.out, HR.out⟩
            clear hgo
            rcases hways with g1 | ⟨g1, g2⟩
            all_goals
              go_wp2_with fail
              go_ret
              exact ⟨_, rfl, ks, HQ.out⟩

end Go.Proofs.YtkehgoailhpenaaGreat

/- The library's contracts of slices.Sorted, maps.Keys and slices.Sort laid at this program: its own functions and types are those of the contracts. No conditions. -/
namespace Go.Proofs.YtkehgoailhpenaaGreat
open Go.RowKit Go.Shelf Go.Maps Go.Sort
def Hs.keysA_ren : Go.Shelf.Ren := ⟨fun | 7 => 51 | 10 => 69 | n => n, fun | 23 => 70 | 26 => 3 | 3 => 45 | 28 => 92 | 0 => 0 | 27 => 91 | 33 => 119 | 4 => 4 | n => n, fun | n => n⟩
theorem Hs.keysA : Go.Proofs.SlLaysZI.n7 Tryz.prog Hs.keysA_ren := {
  mixed := by kernel_rfl
  f7 := ⟨Tryz.f51.name, by decide, Tryz.func51.trans (congrArg some (by kernel_rfl))⟩
  f10 := ⟨Tryz.f69.name, by decide, Tryz.func69.trans (congrArg some (by kernel_rfl))⟩
  t0 := Tryz.underlying0
  a0 := Tryz.isAgg0
  z0 := Tryz.sizeOf0
  v0 := Tryz.zeroValue0
  t4 := Tryz.underlying4
  a4 := Tryz.isAgg4
  z4 := Tryz.sizeOf4
  v4 := Tryz.zeroValue4
  t23 := Tryz.underlying70
  a23 := Tryz.isAgg70
  z23 := Tryz.sizeOf70
  v23 := Tryz.zeroValue70
  t26 := Tryz.underlying3
  a26 := Tryz.isAgg3
  z26 := Tryz.sizeOf3
  v26 := Tryz.zeroValue3
  t27 := Tryz.underlying91
  a27 := Tryz.isAgg91
  z27 := Tryz.sizeOf91
  v27 := Tryz.zeroValue91
  t28 := Tryz.underlying92
  a28 := Tryz.isAgg92
  z28 := Tryz.sizeOf92
  v28 := Tryz.zeroValue92
  t33 := Tryz.underlying119
  a33 := Tryz.isAgg119
  z33 := Tryz.sizeOf119
  v33 := Tryz.zeroValue119 }
def Hs.sortedA_ren : Go.Shelf.Ren := ⟨fun | 6 => 50 | 8 => 67 | 9 => 68 | 11 => 84 | 13 => 86 | 12 => 85 | 23 => 105 | 24 => 106 | 14 => 96 | 15 => 97 | 16 => 98 | 17 => 99 | 18 => 100 | 19 => 101 | 20 => 102 | 21 => 103 | 22 => 104 | 25 => 113 | 26 => 114 | 27 => 115 | 28 => 116 | 29 => 117 | 30 => 118 | 31 => 121 | n => n, fun | 26 => 3 | 28 => 92 | 24 => 22 | 0 => 0 | 3 => 3 | 37 => 137 | 48 => 158 | 50 => 160 | 4 => 4 | 40 => 150 | 39 => 149 | 45 => 155 | 5 => 5 | 9 => 9 | 51 => 167 | 55 => 171 | 57 => 174 | 58 => 142 | 33 => 119 | n => n, fun | n => n⟩
theorem Hs.sortedA : Go.Proofs.SlLaysZI.n6 Tryz.prog Hs.sortedA_ren := {
  mixed := by kernel_rfl
  f6 := ⟨Tryz.f50.name, by decide, Tryz.func50.trans (congrArg some (by kernel_rfl))⟩
  f8 := ⟨Tryz.f67.name, by decide, Tryz.func67.trans (congrArg some (by kernel_rfl))⟩
  f11 := ⟨Tryz.f84.name, by decide, Tryz.func84.trans (congrArg some (by kernel_rfl))⟩
  t0 := Tryz.underlying0
  a0 := Tryz.isAgg0
  z0 := Tryz.sizeOf0
  v0 := Tryz.zeroValue0
  t24 := Tryz.underlying22
  a24 := Tryz.isAgg22
  z24 := Tryz.sizeOf22
  v24 := Tryz.zeroValue22
  t26 := Tryz.underlying3
  a26 := Tryz.isAgg3
  z26 := Tryz.sizeOf3
  v26 := Tryz.zeroValue3
  t28 := Tryz.underlying92
  a28 := Tryz.isAgg92
  z28 := Tryz.sizeOf92
  v28 := Tryz.zeroValue92
  i26 := by kernel_rfl }
def Hs.sortA_ren : Go.Shelf.Ren := ⟨fun | 5 => 68 | 8 => 86 | 7 => 85 | 19 => 105 | 20 => 106 | 10 => 96 | 11 => 97 | 12 => 98 | 13 => 99 | 14 => 100 | 15 => 101 | 16 => 102 | 17 => 103 | 18 => 104 | 30 => 113 | 31 => 114 | 32 => 115 | 33 => 116 | 34 => 117 | 35 => 118 | 40 => 121 | n => n, fun | 23 => 22 | 25 => 3 | 3 => 3 | 32 => 137 | 22 => 22 | 0 => 0 | 44 => 158 | 46 => 160 | 4 => 4 | 36 => 150 | 35 => 149 | 41 => 155 | 5 => 5 | 9 => 9 | 53 => 167 | 57 => 171 | 63 => 174 | 64 => 142 | n => n, fun | n => n⟩
theorem Hs.sortA : Go.Proofs.SlLaysM.n5 Tryz.prog Hs.sortA_ren := {
  mixed := by kernel_rfl
  f5 := ⟨Tryz.f68.name, by decide, Tryz.func68.trans (congrArg some (by kernel_rfl))⟩
  f7 := ⟨Tryz.f85.name, by decide, Tryz.func85.trans (congrArg some (by kernel_rfl))⟩
  f8 := Tryz.func86.trans (congrArg some (by kernel_rfl))
  f10 := ⟨Tryz.f96.name, by decide, Tryz.func96.trans (congrArg some (by kernel_rfl))⟩
  f11 := ⟨Tryz.f97.name, by decide, Tryz.func97.trans (congrArg some (by kernel_rfl))⟩
  f12 := ⟨Tryz.f98.name, by decide, Tryz.func98.trans (congrArg some (by kernel_rfl))⟩
  f13 := ⟨Tryz.f99.name, by decide, Tryz.func99.trans (congrArg some (by kernel_rfl))⟩
  f14 := ⟨Tryz.f100.name, by decide, Tryz.func100.trans (congrArg some (by kernel_rfl))⟩
  f15 := ⟨Tryz.f101.name, by decide, Tryz.func101.trans (congrArg some (by kernel_rfl))⟩
  f16 := ⟨Tryz.f102.name, by decide, Tryz.func102.trans (congrArg some (by kernel_rfl))⟩
  f17 := ⟨Tryz.f103.name, by decide, Tryz.func103.trans (congrArg some (by kernel_rfl))⟩
  f18 := ⟨Tryz.f104.name, by decide, Tryz.func104.trans (congrArg some (by kernel_rfl))⟩
  f19 := Tryz.func105.trans (congrArg some (by kernel_rfl))
  f20 := Tryz.func106.trans (congrArg some (by kernel_rfl))
  f30 := ⟨Tryz.f113.name, by decide, Tryz.func113.trans (congrArg some (by kernel_rfl))⟩
  f31 := Tryz.func114.trans (congrArg some (by kernel_rfl))
  f32 := Tryz.func115.trans (congrArg some (by kernel_rfl))
  f33 := ⟨Tryz.f116.name, by decide, Tryz.func116.trans (congrArg some (by kernel_rfl))⟩
  f34 := ⟨Tryz.f117.name, by decide, Tryz.func117.trans (congrArg some (by kernel_rfl))⟩
  f35 := ⟨Tryz.f118.name, by decide, Tryz.func118.trans (congrArg some (by kernel_rfl))⟩
  f40 := ⟨Tryz.f121.name, by decide, Tryz.func121.trans (congrArg some (by kernel_rfl))⟩
  t0 := Tryz.underlying0
  a0 := Tryz.isAgg0
  z0 := Tryz.sizeOf0
  v0 := Tryz.zeroValue0
  t3 := Tryz.underlying3
  a3 := Tryz.isAgg3
  z3 := Tryz.sizeOf3
  v3 := Tryz.zeroValue3
  t4 := Tryz.underlying4
  a4 := Tryz.isAgg4
  z4 := Tryz.sizeOf4
  v4 := Tryz.zeroValue4
  t5 := Tryz.underlying5
  a5 := Tryz.isAgg5
  z5 := Tryz.sizeOf5
  v5 := Tryz.zeroValue5
  t9 := Tryz.underlying9
  a9 := Tryz.isAgg9
  z9 := Tryz.sizeOf9
  v9 := Tryz.zeroValue9
  t22 := Tryz.underlying22
  a22 := Tryz.isAgg22
  z22 := Tryz.sizeOf22
  v22 := Tryz.zeroValue22
  t23 := Tryz.underlying22
  a23 := Tryz.isAgg22
  z23 := Tryz.sizeOf22
  v23 := Tryz.zeroValue22
  t25 := Tryz.underlying3
  a25 := Tryz.isAgg3
  z25 := Tryz.sizeOf3
  v25 := Tryz.zeroValue3
  t32 := Tryz.underlying137
  a32 := Tryz.isAgg137
  z32 := Tryz.sizeOf137
  v32 := Tryz.zeroValue137
  t35 := Tryz.underlying149
  a35 := Tryz.isAgg149
  z35 := Tryz.sizeOf149
  v35 := Tryz.zeroValue149
  t36 := Tryz.underlying150
  a36 := Tryz.isAgg150
  z36 := Tryz.sizeOf150
  v36 := Tryz.zeroValue150
  t41 := Tryz.underlying155
  a41 := Tryz.isAgg155
  z41 := Tryz.sizeOf155
  v41 := Tryz.zeroValue155
  t44 := Tryz.underlying158
  a44 := Tryz.isAgg158
  z44 := Tryz.sizeOf158
  v44 := Tryz.zeroValue158
  t46 := Tryz.underlying160
  a46 := Tryz.isAgg160
  z46 := Tryz.sizeOf160
  v46 := Tryz.zeroValue160
  t53 := Tryz.underlying167
  a53 := Tryz.isAgg167
  z53 := Tryz.sizeOf167
  v53 := Tryz.zeroValue167
  t57 := Tryz.underlying171
  a57 := Tryz.isAgg171
  z57 := Tryz.sizeOf171
  v57 := Tryz.zeroValue171
  t63 := Tryz.underlying174
  a63 := Tryz.isAgg174
  z63 := Tryz.sizeOf174
  v63 := Tryz.zeroValue174
  t64 := Tryz.underlying142
  a64 := Tryz.isAgg142
  z64 := Tryz.sizeOf142
  v64 := Tryz.zeroValue142 }
end Go.Proofs.YtkehgoailhpenaaGreat

/- The contract of Held. It has no conditions. -/
namespace Go.Proofs.YtkehgoailhpenaaGreat
open Go.RowKit Go.Shelf Go.Maps Go.Sort
set_option linter.unusedVariables false


/-- slices.Sort's two contracts at this dump, at the fence that asks nothing. -/
theorem Hs.sortsA (m : Nat) : AnyZI.SortsIn Tryz.prog Hs.sortedA_ren Fence.wide m :=
  ⟨fun blk off cap ss W hH hblk hsz => callsIn_wide.2 (AnyM.slices_Sort_int Hs.sortA blk off cap ss W hH hblk hsz),
   fun p cap W => callsIn_wide.2 (AnyM.slices_Sort_int_none Hs.sortA p cap W)⟩

set_option maxHeartbeats 4000000 in
theorem held_any (T G : Nat → Prop) (p : Nat) (s : DS) (w : World) (h : DocI T G w p s) :
    Calls Tryz.prog 21 #[.pointer (some ⟨p, 0, none⟩)] w fun e w' => ∃ (v : Value) (ss : List Int) (D : DataW Value), e = .returned v ∧ HeldOk G w D s.hs ∧ (∃ m, w.ownsMap Tryz.prog 3 RH m (Maps.size D) D) ∧ ss.Perm (intKeys D) ∧
      w'.ownsRow w.heap.size 3 1 v ss.length ((ss.mergeSort (fun x y => decide (x ≤ y))).map encZ) ∧ (v = .slice none 0 0 ↔ ss = []) ∧ Below w.heap.size w w' := by
  obtain ⟨g, cp, b, n', D0, _, _, _, _, c2, hown, hh, hTm, hpW⟩ := h.full
  have hl16 := h.ok.hlen
  have hsz := hh.size
  have hmax : Maps.size D0 ≤ maxLen := by unfold maxLen; omega
  have hbytes : Maps.size D0 * 8 ≤ 140737488355328 := by omega
  have HO := Lib.hid hown; have HH := Lib.hid hh
  refine (callsIn_wide (n := 6)).1 ?_
  have hbl := hown.lt
  have hseq : SeqGives Fence.wide 2 Tryz.prog 69 #[.pointer (some ⟨w.heap.size, 0, none⟩)] encZ (fun ss => ss.Perm (intKeys D0)) (Maps.size D0) (w.alloc (.cells #[.map (some b)] 70)) :=
    AnyZI.keys_gives (ρ := Hs.keysA_ren) { Hs.keysA with } Fence.wide _ trivial rfl (by omega) w.heap.size b (Maps.size D0) D0 _ (by simp) (by simp) (by
      obtain ⟨es, clock, hb, Ft, hs, hD⟩ := hown
      exact ⟨es, clock, (Below.heap_alloc _ _ b hbl).trans hb, Ft, hs, hD⟩)
  have cK : ∀ mb W, CallsIn Fence.wide 5 Tryz.prog 51 #[.map mb] W fun e w' => e = .returned (.func (.func 69) #[] #[.pointer (some ⟨W.heap.size, 0, none⟩)]) ∧ w' = W.alloc (.cells #[.map mb] 70) := fun mb W => AnyZI.keys_in Hs.keysA Fence.wide 5 trivial rfl mb W
  have cS := AnyZI.sorted_in Hs.sortedA Fence.wide 5 trivial trivial trivial trivial rfl (by omega) (Hs.sortsA _) (enters_of Tryz.func68 (by kernel_rfl) rfl) 69 #[.pointer (some ⟨w.heap.size, 0, none⟩)] trivial (enters_of Tryz.func69 (by kernel_rfl) rfl) _ _ hmax hbytes _ hseq
  change CallsIn _ _ Tryz.prog 50 _ _ _ at cS
  have hfK : Fence.wide.fn 51 := trivial
  have hfS : Fence.wide.fn 50 := trivial
  refine callsIn_of_wp Tryz.func21 rfl trivial ?_ rfl
  simp only [Tryz.ntmps21, List.size_toArray, List.length_cons, List.length_nil, Nat.reduceAdd, Nat.reduceSub, Array.replicate_succ, Array.replicate_zero, List.push_toArray, List.append_toArray, List.nil_append, List.cons_append]
  gi_wp2_with (first
    | (gi_at_call 51; refine (cK _ _).mono ?_; rintro e w' ⟨rfl, rfl⟩)
    | (gi_at_call 50; refine cS.mono ?_; rintro e w' ⟨v, ss, rfl, hS, hrow, hnil, hb⟩))
  go_ret
  exact ⟨v, ss, D0, rfl, HH.out, ⟨b, HO.out⟩, hS, ownsRow_base_a hrow (by simp), hnil, ((Below.refl _ w).alloc (Nat.le_refl _) _).trans (hb.mono (by simp))⟩

end Go.Proofs.YtkehgoailhpenaaGreat

/- What Held answers, in the words of the document's state. It has no conditions. -/
namespace Go.Proofs.YtkehgoailhpenaaGreat
open Go.RowKit Go.Shelf Go.Maps Go.Sort
set_option linter.unusedVariables false

/-- The versions of the held changes, ascending. -/
def heldL (s : DS) : List Int := (s.hs.map Prod.fst).mergeSort leI
theorem heldL_len (s : DS) : (heldL s).length = s.hs.length := by unfold heldL; rw [List.length_mergeSort, List.length_map]
theorem held_perm {G : Nat → Prop} {w : World} {D : DataW Value} {hs : List (Int × List PE)} {m : Nat} (hh : HeldOk G w D hs) (hm : w.ownsMap Tryz.prog 3 RH m (Maps.size D) D) : (hs.map Prod.fst).Perm (intKeys D) := by
  have h : CollectedI D (fun _ => false) (hs.map Prod.fst) := ⟨hh.nodup, fun x => by have := hh.keys x; unfold kI at this; rw [this]; simp⟩
  exact h.perm hm keyInt Tryz.underlying3 (fun _ => rfl)
theorem held_all (T G : Nat → Prop) (p : Nat) (s : DS) (w : World) (h : DocI T G w p s) :
    Calls Tryz.prog 21 #[.pointer (some ⟨p, 0, none⟩)] w fun e w' => ∃ (a : Option Addr) (cap : Nat), e = .returned (.slice a s.hs.length cap) ∧
      w'.ownsRow w.heap.size 3 1 (.slice a s.hs.length cap) s.hs.length ((heldL s).map encZ) ∧ Below w.heap.size w w' := by
  refine (held_any T G p s w h).mono ?_
  rintro e w' ⟨v, ss, D, rfl, hh, ⟨m, hm⟩, hp, hrow, _, hb⟩
  have h1 := held_perm hh hm
  have h2 : ss.Perm (s.hs.map Prod.fst) := hp.trans h1.symm
  have h3 : ss.mergeSort leI = heldL s := by
    refine List.Perm.eq_of_pairwise (le := fun a b => leI a b = true) ?_ ?_ ?_ ((List.mergeSort_perm ss leI).trans (h2.trans (List.mergeSort_perm (s.hs.map Prod.fst) leI).symm))
    · intro a b _ _ h1 h2
      simp only [leI, decide_eq_true_eq] at h1 h2
      omega
    · exact List.pairwise_mergeSort (fun a b c h1 h2 => by simp only [leI, decide_eq_true_eq] at *; omega) (fun a b => by simp only [leI, Bool.or_eq_true, decide_eq_true_eq]; omega) ss
    · exact List.pairwise_mergeSort (fun a b c h1 h2 => by simp only [leI, decide_eq_true_eq] at *; omega) (fun a b => by simp only [leI, Bool.or_eq_true, decide_eq_true_eq]; omega) _
  have h4 : ss.length = s.hs.length := by rw [h2.length_eq, List.length_map]
  rw [show (fun x y : Int => decide (x ≤ y)) = leI from rfl, h3, h4] at hrow
  obtain ⟨a, c, rfl⟩ := own_slice hrow
  exact ⟨a, c, rfl, hrow, hb⟩

end Go.Proofs.YtkehgoailhpenaaGreat

/- The walk of DocumentCopies. It has no conditions. -/
namespace Go.Proofs.YtkehgoailhpenaaGreat
open Go.RowKit Go.Shelf Go.Maps
set_option linter.unusedVariables false

/-- What a call on a document keeps, of blocks below B that it does not write. -/
structure Sec (B : Nat) (W : World) (T G G0 : Nat → Prop) : Prop where
  t : ∀ b, T b → B ≤ b
  g : ∀ b, G b → G0 b ∨ B ≤ b
  z : B ≤ W.heap.size
theorem Sec.step {B : Nat} {W W' : World} {T G T' G' G0 : Nat → Prop} (h : Sec B W T G G0) (k : Stp T G T' G' W W') : Sec B W' T' G' G0 := by
  have hz := k.only.size
  have h0 := h.z
  exact ⟨fun b hb => (k.t b hb).elim (h.t b) (fun e => by omega), fun b hb => (k.g b hb).elim (h.g b) (fun e => .inr (by omega)), by omega⟩
theorem Sec.mono {B : Nat} {W W' : World} {T G G0 : Nat → Prop} (h : Sec B W T G G0) (k : W.heap.size ≤ W'.heap.size) : Sec B W' T G G0 := ⟨h.t, h.g, Nat.le_trans h.z k⟩

set_option maxRecDepth 100000 in
set_option maxHeartbeats 8000000 in
theorem walkDCop (a0 : Option Addr) (cap0 : Nat) (ls : List Int) (a1 : Option Addr) (cap1 : Nat) (ns : List Int) (cut : Int) (w : World)
    (h0 : Sli .i64 w a0 cap0 ls) (hi0 : ∀ n ∈ ls, -9223372036854775808 ≤ n ∧ n ≤ 9223372036854775807) (h1 : Sli .i64 w a1 cap1 ns) (hi1 : ∀ n ∈ ns, -9223372036854775808 ≤ n ∧ n ≤ 9223372036854775807) (h2 : -9223372036854775808 ≤ cut ∧ cut ≤ 9223372036854775807) :
    Calls Tryz.prog 5 #[.slice a0 ls.length cap0, .slice a1 ns.length cap1, .int .i64 cut] w fun e w' => e = .returned (.bool true) ∧ Below w.heap.size w w' := by
  have cC := chain_any a0 cap0 ls 8 w h0 hi0 (by omega)
  obtain ⟨n0, hn0⟩ : ∃ n, ls.length = n := ⟨_, rfl⟩
  obtain ⟨n1, hn1⟩ : ∃ n, ns.length = n := ⟨_, rfl⟩
  have hsl : SlI w.heap.size w a1 n1 := by have := SlI.of h1 hi1; rwa [hn1] at this
  have hc1 : n1 ≤ cap1 := by have := h1.le; omega
  have hm1 := h1.mx
  rw [hn0] at cC ⊢
  rw [hn1]
  have CC := Lib.hid cC; have HSL := Lib.hid hsl
  clear cC h0 hi0 h1 hi1 hsl hn0 hn1
  go_enter Tryz.func5, Tryz.ntmps5
  go_wp2_with fail
  refine CC.out.mono ?_
  rintro e w1 ⟨S, cs, vs, v, rfl, hSz, _, hcl, hF, hown, hV, hb1⟩
  obtain ⟨n, hn⟩ : ∃ n, cs.length = n := ⟨_, rfl⟩
  have hvn : vs.length = n := by rw [hV.1, hn]
  obtain ⟨_, ac, cc, rfl, hVS, _, _⟩ := vs_of_own hown
  have CS := shuffled_any ac cc vs a1 n1 cap1 w1 hVS (by omega) hV.ok (HSL.out.on hb1) hc1 hm1
  rw [hvn] at CS ⊢
  rw [hn] at hcl
  have HCS := Lib.hid CS; have HV1 := Lib.hid hV
  have H1 := Lib.hid hb1; have HF := Lib.hid hF; have HN := Lib.hid hn
  clear hVS hV hown hb1 hF hn hvn CC CS
  go_wp2_with fail
  refine HCS.out.mono ?_
  rintro e w2 ⟨v9, ks, rfl, hA, hkl, hown9, hb2⟩
  obtain ⟨N9, hN9⟩ : ∃ x, ks.length = x := ⟨_, rfl⟩
  obtain ⟨hl9, a9, c9, rfl, hV9, _, _⟩ := vs_of_own hown9
  have hpl : (pickL vs ks).length = N9 := by rw [pickL_len, hN9]
  rw [hpl]
  rw [hN9] at hkl
  have HCH : Hid (∀ W, Below w2.heap.size w2 W → VS w2.heap.size W a9 c9 (pickL vs ks) ∧ Held1 (fun _ => True) W vs cs) := fun W hW =>
    ⟨hV9.keep (fun b _ hlt => hW.block b hlt), (HV1.out.keep (G' := fun _ => True) hb2.size (fun b _ hlt => hb2.block b hlt) (fun b _ _ => trivial)).keep hW.size (fun b _ hlt => hW.block b hlt) (fun b _ hlt => trivial)⟩
  have HKS : Hid (∀ k ∈ ks, k < cs.length) := fun k hk => by rw [HN.out]; exact hA.lt k hk
  have HNN := Lib.hid hN9
  have H2 : Hid (Below w.heap.size w w2) := H1.out.trans (hb2.mono H1.out.size)
  have CA := around_any cut (N9 + 1) w2 h2.1 h2.2 (by omega) (by omega)
  rw [show ((N9 + 1 : Nat) : Int) = (N9 : Int) + 1 by omega] at CA
  have HCA := Lib.hid CA
  have m0 : IntKind.i64.wrap ((N9 : Int) + 1) = (N9 : Int) + 1 := by simp [IntKind.wrap, IntKind.signed, IntKind.bits]; omega
  have hE : newE S 0 = 0 := by unfold newE; rw [if_neg (by omega), if_neg (by omega)]
  have HNW : Hid (∀ W, Calls Tryz.prog 7 #[.string S, .int .i64 0] W fun e w' => ∃ p, e = .returned (.tuple #[.pointer (some ⟨p, 0, none⟩), .int .i64 0]) ∧ DocI (newB W w') (fun _ => False) w' p (newS S 0) ∧ Below W.heap.size W w') := fun W => (new_any S 0 W).mono (by
    rintro e w' hw
    rcases hw with ⟨h, _⟩ | ⟨_, p, h1, h2, h3⟩
    · exact absurd hE h
    · exact ⟨p, by rw [h1], h2, h3⟩)
  have HRUN : Hid (∀ i, Ord S cs (run cs (ks.take i) (newS S 0)) ∧ Lnk (run cs (ks.take i) (newS S 0))) := fun i => run_ok HF.out (by have := HN.out; omega) _ _ (fun k hk => HKS.out k (List.mem_of_mem_take hk)) (Ord.new S cs) (Lnk.new S 0 rfl)
  have hN9b : N9 ≤ 11 := by omega
  clear hA hown9 hb2 hl9 hV9 hpl hN9 HCS HV1 CA hE
  go_wp2_with fail
  refine HCA.out.mono ?_
  rintro e w' ⟨k, hk, rfl, rfl⟩
  go_wp2_with fail
  refine (HNW.out w2).mono ?_
  rintro e w3 ⟨pd, rfl, hd, b3⟩
  obtain ⟨s0, hs0⟩ : ∃ s, newS S 0 = s := ⟨_, rfl⟩
  rw [hs0] at hd HRUN
  have HD3 := Lib.hid hd
  have HB3 : Hid (Below w2.heap.size w2 w3) := b3
  have HZ3 : Hid (Sec w2.heap.size w3 (newB w2 w3) (fun _ => False) (fun _ => False)) := ⟨fun b hb => hb.1, fun b hb => .inl hb, b3.size⟩
  clear hd b3 HNW hs0 HCA
  have hk2 : (k : Int) ≤ (N9 : Int) := by omega
  go_wp2_with fail
  go_loopw [13] (fun q wr => ∃ (i : Nat) (T G : Nat → Prop), q = .int .i64 (i : Int) ∧ i ≤ k ∧ Hid (DocI T G wr pd (run cs (ks.take i) s0)) ∧ Hid (Below w2.heap.size w2 wr) ∧ Hid (Sec w2.heap.size wr T G (fun _ => False))) (fun q _ => k - (intOf q).toNat)
  case atStart => exact ⟨0, _, _, rfl, by omega, HD3, HB3, HZ3⟩
  case round =>
    obtain ⟨i, T, G, rfl, hi, HD, HB, HZ⟩ := hrel
    have m1 : IntKind.i64.wrap ((i : Int) + 1) = (i : Int) + 1 := by simp [IntKind.wrap, IntKind.signed, IntKind.bits]; omega
    by_cases hin : i < k
    · have hin2 : (i : Int) < (k : Int) := by omega
      have hin3 : (i : Int) < (N9 : Int) := by omega
      obtain ⟨hu, hh⟩ := HCH.out wr HB.out
      obtain ⟨b, off, x, ap, np, cp, rfl, c1, c2, HCR⟩ := rcv_at HD.out HF.out (by have := HN.out; omega) hh hu (by have := HNN.out; omega) HKS.out
      clear hu hh
      go_wp2_with fail
      refine HCR.out.mono ?_
      rintro e w5 ⟨⟨x1, x2, rfl⟩, T', G', hd, hs⟩
      have HD5 := Lib.hid hd
      have HB5 : Hid (Below w2.heap.size w2 w5) := HB.out.trans (hs.below HZ.out.z HZ.out.t)
      have HZ5 : Hid (Sec w2.heap.size w5 T' G' (fun _ => False)) := HZ.out.step hs
      clear hd hs HCR c1 c2
      go_wp2
      go_roundw
      case rel => exact ⟨i + 1, T', G', by go_num, by omega, HD5, HB5, HZ5⟩
      case measure => simp [intOf]; omega
    · have hin2 : ¬ ((i : Int) < (k : Int)) := by omega
      have hik : i = k := by omega
      rw [hik] at HD
      clear hik hin hi m1
      obtain ⟨s1, hs1⟩ : ∃ s, run cs (ks.take k) s0 = s := ⟨_, rfl⟩
      rw [hs1] at HD
      obtain ⟨t1, ht1⟩ : ∃ t, s1.text = t := ⟨_, rfl⟩
      obtain ⟨L, hL⟩ : ∃ l, heldL s1 = l := ⟨_, rfl⟩
      obtain ⟨nh, hnh⟩ : ∃ l, s1.hs.length = l := ⟨_, rfl⟩
      have hLn : L.length = nh := by rw [← hL, heldL_len, hnh]
      have hnh16 : nh ≤ 16 := by rw [← hnh]; exact HD.out.ok.hlen
      have HTXT : Hid (∀ (T G : Nat → Prop) W, DocI T G W pd s1 → Calls Tryz.prog 13 #[.pointer (some ⟨pd, 0, none⟩)] W fun e w' => e = .returned (.string t1) ∧ Below W.heap.size W w') := fun T G W h => by
        have := text_any T G pd s1 W h
        rwa [ht1] at this
      have HHLD : Hid (∀ (T G : Nat → Prop) W, DocI T G W pd s1 → Calls Tryz.prog 21 #[.pointer (some ⟨pd, 0, none⟩)] W fun e w' => ∃ a c, e = .returned (.slice a nh c) ∧ Sli .i64 w' a c L ∧ Below W.heap.size W w') := fun T G W h => by
        have := held_all T G pd s1 W h
        rw [hnh, hL] at this
        refine this.mono ?_
        rintro e w' ⟨a, c, rfl, hrow, hb⟩
        obtain ⟨_, a', c', hv, hs⟩ := sli_of_own (k := .i64) (zs := L) hrow
        rw [hLn] at hv
        simp only [Value.slice.injEq] at hv
        obtain ⟨rfl, -, rfl⟩ := hv
        exact ⟨a, c, rfl, hs, hb⟩
      have HSI : Hid (∀ W a c a' c', Sli .i64 W a c L → Sli .i64 W a' c' L → Calls Tryz.prog 24 #[.slice a nh c, .slice a' nh c'] W fun e w' => e = .returned (.bool true) ∧ Below W.heap.size W w') := fun W a c a' c' h h' => by
        have := sameInts_any a a' c c' L L W h h' (by omega) (by omega)
        rwa [hLn, show decide (L = L) = true by simp] at this
      have HS1 := Lib.hid hs1
      clear ht1 hL hnh hLn hs1
      go_wp2_with fail
      refine (HTXT.out T G wr HD.out).mono ?_
      rintro e w5 ⟨rfl, b5⟩
      have HD5 : Hid (DocI T G w5 pd s1) := HD.out.below b5
      have HB5 : Hid (Below w2.heap.size w2 w5) := HB.out.trans (b5.mono HB.out.size)
      clear b5
      go_wp2_with fail
      refine (HHLD.out T G w5 HD5.out).mono ?_
      rintro e w6 ⟨ah, ch, rfl, hsl6, b6⟩
      have HD6 : Hid (DocI T G w6 pd s1) := HD5.out.below b6
      have HB6 : Hid (Below w2.heap.size w2 w6) := HB5.out.trans (b6.mono HB5.out.size)
      have HSL6 : Hid (Sli .i64 w6 ah ch L) := hsl6
      have HCY := Lib.hid (dcopy_any T G pd s1 w6 HD6.out)
      clear b6 hsl6
      go_wp2_with fail
      refine HCY.out.mono ?_
      rintro e w7 ⟨px, rfl, hx, b7⟩
      have HX7 : Hid (DocI (newB w6 w7) G w7 px (run cs (ks.take k) s0)) := by rw [HS1.out]; exact hx
      have HD7 : Hid (DocI T G w7 pd s1) := HD6.out.below b7
      have HB7 : Hid (Below w6.heap.size w6 w7) := b7
      have HZ7 : Hid (Sec w6.heap.size w7 (newB w6 w7) G G) := ⟨fun b hb => hb.1, fun b hb => .inl hb, b7.size⟩
      have HLT6 : Hid (∀ b, T b ∨ G b → b < w6.heap.size) := fun b hb => hb.elim (HD6.out.lt b) (HD6.out.glt b)
      have HT2 : Hid (∀ b, T b → w2.heap.size ≤ b) := HZ.out.t
      clear hx b7 HCY HZ HB HD
      go_wp2_with fail
      go_loopw [17] (fun q wr => ∃ (i : Nat) (T' G' : Nat → Prop), q = .int .i64 (i : Int) ∧ i ≤ N9 ∧ Hid (DocI T' G' wr px (run cs (ks.take i) s0)) ∧ Hid (DocI T G wr pd s1) ∧ Hid (Below w6.heap.size w6 wr) ∧ Hid (Sec w6.heap.size wr T' G' G)) (fun q _ => N9 - (intOf q).toNat)
      case atStart => exact ⟨k, _, _, rfl, by omega, HX7, HD7, HB7, HZ7⟩
      case round =>
        obtain ⟨i, T', G', rfl, hi, HX, HD, HB, HZ⟩ := hrel
        have m1 : IntKind.i64.wrap ((i : Int) + 1) = (i : Int) + 1 := by simp [IntKind.wrap, IntKind.signed, IntKind.bits]; omega
        have HB2 : Hid (Below w2.heap.size w2 wr) := HB6.out.trans (HB.out.mono HB6.out.size)
        by_cases hin : i < N9
        · have hin2 : (i : Int) < (N9 : Int) := by omega
          obtain ⟨hu, hh⟩ := HCH.out wr HB2.out
          obtain ⟨b, off, x, ap, np, cp, rfl, c1, c2, HCR⟩ := rcv_at HX.out HF.out (by have := HN.out; omega) hh hu (by have := HNN.out; omega) HKS.out
          clear hu hh
          go_wp2_with fail
          refine HCR.out.mono ?_
          rintro e w8 ⟨⟨x1, x2, rfl⟩, T2, G2, hd, hs⟩
          have HX8 := Lib.hid hd
          have HD8 : Hid (DocI T G w8 pd s1) := HD.out.apartFrom hs (fun b hb hT => by have := HLT6.out b hb; have := HZ.out.t b hT; omega)
          have HB8 : Hid (Below w6.heap.size w6 w8) := HB.out.trans (hs.below HZ.out.z HZ.out.t)
          have HZ8 : Hid (Sec w6.heap.size w8 T2 G2 G) := HZ.out.step hs
          clear hd hs HCR c1 c2
          go_wp2
          go_roundw
          case rel => exact ⟨i + 1, T2, G2, by go_num, by omega, HX8, HD8, HB8, HZ8⟩
          case measure => simp [intOf]; omega
        · have hin2 : ¬ ((i : Int) < (N9 : Int)) := by omega
          have hik : i = N9 := by omega
          rw [hik] at HX
          have hall : ks.take N9 = ks := by rw [← HNN.out, List.take_length]
          rw [hall] at HX
          obtain ⟨sF, hsF⟩ : ∃ s, run cs ks s0 = s := ⟨_, rfl⟩
          rw [hsF] at HX
          have HOF : Hid (Ord S cs sF ∧ Lnk sF) := by have := HRUN.out N9; rw [hall, hsF] at this; exact this
          have HSF : Hid (run cs (ks.take N9) s0 = sF) := Lib.hid (by rw [hall, hsF])
          have qt1 : (t1.toList != t1.toList) = false := by simp
          clear hik hin hi m1 hall hsF
          go_wp2_with fail
          refine (HTXT.out T G wr HD.out).mono ?_
          rintro e w8 ⟨rfl, b8⟩
          have HD8 : Hid (DocI T G w8 pd s1) := HD.out.below b8
          have HX8 : Hid (DocI T' G' w8 px sF) := HX.out.below b8
          have HB8 : Hid (Below w6.heap.size w6 w8) := HB.out.trans (b8.mono HB.out.size)
          clear b8
          go_wp2_with fail
          refine (HHLD.out T G w8 HD8.out).mono ?_
          rintro e w9 ⟨a9', c9', rfl, hsl9, b9⟩
          have HD9 : Hid (DocI T G w9 pd s1) := HD8.out.below b9
          have HX9 : Hid (DocI T' G' w9 px sF) := HX8.out.below b9
          have HB9 : Hid (Below w6.heap.size w6 w9) := HB8.out.trans (b9.mono HB8.out.size)
          have HSI9 := Lib.hid (HSI.out w9 a9' c9' ah ch hsl9 (HSL6.out.below HB9.out))
          clear b9 hsl9
          go_wp2_with fail
          refine HSI9.out.mono ?_
          rintro e w10 ⟨rfl, b10⟩
          have HDk : Hid (DocI T G w10 pd (run cs (ks.take k) s0)) := by rw [HS1.out]; exact HD9.out.below b10
          have HX10 : Hid (DocI T' G' w10 px sF) := HX9.out.below b10
          have HB10 : Hid (Below w6.heap.size w6 w10) := HB9.out.trans (b10.mono HB9.out.size)
          have HB210 : Hid (Below w2.heap.size w2 w10) := HB6.out.trans (HB10.out.mono HB6.out.size)
          have HXS : Hid (∀ b, T' b ∨ G' b → ¬ T b ∧ b < w10.heap.size) := fun b hb => by
            refine ⟨fun hT => ?_, hb.elim (HX10.out.lt b) (HX10.out.glt b)⟩
            have h6 := HLT6.out b (.inl hT)
            rcases hb with hb | hb
            · have := HZ.out.t b hb; omega
            · rcases HZ.out.g b hb with h | h
              · exact HD9.out.apart b hT h
              · omega
          have HZ26 : Hid (w2.heap.size ≤ w10.heap.size) := HB210.out.size
          clear b10 HZ HB HB8 HB9 HD HX HX8 HX9 HD8
          go_wp2_with fail
          go_loopw [18] (fun q wr => ∃ (i : Nat) (T2 G2 : Nat → Prop), q = .int .i64 (i : Int) ∧ i ≤ N9 ∧ Hid (DocI T2 G2 wr pd (run cs (ks.take i) s0)) ∧ Hid (DocI T' G' wr px sF) ∧ Hid (Below w2.heap.size w2 wr) ∧ Hid (w10.heap.size ≤ wr.heap.size ∧ ∀ b, T2 b → T b ∨ w10.heap.size ≤ b)) (fun q _ => N9 - (intOf q).toNat)
          case atStart => exact ⟨k, _, _, rfl, by omega, HDk, HX10, HB210, Lib.hid ⟨Nat.le_refl _, fun b h => .inl h⟩⟩
          case round =>
            obtain ⟨i, T2, G2, rfl, hi, HD, HX, HB, HZ⟩ := hrel
            have m1 : IntKind.i64.wrap ((i : Int) + 1) = (i : Int) + 1 := by simp [IntKind.wrap, IntKind.signed, IntKind.bits]; omega
            by_cases hin : i < N9
            · have hin2 : (i : Int) < (N9 : Int) := by omega
              obtain ⟨hu, hh⟩ := HCH.out wr HB.out
              obtain ⟨b, off, x, ap, np, cp, rfl, c1, c2, HCR⟩ := rcv_at HD.out HF.out (by have := HN.out; omega) hh hu (by have := HNN.out; omega) HKS.out
              clear hu hh
              go_wp2_with fail
              refine HCR.out.mono ?_
              rintro e w11 ⟨⟨x1, x2, rfl⟩, T3, G3, hd, hs⟩
              have hz := hs.only.size
              have hz1 := HZ.out.1
              have hz2 := HZ26.out
              have HD11 := Lib.hid hd
              have HX11 : Hid (DocI T' G' w11 px sF) := HX.out.apartFrom hs (fun b hb hT => by
                have h1 := HXS.out b hb
                rcases HZ.out.2 b hT with h | h
                · exact h1.1 h
                · omega)
              have HB11 : Hid (Below w2.heap.size w2 w11) := HB.out.trans (hs.below (by omega) (fun b hT => by
                rcases HZ.out.2 b hT with h | h
                · exact HT2.out b h
                · omega))
              have HZ11 : Hid (w10.heap.size ≤ w11.heap.size ∧ ∀ b, T3 b → T b ∨ w10.heap.size ≤ b) := ⟨by omega, fun b hb => by
                rcases hs.t b hb with h | h
                · exact HZ.out.2 b h
                · exact .inr (by omega)⟩
              clear hd hs HCR c1 c2 hz hz1 hz2
              go_wp2
              go_roundw
              case rel => exact ⟨i + 1, T3, G3, by go_num, by omega, HD11, HX11, HB11, HZ11⟩
              case measure => simp [intOf]; omega
            · have hin2 : ¬ ((i : Int) < (N9 : Int)) := by omega
              have hik : i = N9 := by omega
              rw [hik, HSF.out] at HD
              obtain ⟨m, hm1, hm2, _⟩ := HOF.out.1.m
              have hv8 : sF.v ≤ 8 := by have := HN.out; omega
              obtain ⟨hk0, R, ho, hsn, hRl⟩ := HOF.out.2.since hv8 HD.out.ok.text
              have hin0 : oldS sF ≤ 0 ∧ 0 ≤ sF.v := ⟨by omega, by omega⟩
              have HSN : Hid (∀ (T G : Nat → Prop) p W, DocI T G W p sF → Calls Tryz.prog 27 #[.pointer (some ⟨p, 0, none⟩), .int .i64 0] W (NewES W R 0)) := fun T G p W h => since_any T G p sF W h 0 (by omega) (by omega) hin0 0 (by rw [ho]; rfl) hk0 R hsn
              obtain ⟨nR, hnR⟩ : ∃ x, R.length = x := ⟨_, rfl⟩
              obtain ⟨tF, htF⟩ : ∃ x, sF.text = x := ⟨_, rfl⟩
              obtain ⟨vF, hvF⟩ : ∃ x, sF.v = x := ⟨_, rfl⟩
              have HTF : Hid (∀ (T G : Nat → Prop) p W, DocI T G W p sF → Calls Tryz.prog 13 #[.pointer (some ⟨p, 0, none⟩)] W fun e w' => e = .returned (.string tF) ∧ Below W.heap.size W w') := fun T G p W h => by
                have := text_any T G p sF W h
                rwa [htF] at this
              have HVF : Hid (∀ (T G : Nat → Prop) p W, DocI T G W p sF → Calls Tryz.prog 20 #[.pointer (some ⟨p, 0, none⟩)] W fun e w' => e = .returned (.int .i64 vF) ∧ W = w') := fun T G p W h => by
                have := version_any T G p sF W h
                rwa [hvF] at this
              have HSM : Hid (∀ W a c a' c', ES W.heap.size W a c R → ES W.heap.size W a' c' R → Calls Tryz.prog 28 #[.slice a nR c, .slice a' nR c'] W fun e w' => e = .returned (.bool true) ∧ Below W.heap.size W w') := fun W a c a' c' h h' => by
                have := same_any a a' c c' R W (by omega) h h'
                rwa [hnR] at this
              have HNR := Lib.hid hnR
              have qtF : (tF.toList == tF.toList) = true := by simp
              have qvF : (vF == vF) = true := by simp
              clear hik hin hi m1 hm1 hm2 hv8 ho hsn hin0 hnR htF hvF hk0
              go_wp2_with fail
              refine (HSN.out T2 G2 pd wr HD.out).mono ?_
              rintro e w11 ⟨aR, cR, rfl, hE11, b11⟩
              rw [HNR.out]
              have HD11 : Hid (DocI T2 G2 w11 pd sF) := HD.out.below b11
              have HX11 : Hid (DocI T' G' w11 px sF) := HX.out.below b11
              have HB11 : Hid (Below w2.heap.size w2 w11) := HB.out.trans (b11.mono HB.out.size)
              have HE11 := Lib.hid hE11
              clear b11 hE11
              go_wp2_with fail
              refine (HSN.out T' G' px w11 HX11.out).mono ?_
              rintro e w12 ⟨aQ, cQ, rfl, hE12, b12⟩
              rw [HNR.out]
              have HD12 : Hid (DocI T2 G2 w12 pd sF) := HD11.out.below b12
              have HX12 : Hid (DocI T' G' w12 px sF) := HX11.out.below b12
              have HB12 : Hid (Below w2.heap.size w2 w12) := HB11.out.trans (b12.mono HB11.out.size)
              have HE12 := Lib.hid hE12
              have HE11' := Lib.hid (HE11.out.on b12)
              clear b12 hE12
              go_wp2_with fail
              refine (HTF.out T2 G2 pd w12 HD12.out).mono ?_
              rintro e w13 ⟨rfl, b13⟩
              have HD13 : Hid (DocI T2 G2 w13 pd sF) := HD12.out.below b13
              have HX13 : Hid (DocI T' G' w13 px sF) := HX12.out.below b13
              have HB13 : Hid (Below w2.heap.size w2 w13) := HB12.out.trans (b13.mono HB12.out.size)
              have HE13 := Lib.hid (And.intro (HE11'.out.on b13) (HE12.out.on b13))
              clear b13
              go_wp2_with fail
              refine (HTF.out T' G' px w13 HX13.out).mono ?_
              rintro e w14 ⟨rfl, b14⟩
              have HD14 : Hid (DocI T2 G2 w14 pd sF) := HD13.out.below b14
              have HX14 : Hid (DocI T' G' w14 px sF) := HX13.out.below b14
              have HB14 : Hid (Below w2.heap.size w2 w14) := HB13.out.trans (b14.mono HB13.out.size)
              have HE14 := Lib.hid (And.intro (HE13.out.1.on b14) (HE13.out.2.on b14))
              clear b14
              go_wp2_with fail
              refine (HVF.out T2 G2 pd w14 HD14.out).mono ?_
              rintro e w15 ⟨rfl, rfl⟩
              go_wp2_with fail
              refine (HVF.out T' G' px w14 HX14.out).mono ?_
              rintro e w15 ⟨rfl, rfl⟩
              go_wp2_with fail
              refine (HSM.out w14 aR cR aQ cQ HE14.out.1 HE14.out.2).mono ?_
              rintro e w15 ⟨rfl, b15⟩
              have HB15 : Hid (Below w2.heap.size w2 w15) := HB14.out.trans (b15.mono HB14.out.size)
              clear b15
              go_wp2_with fail
              refine (lives_any _).mono ?_
              rintro e w16 ⟨rfl, b16⟩
              have HB16 : Hid (Below w.heap.size w w16) := H2.out.trans ((HB15.out.trans (b16.mono HB15.out.size)).mono H2.out.size)
              clear b16
              go_wp2
              go_ret
              exact ⟨rfl, HB16.out⟩

end Go.Proofs.YtkehgoailhpenaaGreat
