/- Texts of one claim, put together: DCn, DPos, DPrt, DPw. Each part says what it proves and under which conditions. -/
import Derived.Test.YtkehgoailhpenaaPA11
import Derived.Deep.RegionHeld3
import Derived.Lib.MinMax

/- The mathematics of composing no edits with a list. It has no conditions. -/
namespace Go.Proofs.Ytkehgoailhpenaa
open Go.RowKit Go.Shelf
set_option linter.unusedVariables false

theorem canon_norm {s : List Int} {l : List Ee} (h : Vld s.length 0 l) : norml s (canon s.length 0 [] (srcl s 0 l)) = norml s l := by
  have h1 := cmpl_nil h
  unfold cmpl at h1
  have hz : (srcl s 0 l).map Prod.fst = appl s 0 l := srcl_fst s l 0
  have ht : thru (srcl s 0 l) (srcl (appl s 0 l) 0 []) = srcl s 0 l := by
    rw [srcl_nil _ _ (Nat.zero_le _), thru_slice hz, List.drop_zero, Nat.sub_zero, List.take_of_length_le (by rw [← hz, List.length_map]; exact Nat.le_refl _)]
  rwa [ht] at h1
theorem thru_id {s : List Int} {z : List (Int × Option Nat)} (h : Src s 0 z) : thru (srcl s 0 []) z = z := by
  unfold thru
  rw [srcl_nil _ _ (Nat.zero_le _)]
  conv => rhs; rw [← List.map_id z]
  refine List.map_congr_left fun y hy => ?_
  obtain ⟨c, o⟩ := y
  cases o with
  | none => rfl
  | some k =>
    obtain ⟨i, hi⟩ := List.mem_iff_getElem?.1 hy
    have hk := ((src_iff.1 h).2.1 i k c hi).2
    have hlt := (List.getElem?_eq_some_iff.1 hk).1
    simp only [Option.bind_some, pcs_at, Nat.sub_zero, Nat.zero_add]
    rw [if_pos hlt, hk]
    rfl
/-- Composing no edits with a list gives its normal form. -/
theorem nil_cmpl {s : List Int} {l : List Ee} (h : Vld s.length 0 l) : cmpl s [] l = norml s l := by
  unfold cmpl
  have ha : appl s 0 [] = s := by simp [appl]
  rw [ha, thru_id (srcl_src h)]
  exact canon_norm h
theorem nil_cm {s : ByteArray} {es : List Er} (hv : vErr (s.size : Int) es = 0) : cmE s [] es = 0 ∧ cmS s [] es = nmS s es := by
  have hvld := (vErr_ok hv).2.1
  have hl := (vErr_ok hv).1
  have h1 : cmpl (sb s) (ees []) (ees es) = norml (sb s) (ees es) := nil_cmpl (by rw [sb_len]; exact hvld)
  have h2 : (norml (sb s) (ees es)).length ≤ 64 := by have := norml_len (sb s) (ees es); rw [ees_len] at this; omega
  have hE : cmE s [] es = 0 := by
    unfold cmE
    rw [if_pos (show vErr (s.size : Int) [] = 0 from rfl), apS_nil, if_pos hv, h1, if_neg (by omega)]
  refine ⟨hE, ?_⟩
  unfold cmS nmS
  rw [hE, if_pos rfl, if_pos hv, h1]

end Go.Proofs.Ytkehgoailhpenaa

/- The contract of Positions. Conditions: whole characters, texts of at most 400 bytes, valid edits at boundaries. -/
namespace Go.Proofs.Ytkehgoailhpenaa
open Go.RowKit Go.Shelf
set_option linter.unusedVariables false

theorem pos_small3 {s : ByteArray} {i l u : Nat} (h : Pos (sb s) i l u) (hs : s.size ≤ 500) : l ≤ 1000 ∧ u ≤ 1000 ∧ I64n (l : Int) ∧ I64n (u : Int) := by
  have hi := h.lt
  rw [sb_len] at hi
  have h0 := h.2.2.unis_take
  have h1 := unis_le (((sb s).drop (lf (sb s) i).2).take (i - (lf (sb s) i).2))
  rw [List.length_take, List.length_drop, sb_len] at h1
  have h2 := (lf_le (sb s) i).2
  have h3 := h.2.1
  have a : l ≤ 1000 := by omega
  have b : u ≤ 1000 := by omega
  exact ⟨a, b, ⟨by omega, by omega⟩, ⟨by omega, by omega⟩⟩
/-- An edit by offsets, of an edit that came in. -/
def edM (e : Er) : Ed := ⟨e.f.toNat, e.t.toNat, e.x⟩
theorem infoP : (Try.prog.info? 59).map (fun i => (i.zero, i.size, i.bytes)) = some (some (.agg #[.int .i64 0, .int .i64 0, .int .i64 0, .int .i64 0, .string ⟨#[]⟩]), 5, 48) := by kernel_rfl
/-- Edits by positions that become these edits. -/
theorem back_eds {S : ByteArray} {xs : List Er} {qs : Nat → PE} (hl : xs.length ≤ 64) (hpos : ∀ e ∈ xs, 0 ≤ e.f ∧ 0 ≤ e.t) (h : ∀ j, j < xs.length → EdS (sb S) (qs j) (edM (eg xs j)) 0) : pE S ((List.range xs.length).map qs) = 0 ∧ pL S ((List.range xs.length).map qs) = xs := by
  have hg : ∀ j, j < xs.length → pG ((List.range xs.length).map qs) j = qs j := fun j hj => by simp [pG, hj]
  have hE : pE S ((List.range xs.length).map qs) = 0 := by
    unfold pE
    rw [if_neg (by simp; omega)]
    refine pE0_zero (fun j hj => ?_)
    have hj' : j < xs.length := by simpa using hj
    rw [hg j hj', edD_eq (h j hj')]
  refine ⟨hE, ?_⟩
  unfold pL
  rw [if_pos hE]
  refine List.ext_getElem (by simp) (fun j h1 h2 => ?_)
  have hj : j < xs.length := h2
  simp only [List.map_map, List.getElem_map, List.getElem_range, Function.comp]
  rw [edD_eq (h j hj)]
  have he : eg xs j = xs[j] := by simp [eg, List.getElem?_eq_getElem hj]
  have hp := hpos _ (eg_mem hj)
  rw [← he]
  generalize eg xs j = e at hp ⊢
  obtain ⟨f, t, x⟩ := e
  simp only at hp
  simp only [edM, Ed.er]
  congr 1 <;> omega

set_option maxRecDepth 100000 in
set_option maxHeartbeats 8000000 in
theorem positions_any (S : ByteArray) (ax : Option Addr) (cx : Nat) (xs : List Er) (w2 : World) (hSl : S.size ≤ 400) (HW : Hid (Whl (sb S))) (hx1 : xs.length ≤ 5) (hx2 : vErr (S.size : Int) xs = 0) (hx3 : ∀ x ∈ xs, x.x.size ≤ S.size + 7 ∧ Bd (sb S) x.f.toNat ∧ Bd (sb S) x.t.toNat) (hX : ES w2.heap.size w2 ax cx xs) :
    Calls Try.prog 29 #[.string S, .slice ax xs.length cx] w2 fun e w' => ∃ a c, ∃ ps : List PE, e = .returned (.tuple #[.slice a ps.length c, .bool true]) ∧ PS w'.heap.size w' a c ps ∧ ps.length = xs.length ∧ (∀ p ∈ ps, p.fit ∧ p.t.size ≤ 100000) ∧ pE S ps = 0 ∧ pL S ps = xs ∧ Below w2.heap.size w2 w' := by
  obtain ⟨i5, hi5, jy0, jy1, jy2⟩ := info_parts infoP
  have hok := vErr_ok hx2
  have hfx := fit_of hx2 (by omega) (fun e he => by have := (hx3 e he).1; omega)
  have hcx := hX.le
  obtain ⟨n, hn⟩ : ∃ n, xs.length = n := ⟨_, rfl⟩
  obtain ⟨bb, off, hab, hcell⟩ := hX.cells.core
  obtain ⟨lo, hlo⟩ : ∃ lo, w2.heap.size = lo := ⟨_, rfl⟩
  rw [hn] at hab hcell hcx hx1 ⊢
  rw [hlo] at hab
  have HPOS : Hid (∀ k, k < n → ∃ x y U V : Nat, (eg xs k).f = (x : Int) ∧ (eg xs k).t = (y : Int) ∧ Bord (sb S) x U ∧ Bord (sb S) y V ∧ x ≤ y ∧ y ≤ S.size) := fun k hk => by
    have hm := eg_mem (es := xs) (k := k) (by omega)
    have h1 := hok.2.2 _ hm
    obtain ⟨_, h2, h3⟩ := hx3 _ hm
    obtain ⟨U, hU⟩ := bord_of_bd HW.out (by rw [sb_len]; omega) h2
    obtain ⟨V, hV⟩ := bord_of_bd HW.out (by rw [sb_len]; omega) h3
    exact ⟨_, _, U, V, by omega, by omega, hU, hV, by omega, by omega⟩
  have HN := Lib.hid hn; have HX := Lib.hid hX; have HX2 := Lib.hid hx2; have HFX := Lib.hid hfx; have HAB := Lib.hid hab; have HC := Lib.hid hcell; have HLO := Lib.hid hlo; have HX3 := Lib.hid hx3
  have HO0 : Hid (w2.ownsRow lo 59 5 (.slice none 0 0) 0 (pvals (fun _ => ⟨0, 0, 0, 0, ⟨#[]⟩⟩) 0)) := World.ownsRow_nil _ _ _ _
  have HB0 : Hid (Below lo w2 w2) := Below.refl _ _
  clear hX hx2 hx3 hok hfx hab hcell hn hlo
  go_enter Try.func29, Try.ntmps29
  go_wp2_with fail
  go_loopw [6, 7] (fun v q wr => ∃ (k : Nat) (ps : Nat → PE), k ≤ n ∧ q = .int .i64 (k : Int) ∧ Hid (∀ j, j < k → (ps j).fit ∧ EdS (sb S) (ps j) (edM (eg xs j)) 0) ∧ Hid (wr.ownsRow lo 59 5 v k (pvals ps k)) ∧ Hid (Below lo w2 wr)) (fun _ q _ => n - (intOf q).toNat)
  case atStart => exact ⟨0, fun _ => ⟨0, 0, 0, 0, ⟨#[]⟩⟩, by omega, rfl, Lib.hid (fun j h => by omega), HO0, HB0.out⟩
  case round =>
    obtain ⟨k, ps, hk, rfl, HPS, HO, HR⟩ := hrel
    have hlr : lo ≤ wr.heap.size := by have := HR.out.size; have := HLO.out; omega
    by_cases hlt : k < n
    · have hkk : (k : Int) < (n : Int) := by omega
      obtain ⟨rfl, hbb⟩ := HAB.out.resolve_left (by omega)
      have hcw : Hid (∀ W, Below lo w2 W → W.cell? ⟨bb, off + k * 3, none⟩ = some (.int .i64 (eg xs k).f) ∧ W.cell? ⟨bb, off + k * 3 + 1, none⟩ = some (.int .i64 (eg xs k).t) ∧ W.cell? ⟨bb, off + k * 3 + 2, none⟩ = some (.string (eg xs k).x)) := fun W hW => HC.out k hlt W (hW.block bb hbb)
      obtain ⟨x, y, U, V, hx, hy, hU, hV, hxy, hys⟩ := HPOS.out k hlt
      obtain ⟨z, hz⟩ : ∃ z, (eg xs k).x = z := ⟨_, rfl⟩
      rw [hx, hy, hz] at hcw
      have hed : edM (eg xs k) = ⟨x, y, z⟩ := by unfold edM; rw [hx, hy, hz]; simp
      obtain ⟨c0, _, _⟩ := hcw.out wr HR.out
      have HBX := Lib.hid hU; have HBY := Lib.hid hV; have HED := Lib.hid hed; have HZ := Lib.hid hz
      clear hU hV hx hy hz hed
      go_wp2_with fail
      refine (rat_any S (x : Int) _ (by omega)).mono ?_
      rintro e w3 ⟨l1, u1, er, rfl, hsp, b3⟩
      obtain ⟨rfl, hpx⟩ := at_border hsp HBX.out
      obtain ⟨y1, y2, y3, y4⟩ := pos_small3 hpx (by omega)
      have HPX := Lib.hid hpx
      have hB3 : Below lo w2 w3 := HR.out.trans (b3.mono hlr)
      have z3 : lo ≤ w3.heap.size := by have := b3.size; omega
      obtain ⟨p1, hp1⟩ : ∃ p, w3.heap.size = p := ⟨_, rfl⟩
      obtain ⟨W3, hW3⟩ : ∃ W, w3.alloc (.cells #[.int .i64 (l1 : Int), .int .i64 (u1 : Int)] 57) = W := ⟨_, rfl⟩
      have k3 : Blk W3 p1 57 #[.int .i64 (l1 : Int), .int .i64 (u1 : Int)] := by rw [← hW3, ← hp1]; exact Blk.new _ _ _
      have hB3a : Below lo w2 W3 := by rw [← hW3]; exact hB3.alloc z3 _
      have s3 : W3.heap.size = p1 + 1 := by rw [← hW3, ← hp1]; simp
      obtain ⟨_, c1, _⟩ := hcw.out W3 hB3a
      have hp1w : wr.heap.size ≤ p1 := by have := b3.size; omega
      have hO3 : Below wr.heap.size wr W3 := by rw [← hW3]; exact b3.alloc b3.size _
      have HW3 := Lib.hid hW3; have HK3 := Lib.hid k3; have HB3 := Lib.hid hB3a; have HP1 := Lib.hid hp1; have HO3 := Lib.hid hO3
      clear hsp hpx b3 c0 hW3 k3 hB3 hB3a hO3
      rw [← HW3.out] at c1
      go_wp2_with fail
      rw [show w3.alloc (.cells #[.int .i64 (l1 : Int), .int .i64 (u1 : Int)] 57) = W3 from HW3.out]
      refine (rat_any S (y : Int) _ (by omega)).mono ?_
      rintro e w4 ⟨l2, u2, er, rfl, hsp, b4⟩
      obtain ⟨rfl, hpy⟩ := at_border hsp HBY.out
      obtain ⟨y5, y6, y7, y8⟩ := pos_small3 hpy (by omega)
      have z4 : lo ≤ w4.heap.size := by have := b4.size; omega
      obtain ⟨p2, hp2⟩ : ∃ p, w4.heap.size = p := ⟨_, rfl⟩
      obtain ⟨W4, hW4⟩ : ∃ W, w4.alloc (.cells #[.int .i64 (l2 : Int), .int .i64 (u2 : Int)] 57) = W := ⟨_, rfl⟩
      have hp2p : p1 < p2 := by have := b4.size; omega
      have b34 : Below W3.heap.size W3 W4 := by rw [← hW4]; exact b4.alloc b4.size _
      have k4 : Blk W4 p2 57 #[.int .i64 (l2 : Int), .int .i64 (u2 : Int)] := by rw [← hW4, ← hp2]; exact Blk.new _ _ _
      have k34 : Blk W4 p1 57 #[.int .i64 (l1 : Int), .int .i64 (u1 : Int)] := HK3.out.same (b34.block p1 (by omega))
      have hB4 : Below lo w2 W4 := HB3.out.trans (b34.mono (by omega))
      have hO4 : Below wr.heap.size wr W4 := HO3.out.trans (b34.mono HO3.out.size)
      have hown4 : W4.ownsRow lo 59 5 u6 k (pvals ps k) := own_same HO.out (fun g hg => hO4.block g (HO.out.lt g hg).2)
      have z4a : lo ≤ W4.heap.size := by have := b34.size; omega
      have hed : EdS (sb S) ⟨l1, u1, l2, u2, z⟩ (edM (eg xs k)) 0 := by rw [HED.out]; exact ed_there z HPX.out hpy hxy
      obtain ⟨qs, hqs⟩ : ∃ qs : Nat → PE, (fun j => if j = k then (⟨l1, u1, l2, u2, z⟩ : PE) else ps j) = qs := ⟨_, rfl⟩
      have hqk : qs k = ⟨l1, u1, l2, u2, z⟩ := by rw [← hqs]; simp
      have hqj : ∀ j, j < k → qs j = ps j := fun j hj => by rw [← hqs]; simp; omega
      have HQ : Hid (∀ j, j < k + 1 → (qs j).fit ∧ EdS (sb S) (qs j) (edM (eg xs j)) 0) := fun j hj => by
        by_cases e : j = k
        · subst e; rw [hqk]; exact ⟨⟨y3, y4, y7, y8⟩, hed⟩
        · rw [hqj j (by omega)]; exact HPS.out j (by omega)
      have HPV : Hid (pvals qs (k + 1) = pvals ps k ++ [.int .i64 (l1 : Int), .int .i64 (u1 : Int), .int .i64 (l2 : Int), .int .i64 (u2 : Int), .string z]) := Lib.hid (by rw [pvals_succ, hqk, pvals_congr k hqj]; rfl)
      have hw24 : W4.heap[bb]? = w2.heap[bb]? := hB4.block bb hbb
      have HS0 : Hid (∀ W : World, W.heap[p1]? = W4.heap[p1]? → W.heap[p2]? = W4.heap[p2]? → W.heap[bb]? = W4.heap[bb]? → W.cell? ⟨p1, 0, none⟩ = some (.int .i64 (l1 : Int)) ∧ W.cell? ⟨p1, 1, none⟩ = some (.int .i64 (u1 : Int)) ∧ W.cell? ⟨p2, 0, none⟩ = some (.int .i64 (l2 : Int)) ∧ W.cell? ⟨p2, 1, none⟩ = some (.int .i64 (u2 : Int)) ∧ W.cell? ⟨bb, off + k * 3 + 2, none⟩ = some (.string z)) := fun W e1 e2 e3 => by
        have a1 := k34.same e1
        have a2 := k4.same e2
        have a3 := (HC.out k hlt W (e3.trans hw24)).2.2
        rw [HZ.out] at a3
        exact ⟨by simpa using a1.cell 0, by simpa using a1.cell 1, by simpa using a2.cell 0, by simpa using a2.cell 1, a3⟩
      have hbl : p1 < W4.heap.size ∧ p2 < W4.heap.size ∧ bb < W4.heap.size := ⟨k34.lt, k4.lt, by omega⟩
      have hob : ∀ g, u6.ownBlock = some g → g ≠ p1 ∧ g ≠ p2 ∧ g ≠ bb := fun g hg => by
        have h1 := HO.out.lt g hg
        have h2 := HO3.out.size
        omega
      have HS : Hid (∀ W, Below W4.heap.size W4 W → W.cell? ⟨p1, 0, none⟩ = some (.int .i64 (l1 : Int)) ∧ W.cell? ⟨p1, 1, none⟩ = some (.int .i64 (u1 : Int)) ∧ W.cell? ⟨p2, 0, none⟩ = some (.int .i64 (l2 : Int)) ∧ W.cell? ⟨p2, 1, none⟩ = some (.int .i64 (u2 : Int)) ∧ W.cell? ⟨bb, off + k * 3 + 2, none⟩ = some (.string z)) := fun W hW =>
        HS0.out W (hW.block p1 hbl.1) (hW.block p2 hbl.2.1) (hW.block bb hbl.2.2)
      have HG : Hid (∀ w6, ((W4.alloc (.cells #[.int .i64 (l1 : Int), .int .i64 (u1 : Int), .int .i64 (l2 : Int), .int .i64 (u2 : Int), .string z] 59)).drew).grownBy w6 u6.ownBlock → W4.heap.size ≤ w6.heap.size ∧ w6.heap[p1]? = W4.heap[p1]? ∧ w6.heap[p2]? = W4.heap[p2]? ∧ w6.heap[bb]? = W4.heap[bb]?) := fun w6 hg => by
        have hb := ((Below.refl W4.heap.size W4).alloc (Nat.le_refl _) (.cells #[.int .i64 (l1 : Int), .int .i64 (u1 : Int), .int .i64 (l2 : Int), .int .i64 (u2 : Int), .string z] 59)).drew
        have hz := hb.size
        have hz6 := hg.size
        refine ⟨by omega, ?_, ?_, ?_⟩
        · exact (hg.block p1 (by omega) (fun e => (hob p1 e.symm).1 rfl)).trans (hb.block p1 hbl.1)
        · exact (hg.block p2 (by omega) (fun e => (hob p2 e.symm).2.1 rfl)).trans (hb.block p2 hbl.2.1)
        · exact (hg.block bb (by omega) (fun e => (hob bb e.symm).2.2 rfl)).trans (hb.block bb hbl.2.2)
      have HW4 := Lib.hid hW4; have HB4 := Lib.hid hB4; have HP2 := Lib.hid hp2; have HOW := Lib.hid hown4
      have c3 := HS.out W4.drew (Below.refl _ _).drew
      have c4 := HS.out ((W4.alloc (.cells #[.int .i64 (l1 : Int), .int .i64 (u1 : Int), .int .i64 (l2 : Int), .int .i64 (u2 : Int), .string z] 59)).drew) ((Below.refl _ W4).alloc (Nat.le_refl _) _).drew
      clear hsp hpy b4 c1 b34 k4 k34 hB4 hO4 hown4 hed hqs hqk hqj hW4
      go_wp2_with fail
      try rw [HP2.out]
      rw [show w4.alloc (.cells #[.int .i64 (l2 : Int), .int .i64 (u2 : Int)] 57) = W4 from HW4.out]
      go_region_held3 (fun w' => w'.cell? ⟨p1, 0, none⟩ = some (.int .i64 (l1 : Int)) ∧ w'.cell? ⟨p1, 1, none⟩ = some (.int .i64 (u1 : Int)) ∧ w'.cell? ⟨p2, 0, none⟩ = some (.int .i64 (l2 : Int)) ∧ w'.cell? ⟨p2, 1, none⟩ = some (.int .i64 (u2 : Int)) ∧ w'.cell? ⟨bb, off + k * 3 + 2, none⟩ = some (.string z)) (first | exact c3 | exact c4 | exact c6)
        (first | (rw [if_pos (by rfl)]; refine wp_append_at _ _ 32 rfl lo 59 i5 (.agg #[.int .i64 0, .int .i64 0, .int .i64 0, .int .i64 0, .string ⟨#[]⟩]) 5 48 Try.underlying32 hi5 jy0 jy1 jy2 rfl (by decide) u6 k (pvals ps k) rfl (HOW.out.alloc _).drew ⟨_, 0, none⟩ 1 1 [.int .i64 (l1 : Int), .int .i64 (u1 : Int), .int .i64 (l2 : Int), .int .i64 (u2 : Int), .string z] rfl rfl (cells_news W4 [.int .i64 (l1 : Int), .int .i64 (u1 : Int), .int .i64 (l2 : Int), .int .i64 (u2 : Int), .string z] _) (fun x hx => by simp at hx; rcases hx with rfl | rfl | rfl | rfl | rfl <;> rfl) (by unfold maxLen; omega) (by omega) (by simp; omega) ?_; intro v' w6 hown6 hgrow6 _; obtain ⟨_, e1, e2, e3⟩ := HG.out w6 hgrow6; have c6 := HS0.out w6 e1 e2 e3))
      have HO6 : Hid (w6.ownsRow lo 59 5 v' (k + 1) (pvals qs (k + 1))) := by rw [HPV.out]; exact hown6
      have H6 : Hid (Below lo w2 w6) := HB4.out.trans ((((Below.refl W4.heap.size W4).alloc (Nat.le_refl _) (.cells #[.int .i64 (l1 : Int), .int .i64 (u1 : Int), .int .i64 (l2 : Int), .int .i64 (u2 : Int), .string z] 59)).drew.mono z4a).grown hgrow6 (by simp; omega) (fun g hg => (HO.out.lt g hg).1))
      clear hown6 hgrow6 c3 c4 c6 e1 e2 e3
      go_wp2
      go_roundw
      case rel => exact ⟨k + 1, qs, by omega, by go_num, HQ, HO6, H6⟩
      case measure => simp [intOf]; omega
    · obtain rfl : n = k := by omega
      obtain ⟨Ap, cp, rfl, hcp1, hcp2, hPC, _⟩ := pcells_of_own HO.out
      obtain ⟨L, hL⟩ : ∃ L, (List.range n).map ps = L := ⟨_, rfl⟩
      have hLl : L.length = n := by rw [← hL]; simp
      have hLg : ∀ j, j < n → pG L j = ps j := fun j hj => by rw [← hL]; simp [pG, hj]
      have hback := back_eds (S := S) (xs := xs) (qs := ps) (by rw [HN.out]; omega) (fun e he => by have := (vErr_ok HX2.out).2.2 e he; omega) (fun j hj => (HPS.out j (by rw [HN.out] at hj; exact hj)).2)
      rw [HN.out, hL] at hback
      have hPS : PS wr.heap.size wr Ap cp L := by
        refine ⟨by omega, hcp2, ?_⟩
        rw [hLl]
        rcases hPC with h0 | ⟨b, o, h1, h2, h3⟩
        · exact .inl h0
        · exact .inr ⟨b, o, h1, h2, fun k hk i hi => by rw [h3 k hk i hi, hLg k hk]⟩
      have hfit : ∀ p ∈ L, p.fit ∧ p.t.size ≤ 100000 := by
        intro p hp
        rw [← hL] at hp
        obtain ⟨j, hj, rfl⟩ := List.mem_map.1 hp
        have hj' : j < n := List.mem_range.1 hj
        have h1 := HPS.out j hj'
        refine ⟨h1.1, ?_⟩
        have hm := eg_mem (es := xs) (k := j) (by rw [HN.out]; exact hj')
        have h2 := (HX3.out _ hm).1
        obtain ⟨o1, e1, o2, e2, _, _, h9⟩ := h1.2
        have hz : ∀ (d : Ed), d = edM (eg xs j) → d.t = (eg xs j).x := fun d hd => by rw [hd]; rfl
        rcases h9 with ⟨q1, q2, _⟩ | ⟨_, q1, q2, _⟩ | ⟨_, _, _, q2, _⟩ | ⟨_, _, _, _, q2⟩
        · exact absurd q2.symm q1
        · exact absurd q2.symm q1
        · omega
        · have := hz _ q2.symm
          simp only at this
          rw [this]; omega
      have hB : Below w2.heap.size w2 wr := by rw [HLO.out]; exact HR.out
      have HF : Hid (PS wr.heap.size wr Ap cp L ∧ L.length = n ∧ (∀ p ∈ L, p.fit ∧ p.t.size ≤ 100000) ∧ pE S L = 0 ∧ pL S L = xs ∧ Below w2.heap.size w2 wr) := ⟨hPS, hLl, hfit, hback.1, hback.2, hB⟩
      clear hLl hLg hback hPS hfit hB hPC hL
      go_wp2
      go_ret2
      obtain ⟨f1, f2, f3, f4, f5, f6⟩ := HF.out
      exact ⟨Ap, cp, L, by rw [f2]; rfl, f1, f2, f3, f4, f5, f6⟩

end Go.Proofs.Ytkehgoailhpenaa

/- The contracts of part, and of Chain where no change is asked for. It has no conditions. -/
namespace Go.Proofs.Ytkehgoailhpenaa
open Go.RowKit Go.Shelf
set_option linter.unusedVariables false

set_option maxRecDepth 100000 in
set_option maxHeartbeats 2000000 in
theorem part_any (a : Option Addr) (cap : Nat) (ls : List Int) (x n : Nat) (w : World) (h : Sli .i64 w a cap ls) (hx : x ≤ 1000000) (hn : n ≤ 1000000) :
    Calls Try.prog 33 #[.slice a ls.length cap, .int .i64 (x : Int), .int .i64 (n : Int)] w fun e w' => w = w' ∧ ∃ a' c', e = .returned (.slice a' ((ls.drop x).take n).length c') ∧ Sli .i64 w a' c' ((ls.drop x).take n) := by
  obtain ⟨hle, hmx, hnil, hc⟩ := h
  obtain ⟨N, hN⟩ : ∃ N, ls.length = N := ⟨_, rfl⟩
  obtain ⟨A, hA⟩ : ∃ A, min x N = A := ⟨_, rfl⟩
  obtain ⟨H, hH⟩ : ∃ H, min N (A + n) = H := ⟨_, rfl⟩
  have hlen : ((ls.drop x).take n).length = H - A := by rw [List.length_take, List.length_drop]; omega
  have m1 : min (x : Int) (N : Int) = (A : Int) := by omega
  have m2 : min (N : Int) ((A : Int) + (n : Int)) = (H : Int) := by omega
  have hAH : (A : Int) ≤ (H : Int) := by omega
  have hHc : (H : Int) ≤ (cap : Int) := by omega
  have hA0 : (0 : Int) ≤ (A : Int) := by omega
  rw [hN, hlen]
  have HC := Lib.hid hc; have HN := Lib.hid hN; have HA := Lib.hid hA; have HH := Lib.hid hH; have HL := Lib.hid hlen
  cases a with
  | none =>
    obtain rfl : cap = 0 := hnil rfl
    obtain rfl : N = 0 := by omega
    obtain rfl : A = 0 := by omega
    obtain rfl : H = 0 := by omega
    have r1 : min (x : Int) 0 = 0 := by omega
    have r2 : min (0 : Int) (n : Int) = 0 := by omega
    have r3 : min (0 : Int) (0 + (n : Int)) = 0 := by omega
    clear hc hN hA hH hlen hnil m1 m2
    go_enter Try.func33, Try.ntmps33
    go_wp2
    go_ret
    have h0 : (ls.drop x).take n = [] := List.eq_nil_of_length_eq_zero HL.out
    exact ⟨rfl, none, 0, rfl, ⟨by rw [h0]; simp, by omega, fun _ => rfl, by rw [h0]; exact .inl rfl⟩⟩
  | some ad =>
    have HS : Hid (∀ a' c', (H - A = 0 ∧ c' = 0 ∧ a' ≠ none) ∨ (a' = some (ad.add A) ∧ c' = cap - A) → Sli .i64 w a' c' ((ls.drop x).take n)) := by
      intro a' c' h
      rcases h with ⟨h0, rfl, h1⟩ | ⟨rfl, rfl⟩
      · have he : (ls.drop x).take n = [] := List.eq_nil_of_length_eq_zero (by omega)
        exact ⟨by rw [he]; simp, by omega, fun _ => rfl, by rw [he]; exact .inl rfl⟩
      · refine ⟨by omega, by omega, (fun h => by cases h), ?_⟩
        by_cases h0 : H - A = 0
        · exact .inl (List.eq_nil_of_length_eq_zero (by omega))
        · rcases hc with rfl | ⟨b, off, ha, hlt, hcc⟩
          · simp at hN; omega
          · cases ha
            have hAx : A = x := by omega
            refine .inr ⟨b, off + A, ?_, hlt, fun j hj => ?_⟩
            · by_cases hz : A = 0 <;> simp [Addr.add, hz]
            · rw [show off + A + j = off + (x + j) by omega, hcc (x + j) (by omega)]
              rw [List.getElem?_take, if_pos (by omega), List.getElem?_drop]
    clear hc hN hA hH hlen hnil
    go_enter Try.func33, Try.ntmps33
    go_wp2
    all_goals
      go_ret
      first
        | exact ⟨rfl, _, _, rfl, HS.out _ _ (.inr ⟨rfl, rfl⟩)⟩
        | exact ⟨rfl, _, _, rfl, HS.out _ _ (.inl ⟨by omega, by omega, by simp⟩)⟩

set_option maxRecDepth 100000 in
set_option maxHeartbeats 2000000 in
theorem chain0_any (a : Option Addr) (cap : Nat) (ls : List Int) (w : World) (h : Sli .i64 w a cap ls) (hi : ∀ n ∈ ls, -9223372036854775808 ≤ n ∧ n ≤ 9223372036854775807) :
    Calls Try.prog 7 #[.slice a ls.length cap, .int .i64 0] w fun e w' => ∃ S, e = .returned (.tuple #[.string S, .slice none 0 0]) ∧ S.size ≤ 96 ∧ Whl (sb S) ∧ Below w.heap.size w w' := by
  have C1 := Lib.hid (part_any a cap ls 0 12 w h (by omega) (by omega))
  have hi2 : ∀ n ∈ (ls.drop 0).take 12, -9223372036854775808 ≤ n ∧ n ≤ 9223372036854775807 := fun n hn => hi n (List.mem_of_mem_drop (List.mem_of_mem_take hn))
  obtain ⟨L, hL⟩ : ∃ l, (ls.drop 0).take 12 = l := ⟨_, rfl⟩
  obtain ⟨N, hN⟩ : ∃ l, ls.length = l := ⟨_, rfl⟩
  rw [hL] at C1 hi2
  rw [hN] at C1 ⊢
  have HI2 := Lib.hid hi2
  clear h hi hi2 hL hN
  go_enter Try.func7, Try.ntmps7
  go_wp2_with fail
  refine C1.out.mono ?_
  rintro e w0 ⟨rfl, a1, c1, rfl, hs⟩
  have C2 := Lib.hid (rtext_any a1 c1 L w hs HI2.out)
  clear hs
  go_wp2_with fail
  refine C2.out.mono ?_
  rintro e w1 ⟨S, rfl, hSl, hSw, b1⟩
  have HB := Lib.hid b1; have HW := Lib.hid hSw
  clear b1 hSw
  go_wp2_with fail
  go_loopw [7, 8, 9] (fun s o q wr => s = .string S ∧ o = .slice none 0 0 ∧ q = .int .i64 0 ∧ Hid (Below w.heap.size w wr)) (fun _ _ _ _ => 0)
  case atStart => exact ⟨rfl, rfl, rfl, HB⟩
  case round =>
    obtain ⟨rfl, rfl, rfl, HR⟩ := hrel
    go_wp2_with fail
    go_ret2
    exact ⟨S, rfl, hSl, HW.out, HR.out⟩

end Go.Proofs.Ytkehgoailhpenaa

/- The walk of DocumentPositions. It has no conditions. -/
namespace Go.Proofs.Ytkehgoailhpenaa
open Go.RowKit Go.Shelf Go.Maps
set_option linter.unusedVariables false

/-- What Receive makes of a fitting change of a new document. -/
theorem new_rcv {S : ByteArray} {L : List PE} {xs : List Er} (hl : L.length ≤ 64) (hp : pE S L = 0) (hL : pL S L = xs) (hx : vErr (S.size : Int) xs = 0) (hz : (apS S xs).size ≤ 4096) : rcvF (newS S 7) 8 L = ((1, 0), advS (newS S 7) xs) := by
  have hc : chkE (newS S 7) 8 L.length = 0 := by
    unfold chkE
    rw [if_neg (by decide), if_neg (by omega), if_neg (by simp [newS]), if_neg (by simp [newS])]
  have ht : (newS S 7).text = S := rfl
  have hE : aplE (newS S 7) L = 0 := by
    unfold aplE advE
    rw [ht, if_pos hp, hL, if_pos hx, if_neg (by omega)]
  have hS : aplS (newS S 7) L = advS (newS S 7) xs := by unfold aplS; rw [ht, hL]
  unfold rcvF
  rw [hc, if_neg (by simp), if_neg (by simp [newS]), hE, if_neg (by simp), hS]
  rfl
theorem new_edt {S : ByteArray} {xs : List Er} (hx : vErr (S.size : Int) xs = 0) (hz : (apS S xs).size ≤ 4096) : edtE (newS S 7) xs = 0 := by
  have ht : (newS S 7).text = S := rfl
  unfold edtE advE
  rw [if_neg (by simp [newS]), if_neg (by simp [newS]), ht, if_pos hx, if_neg (by omega)]
theorem adv_snc {S : ByteArray} {xs : List Er} (hx : vErr (S.size : Int) xs = 0) (hl : xs.length ≤ 5) (hs : S.size ≤ 96) (hz : (apS S xs).size ≤ 4096) : SncOk S [] (nexts (advS (newS S 7) xs) 0) (nmS S xs) ∧ (nmS S xs).length ≤ 64 := by
  have h0 : nexts (advS (newS S 7) xs) 0 = [xs] := rfl
  have hc := nil_cm hx
  have hk := comp_ok (s := S) (a := []) (b := xs) rfl (by rw [apS_nil]; exact hx) (by simp only [List.length_nil]; omega)
  obtain ⟨_, _, k1, _, k3, k4⟩ := hk
  rw [apS_nil] at k4
  have hlen : (cmS S [] xs).length ≤ 64 := by simp only [List.length_nil] at k3; omega
  rw [h0]
  refine ⟨⟨hc.1, by rw [apS_nil]; omega, by rw [apS_nil]; omega, ?_, hlen, hc.2⟩, by rw [← hc.2]; exact hlen⟩
  exact fit_of k1 (by omega) (fun e he => by have := k4 e he; omega)

set_option maxRecDepth 100000 in
set_option maxHeartbeats 8000000 in
theorem walkDPos (a0 : Option Addr) (cap0 : Nat) (ls : List Int) (a1 : Option Addr) (cap1 : Nat) (ns : List Int) (w : World)
    (h0 : Sli .i64 w a0 cap0 ls) (hi0 : ∀ n ∈ ls, -9223372036854775808 ≤ n ∧ n ≤ 9223372036854775807) (h1 : Sli .i64 w a1 cap1 ns) (hi1 : ∀ n ∈ ns, -9223372036854775808 ≤ n ∧ n ≤ 9223372036854775807) :
    Calls Try.prog 6 #[.slice a0 ls.length cap0, .slice a1 ns.length cap1] w fun e w' => e = .returned (.bool true) ∧ Below w.heap.size w w' := by
  have cT := chain0_any a0 cap0 ls w h0 hi0
  obtain ⟨n0, hn0⟩ : ∃ n, ls.length = n := ⟨_, rfl⟩
  obtain ⟨n1, hn1⟩ : ∃ n, ns.length = n := ⟨_, rfl⟩
  have hsl : SlI w.heap.size w a1 n1 := by have := SlI.of h1 hi1; rwa [hn1] at this
  have hc1 : n1 ≤ cap1 := by have := h1.le; omega
  have hm1 := h1.mx
  rw [hn0] at cT ⊢
  rw [hn1]
  have CT := Lib.hid cT; have HSL := Lib.hid hsl
  clear cT h0 hi0 h1 hi1 hsl
  go_enter Try.func6, Try.ntmps6
  go_wp2_with fail
  refine CT.out.mono ?_
  rintro e w1 ⟨S, rfl, hSl, hSw, hb1⟩
  have H1 := Lib.hid hb1; have HW := Lib.hid hSw
  have CE := Lib.hid (edits_any S a1 n1 cap1 w1 (by omega) (HSL.out.on hb1) hc1 hm1)
  clear hb1 hSw
  go_wp2_with fail
  refine CE.out.mono ?_
  rintro e w2 ⟨xs, v2, rfl, hx1, hx2, hx3, hown2, hb2⟩
  obtain ⟨_, ax, cx, rfl, hX⟩ := es_of_own hown2
  have CP := Lib.hid (positions_any S ax cx xs w2 (by omega) HW hx1 hx2 hx3 hX)
  have hfx := fit_of hx2 (by omega) (fun e he => by have := (hx3 e he).1; omega)
  have hzs := apS_size (c := 103) hx2 (fun e he => by have := (hx3 e he).1; omega)
  have hz : (apS S xs).size ≤ 1000 := by have := Nat.mul_le_mul_left 103 hx1; omega
  have H2 := Lib.hid (H1.out.trans (hb2.mono H1.out.size))
  obtain ⟨nx, hnx⟩ : ∃ n, xs.length = n := ⟨_, rfl⟩
  have HNX := Lib.hid hnx; have HX := Lib.hid hX; have HX2 := Lib.hid hx2; have HFX := Lib.hid hfx
  rw [hnx] at hx1
  simp only [hnx] at CP
  rw [hnx]
  have hedt := new_edt hx2 (show (apS S xs).size ≤ 4096 by omega)
  have hsnc := adv_snc hx2 (by omega) hSl (show (apS S xs).size ≤ 4096 by omega)
  have HEDT := Lib.hid hedt; have HSNC := Lib.hid hsnc
  clear hown2 hX hb2 hx2 hx3 hfx hzs hnx hedt hsnc
  go_wp2_with fail
  refine CP.out.mono ?_
  rintro e w3 ⟨ap, cp, L, rfl, hPS, hLl, hLf, hpE, hpL, hb3⟩
  have HPS := Lib.hid hPS; have HLF := Lib.hid hLf; have HPE := Lib.hid hpE; have HPL := Lib.hid hpL
  have H3 := Lib.hid (H2.out.trans (hb3.mono H2.out.size))
  have HX3 := Lib.hid (HX.out.on hb3)
  have CN1 := Lib.hid (new_any S 7 w3)
  have hnE : newE S 7 = 0 := by unfold newE; rw [if_neg (by omega), if_neg (by omega)]
  have HNE := Lib.hid hnE
  have hrcv := new_rcv (S := S) (L := L) (xs := xs) (by omega) hpE hpL HX2.out (by omega)
  have HRCV := Lib.hid hrcv
  have HLL := Lib.hid hLl
  rw [hLl]
  clear hPS hLf hpE hpL hb3 hnE hrcv hLl
  go_wp2_with fail
  refine CN1.out.mono ?_
  rintro e w4 hw
  obtain ⟨pa, rfl, hda, b4⟩ : ∃ p, e = .returned (.tuple #[.pointer (some ⟨p, 0, none⟩), .int .i64 0]) ∧ DocI (newB w3 w4) (fun _ => False) w4 p (newS S 7) ∧ Below w3.heap.size w3 w4 := by
    rcases hw with ⟨h, _⟩ | ⟨_, p, h1, h2, h3⟩
    · exact absurd HNE.out h
    · exact ⟨p, h1, h2, h3⟩
  have HDA := Lib.hid hda; have B4 := Lib.hid b4
  have CN2 := Lib.hid (new_any S 7 w4)
  clear hw hda b4
  go_wp2_with fail
  refine CN2.out.mono ?_
  rintro e w5 hw
  obtain ⟨pb, rfl, hdb, b5⟩ : ∃ p, e = .returned (.tuple #[.pointer (some ⟨p, 0, none⟩), .int .i64 0]) ∧ DocI (newB w4 w5) (fun _ => False) w5 p (newS S 7) ∧ Below w4.heap.size w4 w5 := by
    rcases hw with ⟨h, _⟩ | ⟨_, p, h1, h2, h3⟩
    · exact absurd HNE.out h
    · exact ⟨p, h1, h2, h3⟩
  have HDB := Lib.hid hdb
  have HA5 := Lib.hid (HDA.out.below b5)
  have B5 := Lib.hid (B4.out.trans (b5.mono B4.out.size))
  have z45 : w4.heap.size ≤ w5.heap.size := b5.size
  have CR := receive_any _ _ pa (newS S 7) w5 HA5.out (by simp [newS]) 8 (by decide) (by decide) ap cp L (HPS.out.on B5.out) (by have := HLL.out; omega) HLF.out
  rw [HRCV.out, HLL.out] at CR
  have HCR := Lib.hid CR
  clear hw hdb b5 CR
  go_wp2_with fail
  refine HCR.out.mono ?_
  rintro e w6 ⟨rfl, T6, G6, hd6, hs6⟩
  have b6 : Below w3.heap.size w5 w6 := hs6.below (B5.out.size) (fun b hb => hb.1)
  have B6 := Lib.hid (B5.out.trans b6)
  have HDB6 := Lib.hid (HDB.out.apartFrom hs6 (fun b hb hT => by
    rcases hb with hb | hb
    · have q1 : w4.heap.size ≤ b := hb.1
      have q2 : b < w4.heap.size := hT.2
      omega
    · exact hb))
  have HD6 := Lib.hid hd6
  have HT6 : Hid (∀ b, T6 b ∨ G6 b → ¬ newB w4 w5 b) := fun b hb hT => by
    have q1 : w4.heap.size ≤ b := hT.1
    have q2 : b < w5.heap.size := hT.2
    rcases hb with hb | hb
    · rcases hs6.t b hb with h | h
      · have q3 : b < w4.heap.size := h.2
        omega
      · omega
    · rcases hs6.g b hb with h | h
      · exact h
      · omega
  have CD := edit_any _ _ pb (newS S 7) w6 HDB6.out (by simp [newS]) ax cx xs (HX3.out.on B6.out) (by have := HNX.out; omega) HFX.out
  rw [HNX.out] at CD
  have HCD := Lib.hid CD
  clear hd6 hs6 b6 CD HCR
  go_wp2_with fail
  refine HCD.out.mono ?_
  rintro e w7 hw
  obtain ⟨rfl, T7, G7, hd7, hs7⟩ : e = .returned (.tuple #[.int .i64 8, .int .i64 0]) ∧ ∃ T' G', DocI T' G' w7 pb (advS (newS S 7) xs) ∧ Stp (newB w4 w5) (fun _ => False) T' G' w6 w7 := by
    rcases hw with ⟨h, _⟩ | ⟨_, h1, h2⟩
    · exact absurd HEDT.out h
    · exact ⟨h1, h2⟩
  have b7 : Below w3.heap.size w6 w7 := hs7.below (B6.out.size) (fun b hb => by have := B4.out.size; have q : w4.heap.size ≤ b := hb.1; omega)
  have B7 := Lib.hid (B6.out.trans b7)
  have HDA7 := Lib.hid (HD6.out.apartFrom hs7 HT6.out)
  have HDB7 := Lib.hid hd7
  have CB := dbytes_any S ap cp L w7 (by omega) (by have := HLL.out; omega) (fun q hq => (HLF.out q hq).1) (HPS.out.on B7.out)
  rw [HPE.out, HPL.out, HLL.out] at CB
  have HCB := Lib.hid CB
  clear hw hd7 hs7 b7 CB HCD
  go_wp2_with fail
  refine HCB.out.mono ?_
  rintro e w8 ⟨ab, cb, rfl, hE8, _, b8⟩
  have HE8 := Lib.hid hE8
  have K8 := Lib.hid b8
  have B8 := Lib.hid (B7.out.trans (b8.mono B7.out.size))
  have HDA8 := Lib.hid (HDA7.out.below b8)
  have HDB8 := Lib.hid (HDB7.out.below b8)
  have hold : oldS (advS (newS S 7) xs) = 7 := rfl
  have hver : (advS (newS S 7) xs).v = 8 := rfl
  have CS := since_any T6 G6 pa (advS (newS S 7) xs) w8 HDA8.out 7 (by decide) (by decide) (by rw [hold, hver]; decide) 0 (by rw [hold]; decide) (by show 0 < 2; omega) (nmS S xs) HSNC.out.1
  have HCS := Lib.hid CS
  rw [HNX.out]
  obtain ⟨R, hR⟩ : ∃ r, nmS S xs = r := ⟨_, rfl⟩
  have hRl := HSNC.out.2
  rw [hR] at HCS hRl
  have HRR := Lib.hid hR
  clear hE8 b8 CS HCB hold hver hR
  go_wp2_with fail
  refine HCS.out.mono ?_
  rintro e w9 ⟨ay, cy, rfl, hE9, b9⟩
  have HE9 := Lib.hid hE9
  have K9 := Lib.hid b9
  have K89 := Lib.hid (K8.out)
  have B9 := Lib.hid (B8.out.trans (b9.mono B8.out.size))
  have HE89 := Lib.hid (HE8.out.on b9)
  have HDA9 := Lib.hid (HDA8.out.below b9)
  have HDB9 := Lib.hid (HDB8.out.below b9)
  have CNm := pnormal_any S ax cx xs w9 (by omega) (by omega) (by have := HNX.out; omega) HFX.out (HX3.out.on B9.out)
  rw [HRR.out, HX2.out, HNX.out] at CNm
  have HCN := Lib.hid CNm
  clear hE9 b9 CNm HCS
  go_wp2_with fail
  refine HCN.out.mono ?_
  rintro e w10 ⟨az, cz, rfl, hE10, b10⟩
  have HE10 := Lib.hid hE10
  have HEY := Lib.hid (HE9.out.on b10)
  have HEB := Lib.hid (HE89.out.on b10)
  have B10 := Lib.hid (B9.out.trans (b10.mono B9.out.size))
  have CTA := text_any T6 G6 pa _ w10 (HDA9.out.below b10)
  obtain ⟨tx, htx⟩ : ∃ t, (advS (newS S 7) xs).text = t := ⟨_, rfl⟩
  rw [htx] at CTA
  have HTA := Lib.hid CTA
  have HDB10 := Lib.hid (HDB9.out.below b10)
  have HTX := Lib.hid htx
  clear hE10 b10 CTA HCN htx
  go_wp2_with fail
  refine HTA.out.mono ?_
  rintro e w11 ⟨rfl, b11⟩
  have HE11 := Lib.hid (HE10.out.on b11)
  have HEY11 := Lib.hid (HEY.out.on b11)
  have HEB11 := Lib.hid (HEB.out.on b11)
  have B11 := Lib.hid (B10.out.trans (b11.mono B10.out.size))
  have CTB := text_any T7 G7 pb _ w11 (HDB10.out.below b11)
  rw [HTX.out] at CTB
  have HTB := Lib.hid CTB
  clear b11 CTB
  go_wp2_with fail
  refine HTB.out.mono ?_
  rintro e w12 ⟨rfl, b12⟩
  have HE12 := Lib.hid (HE11.out.on b12)
  have HEY12 := Lib.hid (HEY11.out.on b12)
  have HEB12 := Lib.hid (HEB11.out.on b12)
  have B12 := Lib.hid (B11.out.trans (b12.mono B11.out.size))
  have CS1 := same_any ab ax cb cx xs w12 (by have := HNX.out; omega) HEB12.out (HX3.out.on B12.out)
  rw [HNX.out] at CS1
  have HS1 := Lib.hid CS1
  have qt : (tx.toList == tx.toList) = true := by simp
  clear b12 CS1
  go_wp2_with fail
  refine HS1.out.mono ?_
  rintro e w13 ⟨rfl, b13⟩
  have B13 := Lib.hid (B12.out.trans (b13.mono B12.out.size))
  have HS2 := Lib.hid (same_any ay az cy cz R w13 (by omega) (HEY12.out.on b13) (HE12.out.on b13))
  clear b13
  go_wp2_with fail
  refine HS2.out.mono ?_
  rintro e w14 ⟨rfl, b14⟩
  have B14 := Lib.hid (B13.out.trans (b14.mono B13.out.size))
  clear b14
  go_wp2_with fail
  refine (lives_any _).mono ?_
  rintro e w15 ⟨rfl, b15⟩
  have B15 := Lib.hid (H3.out.trans ((B14.out.trans (b15.mono B14.out.size)).mono H3.out.size))
  clear b15
  go_wp2
  go_ret
  exact ⟨rfl, B15.out⟩

end Go.Proofs.Ytkehgoailhpenaa
