/- The walk of EditPositions. It has no conditions. -/
import Derived.Test.YtfhpllcdlejfjaaEGw
import Derived.Test.YtfhpllcdlejfjaaEOw
import Derived.Test.YtfhpllcdlejfjaaPEd8
import Derived.Test.YtfhpllcdlejfjaaBytes
import Derived.Test.YtfhpllcdlejfjaaPAtP
import Derived.Deep.RegionHeld3
namespace Go.Proofs.Ytfhpllcdlejfjaa
open Go.RowKit Go.Shelf
set_option linter.unusedVariables false

theorem ed_there {Z : List Int} {l1 u1 l2 u2 x y : Nat} (t : ByteArray) (h1 : Pos Z x l1 u1) (h2 : Pos Z y l2 u2) (h : x ≤ y) : EdS Z ⟨l1, u1, l2, u2, t⟩ ⟨x, y, t⟩ 0 :=
  ⟨x, 0, y, 0, .inl ⟨rfl, l1, u1, rfl, rfl, h1⟩, .inl ⟨rfl, l2, u2, rfl, rfl, h2⟩, .inr (.inr (.inr ⟨rfl, rfl, h, rfl, rfl⟩))⟩
theorem pos_small2 {s : ByteArray} {i l u : Nat} (h : Pos (sb s) i l u) (hs : s.size ≤ 500) : l ≤ 1000 ∧ u ≤ 1000 ∧ I64n (l : Int) ∧ I64n (u : Int) := by
  have hi := h.lt
  rw [sb_len] at hi
  have h0 := h.2.2.unis_take
  have h1 := unis_le (((sb s).drop (lf (sb s) i).2).take (i - (lf (sb s) i).2))
  rw [List.length_take, List.length_drop, sb_len] at h1
  have h2 := (lf_le (sb s) i).2
  have h3 := h.2.1
  have a : l ≤ 1000 := by omega
  have b : u ≤ 1000 := by omega
  exact ⟨a, b, ⟨by omega, by omega⟩, ⟨by omega, by omega⟩⟩
/-- An edit by offsets, of an edit that came in. -/
def edN (e : Er) : Ed := ⟨e.f.toNat, e.t.toNat, e.x⟩
theorem conv_new (s : ByteArray) (hs : s.size ≤ 1000000) : ∃ (cc : World → Nat) (fw : World → World), ∀ W, (convert 9 62 (.string s)).run Try.prog W = .ok (.slice (some ⟨W.heap.size, 0, none⟩) s.size (cc W)) (fw W) ∧
    Below W.heap.size W (fw W) ∧ Sli .u8 (fw W) (some ⟨W.heap.size, 0, none⟩) (cc W) (sb s) := by
  refine ⟨fun W => grownCap W s.size 0 5, fun W => W.drew.alloc (.cells (bytesRow s (grownCap W s.size 0 5)) 5 ((bytesRow s (grownCap W s.size 0 5)).size, (bytesRow s (grownCap W s.size 0 5)).size + 1)), fun W => ⟨?_, ?_, ?_⟩⟩
  · exact run_bytes_of_string W 9 62 5 s Try.underlying9 Try.underlying62 Try.underlying5
  · exact (Below.refl _ _).drew.alloc (Nat.le_refl _) _
  · refine sli_string s _ _ _ 5 _ (grownCap_ge W s.size 0 5) ?_ (heap_alloc_new W.drew _)
    have := grownCap_le_maxLen W s.size 0 5 (by unfold maxLen; omega)
    unfold maxLen at this
    omega
theorem map_first {n : Nat} {es : List Er} (h : vErr (n : Int) es = 0) (hn : n ≤ 9223372036854775807) (h0 : 0 < es.length) : mpV es (eg es 0).f false = (eg es 0).f := by
  have hok := vErr_ok h
  obtain ⟨e, l, rfl⟩ : ∃ e l, es = e :: l := by
    cases es with
    | nil => simp at h0
    | cons e l => exact ⟨e, l, rfl⟩
  have he := hok.2.2 e (by simp)
  have hf : (eg (e :: l) 0).f = ((e.f.toNat : Nat) : Int) := by simp [eg]; omega
  rw [hf, map_low h hn]
  simp only [ees_cons, lowF, Er.ee]
  have hnb : ¬ Bef ⟨e.f.toNat, e.t.toNat, sb e.x⟩ e.f.toNat := by unfold Bef; simp only; omega
  rw [if_neg hnb, if_neg (by omega)]
  omega
/-- The text after edits begins as the text before them, up to the first one. -/
theorem app_prefix {s : ByteArray} {es : List Er} (h : vErr (s.size : Int) es = 0) (h0 : 0 < es.length) : ∃ B1 B2 A : List Int, sb s = A ++ B1 ∧ sb (apS s es) = A ++ B2 ∧ ((A.length : Nat) : Int) = (eg es 0).f := by
  have hok := vErr_ok h
  obtain ⟨e, l, rfl⟩ : ∃ e l, es = e :: l := by
    cases es with
    | nil => simp at h0
    | cons e l => exact ⟨e, l, rfl⟩
  have he := hok.2.2 e (by simp)
  refine ⟨(sb s).drop e.f.toNat, sb e.x ++ appl (sb s) e.t.toNat (ees l), (sb s).take e.f.toNat, (List.take_append_drop _ _).symm, ?_, ?_⟩
  · rw [apS_ok h]
    simp only [ees_cons, appl, Er.ee, List.drop_zero, Nat.sub_zero]
  · rw [List.length_take, sb_len]
    simp only [eg, List.getElem?_cons_zero, Option.getD_some]
    omega

set_option maxRecDepth 100000 in
set_option maxHeartbeats 8000000 in
theorem walkPositions (a0 : Option Addr) (cap0 : Nat) (ls : List Int) (a1 : Option Addr) (cap1 : Nat) (ns : List Int) (w : World)
    (h0 : Sli .i64 w a0 cap0 ls) (hi0 : ∀ n ∈ ls, -9223372036854775808 ≤ n ∧ n ≤ 9223372036854775807) (h1 : Sli .i64 w a1 cap1 ns) (hi1 : ∀ n ∈ ns, -9223372036854775808 ≤ n ∧ n ≤ 9223372036854775807) :
    Calls Try.prog 12 #[.slice a0 ls.length cap0, .slice a1 ns.length cap1] w fun e w' => e = .returned (.bool true) ∧ Below w.heap.size w w' := by
  obtain ⟨i5, hi5, jy0, jy1, jy2⟩ := info_parts infoP
  have cT := rtext_any a0 cap0 ls w h0 hi0
  obtain ⟨n0, hn0⟩ : ∃ n, ls.length = n := ⟨_, rfl⟩
  obtain ⟨n1, hn1⟩ : ∃ n, ns.length = n := ⟨_, rfl⟩
  have hsl : SlI w.heap.size w a1 n1 := by have := SlI.of h1 hi1; rwa [hn1] at this
  have hc1 : n1 ≤ cap1 := by have := h1.le; omega
  have hm1 := h1.mx
  rw [hn0] at cT ⊢
  rw [hn1]
  have CT := Lib.hid cT; have HSL := Lib.hid hsl
  clear cT h0 hi0 h1 hi1 hsl
  go_enter Try.func12, Try.ntmps12
  go_wp2_with fail
  refine CT.out.mono ?_
  rintro e w1 ⟨S, rfl, hSl, hSw, hb1⟩
  have H1 := Lib.hid hb1; have HW := Lib.hid hSw
  have CE := edits_any S a1 n1 cap1 w1 (by omega) (HSL.out.on hb1) hc1 hm1
  clear hb1 hSw
  go_wp2_with fail
  refine CE.mono ?_
  rintro e w2 ⟨xs, v2, rfl, hx1, hx2, hx3, hown2, hb2⟩
  obtain ⟨_, ax, cx, rfl, hX⟩ := es_of_own hown2
  have hok := vErr_ok hx2
  have hfx := fit_of hx2 (by omega) (fun e he => by have := (hx3 e he).1; omega)
  have hcx := hX.le
  obtain ⟨n, hn⟩ : ∃ n, xs.length = n := ⟨_, rfl⟩
  obtain ⟨bb, off, hab, hcell⟩ := hX.cells.core
  obtain ⟨lo, hlo⟩ : ∃ lo, w2.heap.size = lo := ⟨_, rfl⟩
  rw [hn] at hab hcell hcx hx1 ⊢
  rw [hlo] at hab
  have HPOS : Hid (∀ k, k < n → ∃ x y U V : Nat, (eg xs k).f = (x : Int) ∧ (eg xs k).t = (y : Int) ∧ Bord (sb S) x U ∧ Bord (sb S) y V ∧ x ≤ y ∧ y ≤ S.size) := fun k hk => by
    have hm := eg_mem (es := xs) (k := k) (by omega)
    have h1 := hok.2.2 _ hm
    obtain ⟨_, h2, h3⟩ := hx3 _ hm
    obtain ⟨U, hU⟩ := bord_of_bd HW.out (by rw [sb_len]; omega) h2
    obtain ⟨V, hV⟩ := bord_of_bd HW.out (by rw [sb_len]; omega) h3
    exact ⟨_, _, U, V, by omega, by omega, hU, hV, by omega, by omega⟩
  have H2 := Lib.hid (H1.out.trans (hb2.mono H1.out.size))
  have zlo : w.heap.size ≤ lo := by have := H2.out.size; omega
  have HN := Lib.hid hn; have HX := Lib.hid hX; have HX2 := Lib.hid hx2; have HFX := Lib.hid hfx; have HAB := Lib.hid hab; have HC := Lib.hid hcell; have HLO := Lib.hid hlo; have HX3 := Lib.hid hx3
  have HO0 : Hid (w2.ownsRow lo 58 5 (.slice none 0 0) 0 (pvals (fun _ => ⟨0, 0, 0, 0, ⟨#[]⟩⟩) 0)) := World.ownsRow_nil _ _ _ _
  have HB0 : Hid (Below lo w2 w2) := Below.refl _ _
  clear hown2 hX hb2 hx2 hx3 hok hfx hab hcell hn hlo
  go_wp2_with fail
  go_loopw [7, 8] (fun v q wr => ∃ (k : Nat) (ps : Nat → PE), k ≤ n ∧ q = .int .i64 (k : Int) ∧ Hid (∀ j, j < k → (ps j).fit ∧ EdS (sb S) (ps j) (edN (eg xs j)) 0) ∧ Hid (wr.ownsRow lo 58 5 v k (pvals ps k)) ∧ Hid (Below lo w2 wr)) (fun _ q _ => n - (intOf q).toNat)
  case atStart => exact ⟨0, fun _ => ⟨0, 0, 0, 0, ⟨#[]⟩⟩, by omega, rfl, Lib.hid (fun j h => by omega), HO0, HB0.out⟩
  case round =>
    obtain ⟨k, ps, hk, rfl, HPS, HO, HR⟩ := hrel
    have hlr : lo ≤ wr.heap.size := by have := HR.out.size; have := HLO.out; omega
    by_cases hlt : k < n
    · have hkk : (k : Int) < (n : Int) := by omega
      obtain ⟨rfl, hbb⟩ := HAB.out.resolve_left (by omega)
      have hcw : Hid (∀ W, Below lo w2 W → W.cell? ⟨bb, off + k * 3, none⟩ = some (.int .i64 (eg xs k).f) ∧ W.cell? ⟨bb, off + k * 3 + 1, none⟩ = some (.int .i64 (eg xs k).t) ∧ W.cell? ⟨bb, off + k * 3 + 2, none⟩ = some (.string (eg xs k).x)) := fun W hW => HC.out k hlt W (hW.block bb hbb)
      obtain ⟨x, y, U, V, hx, hy, hU, hV, hxy, hys⟩ := HPOS.out k hlt
      obtain ⟨z, hz⟩ : ∃ z, (eg xs k).x = z := ⟨_, rfl⟩
      rw [hx, hy, hz] at hcw
      have hed : edN (eg xs k) = ⟨x, y, z⟩ := by unfold edN; rw [hx, hy, hz]; simp
      obtain ⟨c0, _, _⟩ := hcw.out wr HR.out
      have HBX := Lib.hid hU; have HBY := Lib.hid hV; have HED := Lib.hid hed; have HZ := Lib.hid hz
      clear hU hV hx hy hz hed
      go_wp2_with fail
      refine (pat_any S (x : Int) _ (by omega) (by omega) (by omega)).mono ?_
      rintro e w3 ⟨l1, u1, er, rfl, hsp, b3⟩
      obtain ⟨rfl, hpx⟩ := at_border hsp HBX.out
      obtain ⟨y1, y2, y3, y4⟩ := pos_small2 hpx (by omega)
      have HPX := Lib.hid hpx
      have hB3 : Below lo w2 w3 := HR.out.trans (b3.mono hlr)
      have z3 : lo ≤ w3.heap.size := by have := b3.size; omega
      obtain ⟨p1, hp1⟩ : ∃ p, w3.heap.size = p := ⟨_, rfl⟩
      obtain ⟨W3, hW3⟩ : ∃ W, w3.alloc (.cells #[.int .i64 (l1 : Int), .int .i64 (u1 : Int)] 54) = W := ⟨_, rfl⟩
      have k3 : Blk W3 p1 54 #[.int .i64 (l1 : Int), .int .i64 (u1 : Int)] := by rw [← hW3, ← hp1]; exact Blk.new _ _ _
      have hB3a : Below lo w2 W3 := by rw [← hW3]; exact hB3.alloc z3 _
      have s3 : W3.heap.size = p1 + 1 := by rw [← hW3, ← hp1]; simp
      obtain ⟨_, c1, _⟩ := hcw.out W3 hB3a
      have hp1w : wr.heap.size ≤ p1 := by have := b3.size; omega
      have hO3 : Below wr.heap.size wr W3 := by rw [← hW3]; exact b3.alloc b3.size _
      have HW3 := Lib.hid hW3; have HK3 := Lib.hid k3; have HB3 := Lib.hid hB3a; have HP1 := Lib.hid hp1; have HO3 := Lib.hid hO3
      clear hsp hpx b3 c0 hW3 k3 hB3 hB3a hO3
      rw [← HW3.out] at c1
      go_wp2_with fail
      rw [show w3.alloc (.cells #[.int .i64 (l1 : Int), .int .i64 (u1 : Int)] 54) = W3 from HW3.out]
      refine (pat_any S (y : Int) _ (by omega) (by omega) (by omega)).mono ?_
      rintro e w4 ⟨l2, u2, er, rfl, hsp, b4⟩
      obtain ⟨rfl, hpy⟩ := at_border hsp HBY.out
      obtain ⟨y5, y6, y7, y8⟩ := pos_small2 hpy (by omega)
      have z4 : lo ≤ w4.heap.size := by have := b4.size; omega
      obtain ⟨p2, hp2⟩ : ∃ p, w4.heap.size = p := ⟨_, rfl⟩
      obtain ⟨W4, hW4⟩ : ∃ W, w4.alloc (.cells #[.int .i64 (l2 : Int), .int .i64 (u2 : Int)] 54) = W := ⟨_, rfl⟩
      have hp2p : p1 < p2 := by have := b4.size; omega
      have b34 : Below W3.heap.size W3 W4 := by rw [← hW4]; exact b4.alloc b4.size _
      have k4 : Blk W4 p2 54 #[.int .i64 (l2 : Int), .int .i64 (u2 : Int)] := by rw [← hW4, ← hp2]; exact Blk.new _ _ _
      have k34 : Blk W4 p1 54 #[.int .i64 (l1 : Int), .int .i64 (u1 : Int)] := HK3.out.same (b34.block p1 (by omega))
      have hB4 : Below lo w2 W4 := HB3.out.trans (b34.mono (by omega))
      have hO4 : Below wr.heap.size wr W4 := HO3.out.trans (b34.mono HO3.out.size)
      have hown4 : W4.ownsRow lo 58 5 u7 k (pvals ps k) := own_same HO.out (fun g hg => hO4.block g (HO.out.lt g hg).2)
      have z4a : lo ≤ W4.heap.size := by have := b34.size; omega
      have hed : EdS (sb S) ⟨l1, u1, l2, u2, z⟩ (edN (eg xs k)) 0 := by rw [HED.out]; exact ed_there z HPX.out hpy hxy
      obtain ⟨qs, hqs⟩ : ∃ qs : Nat → PE, (fun j => if j = k then (⟨l1, u1, l2, u2, z⟩ : PE) else ps j) = qs := ⟨_, rfl⟩
      have hqk : qs k = ⟨l1, u1, l2, u2, z⟩ := by rw [← hqs]; simp
      have hqj : ∀ j, j < k → qs j = ps j := fun j hj => by rw [← hqs]; simp; omega
      have HQ : Hid (∀ j, j < k + 1 → (qs j).fit ∧ EdS (sb S) (qs j) (edN (eg xs j)) 0) := fun j hj => by
        by_cases e : j = k
        · subst e; rw [hqk]; exact ⟨⟨y3, y4, y7, y8⟩, hed⟩
        · rw [hqj j (by omega)]; exact HPS.out j (by omega)
      have HPV : Hid (pvals qs (k + 1) = pvals ps k ++ [.int .i64 (l1 : Int), .int .i64 (u1 : Int), .int .i64 (l2 : Int), .int .i64 (u2 : Int), .string z]) := Lib.hid (by rw [pvals_succ, hqk, pvals_congr k hqj]; rfl)
      have hw24 : W4.heap[bb]? = w2.heap[bb]? := hB4.block bb hbb
      have HS0 : Hid (∀ W : World, W.heap[p1]? = W4.heap[p1]? → W.heap[p2]? = W4.heap[p2]? → W.heap[bb]? = W4.heap[bb]? → W.cell? ⟨p1, 0, none⟩ = some (.int .i64 (l1 : Int)) ∧ W.cell? ⟨p1, 1, none⟩ = some (.int .i64 (u1 : Int)) ∧ W.cell? ⟨p2, 0, none⟩ = some (.int .i64 (l2 : Int)) ∧ W.cell? ⟨p2, 1, none⟩ = some (.int .i64 (u2 : Int)) ∧ W.cell? ⟨bb, off + k * 3 + 2, none⟩ = some (.string z)) := fun W e1 e2 e3 => by
        have a1 := k34.same e1
        have a2 := k4.same e2
        have a3 := (HC.out k hlt W (e3.trans hw24)).2.2
        rw [HZ.out] at a3
        exact ⟨by simpa using a1.cell 0, by simpa using a1.cell 1, by simpa using a2.cell 0, by simpa using a2.cell 1, a3⟩
      have hbl : p1 < W4.heap.size ∧ p2 < W4.heap.size ∧ bb < W4.heap.size := ⟨k34.lt, k4.lt, by omega⟩
      have hob : ∀ g, u7.ownBlock = some g → g ≠ p1 ∧ g ≠ p2 ∧ g ≠ bb := fun g hg => by
        have h1 := HO.out.lt g hg
        have h2 := HO3.out.size
        omega
      have HS : Hid (∀ W, Below W4.heap.size W4 W → W.cell? ⟨p1, 0, none⟩ = some (.int .i64 (l1 : Int)) ∧ W.cell? ⟨p1, 1, none⟩ = some (.int .i64 (u1 : Int)) ∧ W.cell? ⟨p2, 0, none⟩ = some (.int .i64 (l2 : Int)) ∧ W.cell? ⟨p2, 1, none⟩ = some (.int .i64 (u2 : Int)) ∧ W.cell? ⟨bb, off + k * 3 + 2, none⟩ = some (.string z)) := fun W hW =>
        HS0.out W (hW.block p1 hbl.1) (hW.block p2 hbl.2.1) (hW.block bb hbl.2.2)
      have HG : Hid (∀ w6, ((W4.alloc (.cells #[.int .i64 (l1 : Int), .int .i64 (u1 : Int), .int .i64 (l2 : Int), .int .i64 (u2 : Int), .string z] 58)).drew).grownBy w6 u7.ownBlock → W4.heap.size ≤ w6.heap.size ∧ w6.heap[p1]? = W4.heap[p1]? ∧ w6.heap[p2]? = W4.heap[p2]? ∧ w6.heap[bb]? = W4.heap[bb]?) := fun w6 hg => by
        have hb := ((Below.refl W4.heap.size W4).alloc (Nat.le_refl _) (.cells #[.int .i64 (l1 : Int), .int .i64 (u1 : Int), .int .i64 (l2 : Int), .int .i64 (u2 : Int), .string z] 58)).drew
        have hz := hb.size
        have hz6 := hg.size
        refine ⟨by omega, ?_, ?_, ?_⟩
        · exact (hg.block p1 (by omega) (fun e => (hob p1 e.symm).1 rfl)).trans (hb.block p1 hbl.1)
        · exact (hg.block p2 (by omega) (fun e => (hob p2 e.symm).2.1 rfl)).trans (hb.block p2 hbl.2.1)
        · exact (hg.block bb (by omega) (fun e => (hob bb e.symm).2.2 rfl)).trans (hb.block bb hbl.2.2)
      have HW4 := Lib.hid hW4; have HB4 := Lib.hid hB4; have HP2 := Lib.hid hp2; have HOW := Lib.hid hown4
      have c3 := HS.out W4.drew (Below.refl _ _).drew
      have c4 := HS.out ((W4.alloc (.cells #[.int .i64 (l1 : Int), .int .i64 (u1 : Int), .int .i64 (l2 : Int), .int .i64 (u2 : Int), .string z] 58)).drew) ((Below.refl _ W4).alloc (Nat.le_refl _) _).drew
      clear hsp hpy b4 c1 b34 k4 k34 hB4 hO4 hown4 hed hqs hqk hqj hW4
      go_wp2_with fail
      try rw [HP2.out]
      rw [show w4.alloc (.cells #[.int .i64 (l2 : Int), .int .i64 (u2 : Int)] 54) = W4 from HW4.out]
      go_region_held3 (fun w' => w'.cell? ⟨p1, 0, none⟩ = some (.int .i64 (l1 : Int)) ∧ w'.cell? ⟨p1, 1, none⟩ = some (.int .i64 (u1 : Int)) ∧ w'.cell? ⟨p2, 0, none⟩ = some (.int .i64 (l2 : Int)) ∧ w'.cell? ⟨p2, 1, none⟩ = some (.int .i64 (u2 : Int)) ∧ w'.cell? ⟨bb, off + k * 3 + 2, none⟩ = some (.string z)) (first | exact c3 | exact c4 | exact c6)
        (first | (rw [if_pos (by rfl)]; refine wp_append_at _ _ 52 rfl lo 58 i5 (.agg #[.int .i64 0, .int .i64 0, .int .i64 0, .int .i64 0, .string ⟨#[]⟩]) 5 48 Try.underlying52 hi5 jy0 jy1 jy2 rfl (by decide) u7 k (pvals ps k) rfl (HOW.out.alloc _).drew ⟨_, 0, none⟩ 1 1 [.int .i64 (l1 : Int), .int .i64 (u1 : Int), .int .i64 (l2 : Int), .int .i64 (u2 : Int), .string z] rfl rfl (cells_news W4 [.int .i64 (l1 : Int), .int .i64 (u1 : Int), .int .i64 (l2 : Int), .int .i64 (u2 : Int), .string z] _) (fun x hx => by simp at hx; rcases hx with rfl | rfl | rfl | rfl | rfl <;> rfl) (by unfold maxLen; omega) (by omega) (by simp; omega) ?_; intro v' w6 hown6 hgrow6 _; obtain ⟨_, e1, e2, e3⟩ := HG.out w6 hgrow6; have c6 := HS0.out w6 e1 e2 e3))
      have HO6 : Hid (w6.ownsRow lo 58 5 v' (k + 1) (pvals qs (k + 1))) := by rw [HPV.out]; exact hown6
      have H6 : Hid (Below lo w2 w6) := HB4.out.trans ((((Below.refl W4.heap.size W4).alloc (Nat.le_refl _) (.cells #[.int .i64 (l1 : Int), .int .i64 (u1 : Int), .int .i64 (l2 : Int), .int .i64 (u2 : Int), .string z] 58)).drew.mono z4a).grown hgrow6 (by simp; omega) (fun g hg => (HO.out.lt g hg).1))
      clear hown6 hgrow6 c3 c4 c6 e1 e2 e3
      go_wp2
      go_roundw
      case rel => exact ⟨k + 1, qs, by omega, by go_num, HQ, HO6, H6⟩
      case measure => simp [intOf]; omega
    · obtain rfl : n = k := by omega
      obtain ⟨Ap, cp, rfl, hcp1, hcp2, hPC, _⟩ := pcells_of_own HO.out
      have CBy := pbytes_any S Ap n cp ps (fun j => edN (eg xs j)) (fun _ => 0) wr (by omega) (by omega) hcp1 (fun j hj => (HPS.out j hj).1) hPC (fun j hj => (HPS.out j hj).2)
      have HCB := Lib.hid CBy
      clear hPC CBy
      go_wp2_with fail
      refine HCB.out.mono ?_
      rintro e w3 hpost
      obtain ⟨m3, er3, a3, c3, rfl, hc31, hc32, hE3, hdet, hb3⟩ := bytes_one hpost
      obtain ⟨rfl, rfl⟩ : m3 = n ∧ er3 = 0 := by
        rcases hdet with ⟨h1, _, _⟩ | ⟨_, ⟨i, _, h2, h3, _⟩, _⟩ | ⟨_, _, h1, h2⟩
        · omega
        · exact absurd h2.symm h3
        · exact ⟨h1, h2⟩
      have esY : ES w3.heap.size w3 a3 c3 xs := by
        refine ⟨by rw [HN.out]; exact hc31, hc32, fun h => ?_, ?_⟩
        · rcases hE3 with h0 | ⟨g, hg, _⟩
          · rw [HN.out]; exact h0
          · rw [h] at hg; cases hg
        · rcases hE3 with h0 | ⟨g, hg, hlt, hc⟩
          · exact .inl (by rw [HN.out]; exact h0)
          · refine .inr ⟨g, 0, hg, hlt, fun j hj i hi => ?_⟩
            rw [HN.out] at hj
            rw [Nat.zero_add, hc j hj i hi]
            have h1 := (vErr_ok HX2.out).2.2 _ (eg_mem (es := xs) (k := j) (by rw [HN.out]; exact hj))
            have e1 : (((eg xs j).f.toNat : Nat) : Int) = (eg xs j).f := by omega
            have e2 : (((eg xs j).t.toNat : Nat) : Int) = (eg xs j).t := by omega
            simp only [edN, Ed.vals, Er.vals, e1, e2]
      obtain ⟨o1, o2, o3, o4⟩ := iv_ok HX2.out
      have hb3w : Below w2.heap.size w2 w3 := by
        have := HR.out.trans (hb3.mono hlr)
        rw [HLO.out]; exact this
      have hz := apS_size (c := S.size + 7) HX2.out (fun e he => (HX3.out e he).1)
      have hz2 : (apS S xs).size ≤ 1000 := by
        have h5 : xs.length ≤ 5 := by rw [HN.out]; exact hx1
        have := Nat.mul_le_mul (show S.size + 7 ≤ 103 by omega) h5
        omega
      have P1 := papply_any S a3 c3 xs w3 (by omega) (by have := HN.out; omega) HFX.out esY
      have P2 := fun W (hW : Below w2.heap.size w2 W) => pinvert_any S ax cx xs W (by omega) (by have := HN.out; omega) HFX.out (HX.out.on hW)
      have hfy := fit_of o1 (by omega) (fun e he => by have := o4 e he; omega)
      obtain ⟨Y, hY⟩ : ∃ y, ivS S xs = y := ⟨_, rfl⟩
      obtain ⟨z, hzz⟩ : ∃ z, apS S xs = z := ⟨_, rfl⟩
      have HPRE : Hid (0 < m3 → ∃ (x0 l u : Nat) (U : Nat), (eg xs 0).f = (x0 : Int) ∧ Bord (sb S) x0 U ∧ x0 ≤ S.size ∧ Pos (sb S) x0 l u ∧ Pos (sb z) x0 l u ∧ mpV xs (x0 : Int) false = (x0 : Int)) := fun h0 => by
        obtain ⟨x, y, U, V, hx, hy, hU, hV, hxy, hys⟩ := HPOS.out 0 h0
        obtain ⟨B1, B2, A, e1, e2, e3⟩ := app_prefix HX2.out (by rw [HN.out]; exact h0)
        rw [hzz] at e2
        obtain rfl : A.length = x := by omega
        obtain ⟨u, hu⟩ := pos_of_bord hU
        refine ⟨A.length, _, u, U, hx, hU, by omega, hu, ?_, ?_⟩
        · rw [e2]
          rw [e1] at hu
          have hw := HW.out
          rw [e1] at hw
          have h1 := pos_prefix (B2 := B2) hw hu
          rw [e1]; exact h1
        · have := map_first HX2.out (by omega) (by rw [HN.out]; exact h0)
          rw [hx] at this
          exact this
      have hv0 := HX2.out
      rw [hv0, hzz] at P1
      simp only [hv0, hY] at P2
      rw [hY, hzz] at o1 o2
      rw [hY] at o3
      rw [hzz] at hz2
      rw [hY] at hfy
      rw [HN.out] at P1 o3
      simp only [HN.out] at P2
      have q1 : (S.toList == S.toList) = true := by simp
      have hnear : ∀ e ∈ xs, Near e.f ∧ Near e.t := fun e he => by have := (vErr_ok HX2.out).2.2 e he; exact ⟨⟨by omega, by omega⟩, ⟨by omega, by omega⟩⟩
      have HP1 := Lib.hid P1; have HP2 := Lib.hid P2; have HO1 := Lib.hid o1; have HO2 := Lib.hid o2; have HFY := Lib.hid hfy; have HNY := Lib.hid o3; have HEY := Lib.hid esY; have HNR := Lib.hid hnear
      have K3 := Lib.hid hb3w; have hny5 : Y.length ≤ 5 := by omega
      clear hpost hE3 hdet hb3 esY o1 o2 o3 o4 hz P1 P2 hfy hY hzz hv0 hnear hb3w
      go_wp2_with fail
      refine HP1.out.mono ?_
      rintro e w4 ⟨rfl, b4⟩
      have K4 := Lib.hid (K3.out.trans (b4.mono K3.out.size))
      have KY4 := Lib.hid b4
      clear b4
      go_wp2_with fail
      refine (HP2.out _ K4.out).mono ?_
      rintro e w5 ⟨a5, c5, rfl, hE5, b5⟩
      rw [HNY.out]
      have P5 := papply_any z a5 c5 Y w5 (by omega) (by omega) HFY.out hE5
      rw [HO1.out, HO2.out, HNY.out] at P5
      have HP5 := Lib.hid P5
      have K5 := Lib.hid (K4.out.trans (b5.mono K4.out.size))
      have KY5 := Lib.hid (KY4.out.trans (b5.mono KY4.out.size))
      clear hE5 b5 P5
      go_wp2_with fail
      refine HP5.out.mono ?_
      rintro e w6 ⟨rfl, b6⟩
      have K6 := Lib.hid (K5.out.trans (b6.mono K5.out.size))
      have KY6 := Lib.hid (KY5.out.trans (b6.mono KY5.out.size))
      have S1 := same_any ax a3 cx c3 xs w6 (by have := HN.out; omega) (HX.out.on K6.out) (HEY.out.on KY6.out)
      rw [HN.out] at S1
      have HS1 := Lib.hid S1
      clear b6 S1
      go_wp2_with fail
      refine HS1.out.mono ?_
      rintro e w7 ⟨rfl, b7⟩
      have K7 := Lib.hid (K6.out.trans (b7.mono K6.out.size))
      clear b7
      obtain ⟨B, hB⟩ : ∃ B, w.heap.size = B := ⟨_, rfl⟩
      have k7 : Below B w w7 := by rw [← hB]; exact H2.out.trans (K7.out.mono H2.out.size)
      obtain ⟨cc, fw, hcv⟩ := conv_new S (by omega)
      have hcv1 := fun W => (hcv W).1
      have HT : Hid (∀ W, Below W.heap.size W (fw W)) := fun W => (hcv W).2.1
      have HBf : Hid (∀ V, Below B w V → Below B w (fw V)) := fun V hV => hV.trans ((HT.out V).mono (by have := hV.size; omega))
      obtain ⟨HH, hHH⟩ : ∃ H, U (bytesS (sb ⟨#[116, 101, 120, 116]⟩) (sb S)) = H := ⟨_, rfl⟩
      have KB : Hid (∀ (G : Nat) (W V : World), W.heap.size = G → Below (fw W).heap.size (fw W) V → Below B w V → Calls Try.prog 38 #[.string ⟨#[116, 101, 120, 116]⟩, .slice (some ⟨G, 0, none⟩) S.size (cc W)] V fun e w' => e = .returned (.int .u64 HH) ∧ Below V.heap.size V w' ∧ Below B w w') := by
        intro G W V hG h1 h2
        subst hG
        have hs := (hcv W).2.2.below h1
        have := bytes_any ⟨#[116, 101, 120, 116]⟩ (some ⟨W.heap.size, 0, none⟩) (cc W) (sb S) V (by decide) (by rw [sb_len]; omega) hs.le hs.mx (sb_byt _) hs.cells
        rw [hHH, sb_len] at this
        refine this.mono ?_
        rintro e w' ⟨rfl, hb⟩
        exact ⟨rfl, hb, h2.trans (hb.mono (by have := h2.size; omega))⟩
      have KL : Hid (∀ V, Below B w V → Calls Try.prog 17 #[] V fun e w' => e = .returned (.bool true) ∧ Below B w w') := by
        intro V h
        refine (lives_any V).mono ?_
        rintro e w' ⟨rfl, hb⟩
        exact ⟨rfl, h.trans (hb.mono (by have := h.size; omega))⟩
      have HB := Lib.hid hB
      have hq1 : (S.toList == S.toList) = true := by simp
      have hq2 : (HH == HH) = true := by simp
      clear hcv hHH hB
      have K7' := Lib.hid k7
      clear k7
      by_cases hm0 : 0 < m3
      case' pos =>
        have hm1 : (0 : Int) < (m3 : Int) := by omega
        obtain ⟨x0, l0, u0, U0, hf0, hB0, hx0s, hpos0, hposz, hmap⟩ := HPRE.out hm0
        obtain ⟨y1, y2, y3, y4⟩ := pos_small2 hpos0 (by omega)
        obtain ⟨rfl, hbb⟩ := HAB.out.resolve_left (by omega)
        obtain ⟨c0, _, _⟩ := HC.out 0 hm0 w7 (K7.out.block bb (by rw [HLO.out]; exact hbb))
        rw [hf0] at c0
        simp only [Nat.zero_mul, Nat.add_zero] at c0
        have hBz : Bord (sb z) x0 (x0 : Nat) ∨ True := .inr trivial
        have hx0z : x0 ≤ z.size := by have := hposz.lt; rw [sb_len] at this; exact this
        have C8 := Lib.hid (fun W => pat_any S (x0 : Int) W (by omega) (by omega) (by omega))
        have C9 := Lib.hid (fun W (hW : Below w2.heap.size w2 W) => by
          have := pmap_any (some ⟨bb, off, none⟩) cx xs (x0 : Int) false W (by have := HN.out; omega) HFX.out HNR.out (⟨by omega, by omega⟩) (HX.out.on hW)
          rw [hmap, HN.out] at this
          exact this)
        have C10 := Lib.hid (fun W => pat_any z (x0 : Int) W (by omega) (by omega) (by omega))
        have HB0' := Lib.hid hB0; have HPS0 := Lib.hid hpos0; have HPZ := Lib.hid hposz
        clear hB0 hpos0 hposz hmap hf0 hBz
        go_wp2_with fail
        refine (C8.out w7).mono ?_
        rintro e w8 ⟨l, u, er, rfl, hsp, b8⟩
        obtain ⟨rfl, hpx⟩ := at_border hsp HB0'.out
        obtain ⟨rfl, rfl⟩ := hpx.det HPS0.out
        have hz8 := b8.size
        obtain ⟨p1, hp1⟩ : ∃ p, w8.heap.size = p := ⟨_, rfl⟩
        obtain ⟨W8, hW8⟩ : ∃ W, w8.alloc (.cells #[.int .i64 (l : Int), .int .i64 (u : Int)] 54) = W := ⟨_, rfl⟩
        have k8 : Blk W8 p1 54 #[.int .i64 (l : Int), .int .i64 (u : Int)] := by rw [← hW8, ← hp1]; exact Blk.new _ _ _
        have s8 : W8.heap.size = p1 + 1 := by rw [← hW8, ← hp1]; simp
        have kb8 : Below w7.heap.size w7 W8 := by rw [← hW8]; exact b8.alloc b8.size _
        have K8 := Lib.hid (K7.out.trans (kb8.mono K7.out.size))
        have K8' := Lib.hid (K7'.out.trans (kb8.mono (by have := K7'.out.size; have := HB.out; omega)))
        have HW8 := Lib.hid hW8; have HP1 := Lib.hid hp1; have HK8 := Lib.hid k8
        clear hsp hpx b8 hW8 hp1 k8 kb8
        go_wp2_with fail
        rw [show w8.alloc (.cells #[.int .i64 (l : Int), .int .i64 (u : Int)] 54) = W8 from HW8.out]
        refine (C9.out _ K8.out).mono ?_
        rintro e w9 ⟨rfl, b9⟩
        have K9 := Lib.hid (K8.out.trans (b9.mono K8.out.size))
        have K9' := Lib.hid (K8'.out.trans (b9.mono (by have := K8'.out.size; have := HB.out; omega)))
        have KB9 := Lib.hid b9
        clear b9
        go_wp2_with fail
        refine (C10.out w9).mono ?_
        rintro e w10 ⟨lz, uz, er, rfl, hsp, b10⟩
        obtain ⟨Uz, hBz⟩ := HPZ.out.1
        obtain ⟨rfl, hpx⟩ := at_border hsp hBz
        obtain ⟨rfl, rfl⟩ := hpx.det HPZ.out
        obtain ⟨p2, hp2⟩ : ∃ p, w10.heap.size = p := ⟨_, rfl⟩
        obtain ⟨W10, hW10⟩ : ∃ W, w10.alloc (.cells #[.int .i64 (lz : Int), .int .i64 (uz : Int)] 54) = W := ⟨_, rfl⟩
        have k10 : Blk W10 p2 54 #[.int .i64 (lz : Int), .int .i64 (uz : Int)] := by rw [← hW10, ← hp2]; exact Blk.new _ _ _
        have kb10 : Below w9.heap.size w9 W10 := by rw [← hW10]; exact b10.alloc b10.size _
        have k810 : Blk W10 p1 54 #[.int .i64 (lz : Int), .int .i64 (uz : Int)] := HK8.out.same ((KB9.out.trans (kb10.mono KB9.out.size)).block p1 (by omega))
        have K10' := Lib.hid (K9'.out.trans (kb10.mono (by have := K9'.out.size; have := HB.out; omega)))
        have c1 : W10.cell? ⟨p1, 0, none⟩ = some (.int .i64 (lz : Int)) := by simpa using k810.cell 0
        have c2 : W10.cell? ⟨p1, 1, none⟩ = some (.int .i64 (uz : Int)) := by simpa using k810.cell 1
        have c3 : W10.cell? ⟨p2, 0, none⟩ = some (.int .i64 (lz : Int)) := by simpa using k10.cell 0
        have c4 : W10.cell? ⟨p2, 1, none⟩ = some (.int .i64 (uz : Int)) := by simpa using k10.cell 1
        have HW10 := Lib.hid hW10; have HP2 := Lib.hid hp2
        have e1 : ((lz : Int) == (lz : Int)) = true := by simp
        have e2 : ((uz : Int) == (uz : Int)) = true := by simp
        clear hsp hpx b10 hW10 hp2 k10 kb10 k810 hBz
        rw [← HW10.out] at c1 c2 c3 c4
        rw [← HP1.out] at c1 c2
        rw [← HP2.out] at c3 c4
        go_wp2_with fail
        have kk : Below B w (w10.alloc (.cells #[.int .i64 (lz : Int), .int .i64 (uz : Int)] 54)) := by rw [HW10.out]; exact K10'.out
        refine (KB.out _ _ _ (by simp) (Below.refl _ _) (HBf.out _ kk)).mono ?_
        rintro e w11 ⟨rfl, b11, k11⟩
        go_wp2_with fail
        refine (KB.out _ _ _ rfl (Below.refl _ _) (HBf.out _ k11)).mono ?_
        rintro e w12 ⟨rfl, b12, k12⟩
        go_wp2_with fail
        refine (KL.out _ k12).mono ?_
        rintro e w13 ⟨rfl, k13⟩
        go_wp2_with fail
        go_ret
        exact ⟨rfl, by rw [HB.out]; exact k13⟩
      case neg =>
        have hm1 : ¬ (0 : Int) < (m3 : Int) := by omega
        go_wp2_with fail
        refine (KB.out _ _ _ rfl (Below.refl _ _) (HBf.out _ K7'.out)).mono ?_
        rintro e w11 ⟨rfl, b11, k11⟩
        go_wp2_with fail
        refine (KB.out _ _ _ rfl (Below.refl _ _) (HBf.out _ k11)).mono ?_
        rintro e w12 ⟨rfl, b12, k12⟩
        go_wp2_with fail
        refine (KL.out _ k12).mono ?_
        rintro e w13 ⟨rfl, k13⟩
        go_wp2_with fail
        go_ret
        exact ⟨rfl, by rw [HB.out]; exact k13⟩

end Go.Proofs.Ytfhpllcdlejfjaa
