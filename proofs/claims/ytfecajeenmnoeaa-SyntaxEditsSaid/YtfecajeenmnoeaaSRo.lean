/- The reference's Route: a path of at most three indices. It has no conditions. -/
import Derived.Test.YtfecajeenmnoeaaSGe
import Derived.Test.YtfecajeenmnoeaaSTt
namespace Go.Proofs.Ytfecajeenmnoeaa
open Go.RowKit Go.Shelf
set_option linter.unusedVariables false

/-- What the loop keeps: the node in block q, the row of the path. -/
def RoS (w : World) (q i : Nat) (v : Value) (W : World) : Prop :=
  ∃ (x : Nd) (a : Option Addr) (n cap : Nat) (zs : List Int), zs.length = i ∧ Blk W q 25 (ndc x a n cap) ∧ KV (fun b => b < q) W a n cap x.kids ∧ W.ownsRow (q + 1) 3 1 v i (zs.map (Value.int .i64)) ∧ Below q w W
theorem RoS.step {w W X w6 : World} {q i : Nat} {v v6 : Value} {x : Nd} {a : Option Addr} {n cap : Nat} {zs : List Int} {c : Int} (hzs : zs.length = i) (hb : Blk W q 25 (ndc x a n cap)) (hk : KV (fun b => b < q) W a n cap x.kids) (ho : W.ownsRow (q + 1) 3 1 v i (zs.map (Value.int .i64))) (hl : Below q w W)
    (hX : Below W.heap.size W X) (hown : w6.ownsRow (q + 1) 3 1 v6 (i + 1) (zs.map (Value.int .i64) ++ [.int .i64 c])) (hg : X.grownBy w6 v.ownBlock) : RoS w q (i + 1) v6 w6 := by
  have hz := hX.size
  have hq := hb.lt
  have hbl : ∀ b, b ≤ q → w6.heap[b]? = W.heap[b]? := fun b hb' => (hg.block b (by omega) (fun e => by have := (ho.lt b e.symm).1; omega)).trans (hX.block b (by omega))
  have hz6 := hg.size
  refine ⟨x, a, n, cap, zs ++ [c], by simp [hzs], hb.same (hbl q (Nat.le_refl _)), hk.keep (by omega) (fun b hb' _ => hbl b (by omega)) (fun _ h _ => h), by simpa using hown, ?_⟩
  exact (hl.trans (hX.mono (by omega))).grown hg (by omega) (fun k hk' => by have := (ho.lt k hk').1; omega)

set_option maxRecDepth 100000 in
set_option maxHeartbeats 4000000 in
theorem route_any (t : Nd) (a : Option Addr) (n cap : Nat) (l : Option Addr) (nl cl : Nat) (w : World) (G : Nat → Prop) (hK : KV G w a n cap t.kids) (h : SlJ w.heap.size w l nl) (hcap : nl ≤ cl) (hcap2 : cl ≤ 9223372036854775807) :
    Calls Try.prog 16 #[ndv t a n cap, .slice l nl cl] w fun e w' => ∃ zs : List Int, zs.length ≤ 3 ∧ NewRow .i64 3 w zs e w' := by
  obtain ⟨q, hq⟩ : ∃ q, w.heap.size = q := ⟨_, rfl⟩
  rw [hq] at h
  obtain ⟨W1, hW1⟩ : ∃ W, w.alloc (.cells (ndc t a n cap) 25) = W := ⟨_, rfl⟩
  have b1 : Below q w W1 := by rw [← hW1, ← hq]; exact (Below.refl _ _).alloc (Nat.le_refl _) _
  have k1 : Blk W1 q 25 (ndc t a n cap) := by rw [← hW1, ← hq]; exact Blk.new _ _ _
  have HR0 : Hid (RoS w q 0 (.slice none 0 0) W1) := ⟨t, a, n, cap, [], rfl, k1, hK.keep (by have := b1.size; omega) (fun b _ hlt => b1.block b (by omega)) (fun b _ hlt => by omega), World.ownsRow_nil _ _ _ _, b1⟩
  have HPK : Hid (∀ (W : World) (j : Int) (m : Nat), Below q w W → -9223372036854775808 ≤ j → j ≤ 9223372036854775807 → 1 ≤ m → m ≤ 1000000 → ∃ k : Nat, k < m ∧ Calls Try.prog 50 #[.slice l nl cl, .int .i64 j, .int .i64 (m : Int)] W fun e w' => e = .returned (.int .i64 (k : Int)) ∧ w' = W) := fun W j m hW h1 h2 h3 h4 => by
    obtain ⟨k, hk, hc⟩ := pickj_any q l nl cl j m W (h.below hW) h1 h2 hcap hcap2 h3 h4
    exact ⟨k, hk, hc W (fun _ _ => rfl)⟩
  obtain ⟨id, hid⟩ : ∃ x, t.id = x := ⟨_, rfl⟩
  obtain ⟨kd, hkd⟩ : ∃ x, t.kind = x := ⟨_, rfl⟩
  obtain ⟨tx, htx⟩ : ∃ x, t.text = x := ⟨_, rfl⟩
  unfold ndv ndc at *
  rw [hid, hkd, htx] at hW1 ⊢
  have HW1 := Lib.hid hW1; have HQ := Lib.hid hq
  obtain ⟨i3, hi3, iy0, iy1, iy2⟩ := info_parts info3
  clear hK h hW1 b1 k1 hq hid hkd htx
  go_enter Try.func16, Try.ntmps16
  go_wp2_with fail
  rw [HW1.out, HQ.out]
  go_loopw [5, 6] (fun v g wr => ∃ i : Nat, g = .int .i64 (i : Int) ∧ i ≤ 3 ∧ Hid (RoS w q i v wr)) (fun _ g _ => 3 - (intOf g).toNat)
  case atStart => exact ⟨0, rfl, by omega, HR0⟩
  case round =>
    obtain ⟨i, rfl, hi, HS⟩ := hrel
    obtain ⟨x, xa, xn, xc, zs, hzs, hb, hk, ho, hl⟩ := HS.out
    obtain ⟨p4, hp4, C4⟩ := HPK.out wr 0 4 hl (by omega) (by omega) (by omega) (by omega)
    obtain ⟨p9, hp9, C9⟩ := HPK.out wr ((i : Int) + 1) 100 hl (by omega) (by omega) (by omega) (by omega)
    have m1 : IntKind.i64.wrap ((i : Int) + 1) = (i : Int) + 1 := by simp [IntKind.wrap, IntKind.signed, IntKind.bits]; omega
    have HC4 := Lib.hid C4; have HC9 := Lib.hid C9
    have hlen := hk.len
    have e3 := hb.cell 3
    have q0 := hb.frozen 0
    have q1 := hb.frozen 1
    have q2 := hb.frozen 2
    have q3 := hb.frozen 3
    have e0 := hb.cell 0
    have e1 := hb.cell 1
    have e2 := hb.cell 2
    have hqw := hb.lt
    unfold ndc at e0 e1 e2 e3
    simp only [List.getElem?_toArray, List.getElem?_cons_zero, List.getElem?_cons_succ] at e0 e1 e2 e3
    obtain ⟨xid, hxid⟩ : ∃ z, x.id = z := ⟨_, rfl⟩
    obtain ⟨xkd, hxkd⟩ : ∃ z, x.kind = z := ⟨_, rfl⟩
    obtain ⟨xtx, hxtx⟩ : ∃ z, x.text = z := ⟨_, rfl⟩
    rw [hxid] at e0; rw [hxkd] at e1; rw [hxtx] at e2
    have HZS := Lib.hid hzs; have HB := Lib.hid hb; have HK := Lib.hid hk; have HO := Lib.hid ho; have HL := Lib.hid hl; have HLEN := Lib.hid hlen.1
    have hn1 := hlen.2.1
    have hn2 := hlen.2.2
    obtain ⟨av, cv, rfl⟩ := own_slice ho
    clear C4 C9 hzs hb hk ho hl hlen hxid hxkd hxtx
    by_cases hlt : i < p4
    · have hlt2 : (i : Int) < (p4 : Int) := by omega
      go_wp2_with fail
      refine HC4.out.mono ?_
      rintro e w' ⟨rfl, rfl⟩
      go_wp2_with fail
      refine HC9.out.mono ?_
      rintro e w' ⟨rfl, rfl⟩
      by_cases hc0 : p9 < 2
      · obtain ⟨c, hc⟩ : ∃ c : Int, (p9 : Int) - 2 = c := ⟨_, rfl⟩
        have m2 : IntKind.i64.wrap ((p9 : Int) - 2) = c := by simp [IntKind.wrap, IntKind.signed, IntKind.bits]; omega
        have hc1 : ¬ 0 ≤ c := by omega
        have hc2 : c < 0 := by omega
        have HOW := Lib.hid (own_same HO.out (C := w'.alloc (.cells #[.int .i64 c] 3)) (fun g hg => Below.heap_alloc _ _ g (HO.out.lt g hg).2))
        have HST : Hid (∀ v6 w6 (c : Int), w6.ownsRow (q + 1) 3 1 v6 (i + 1) (zs.map (Value.int .i64) ++ [.int .i64 c]) → (w'.alloc (.cells #[.int .i64 c] 3)).grownBy w6 (Value.slice av i cv).ownBlock → RoS w q (i + 1) v6 w6) := fun v6 w6 c h1 h2 => RoS.step HZS.out HB.out HK.out HO.out HL.out ((Below.refl _ w').alloc (Nat.le_refl _) _) h1 h2
        clear hc
        by_cases hn0 : 0 < xn
        · have hn3 : (0 : Int) < (xn : Int) := by omega
          go_wp2_with (at_builtin; refine wpList_append_own_at _ rfl _ _ 22 rfl (q + 1) 3 i3 (.int .i64 0) 1 8 Try.underlying22 hi3 iy0 iy1 iy2 rfl (by decide) _ i (zs.map (Value.int .i64)) rfl HOW.out ⟨w'.heap.size, 0, none⟩ 1 1 [.int .i64 c] rfl rfl (World.news_of_block (cs := #[.int .i64 c]) (t := 3) (fr := (0, 0)) (World.alloc_heap_new w' _)) (by simp [Value.oneCell']) (by unfold maxLen; omega) (by omega) (by simp; omega) ?_; intro v6 w6 hown6 hgrow6 hnn6 hat6)
          have HN6 := Lib.hid (HST.out v6 w6 c hown6 hgrow6)
          clear hown6 hgrow6 hnn6 hat6
          go_wp2
          go_roundw
          case rel => exact ⟨i + 1, by go_num, by omega, HN6⟩
          case measure => simp [intOf]; omega
        · have hn3 : ¬ (0 : Int) < (xn : Int) := by omega
          go_wp2_with (at_builtin; refine wpList_append_own_at _ rfl _ _ 22 rfl (q + 1) 3 i3 (.int .i64 0) 1 8 Try.underlying22 hi3 iy0 iy1 iy2 rfl (by decide) _ i (zs.map (Value.int .i64)) rfl HOW.out ⟨w'.heap.size, 0, none⟩ 1 1 [.int .i64 c] rfl rfl (World.news_of_block (cs := #[.int .i64 c]) (t := 3) (fr := (0, 0)) (World.alloc_heap_new w' _)) (by simp [Value.oneCell']) (by unfold maxLen; omega) (by omega) (by simp; omega) ?_; intro v6 w6 hown6 hgrow6 hnn6 hat6)
          have HN6 := Lib.hid (HST.out v6 w6 c hown6 hgrow6)
          clear hown6 hgrow6 hnn6 hat6
          go_wp2
          go_roundw
          case rel => exact ⟨i + 1, by go_num, by omega, HN6⟩
          case measure => simp [intOf]; omega
      · obtain ⟨c, hc⟩ : ∃ c : Nat, (p9 : Int) - 2 = (c : Int) := ⟨p9 - 2, by omega⟩
        have m2 : IntKind.i64.wrap ((p9 : Int) - 2) = (c : Int) := by simp [IntKind.wrap, IntKind.signed, IntKind.bits]; omega
        clear hc
        have hc1 : 0 ≤ (c : Int) := by omega
        by_cases hc9 : c < 90
        · have hc8 : (c : Int) < 90 := by omega
          by_cases hn0 : 0 < xn
          · have hn3 : (0 : Int) < (xn : Int) := by omega
            have hn4 : ¬ (xn : Int) = 0 := by omega
            obtain ⟨R, hR⟩ : ∃ R : Nat, (c : Int) % (xn : Int) = (R : Int) := ⟨((c : Int) % (xn : Int)).toNat, by have := Int.emod_nonneg (c : Int) hn4; omega⟩
            have hRx : R < xn := by have := Int.emod_lt_of_pos (c : Int) hn3; omega
            have hRx2 : (R : Int) < (xn : Int) := by omega
            have hRx3 : 0 ≤ (R : Int) := by omega
            obtain ⟨kb, ko, u, un, uc, hxa, hkb, _, hku, hcl⟩ := HK.out.kid (k := R) (by rw [HLEN.out]; exact hRx)
            subst hxa
            obtain ⟨y, hy⟩ : ∃ y, x.kids[R]'(by rw [HLEN.out]; exact hRx) = y := ⟨_, rfl⟩
            rw [hy] at hku hcl
            obtain ⟨d0, d1, d2, d3⟩ := hcl w' rfl
            obtain ⟨yi, hyi⟩ : ∃ z, y.id = z := ⟨_, rfl⟩
            obtain ⟨yk, hyk⟩ : ∃ z, y.kind = z := ⟨_, rfl⟩
            obtain ⟨yt, hyt⟩ : ∃ z, y.text = z := ⟨_, rfl⟩
            rw [hyi] at d0; rw [hyk] at d1; rw [hyt] at d2
            obtain ⟨hbb, hss⟩ := set4 w' q 0 (.int .i64 yi) (.int .i64 yk) (.string yt) (.slice u un uc)
            simp only [Nat.zero_add] at hbb hss
            obtain ⟨W9, hW9⟩ : ∃ W, (((w'.setCell ⟨q, 0, none⟩ (.int .i64 yi)).setCell ⟨q, 1, none⟩ (.int .i64 yk)).setCell ⟨q, 2, none⟩ (.string yt)).setCell ⟨q, 3, none⟩ (.slice u un uc) = W := ⟨_, rfl⟩
            have k9 : Blk W9 q 25 (ndc y u un uc) := by
              rw [← hW9]
              unfold ndc
              rw [hyi, hyk, hyt]
              simpa using (((HB.out.set 0 (.int .i64 yi)).set 1 (.int .i64 yk)).set 2 (.string yt)).set 3 (.slice u un uc)
            have hl9 : Below q w W9 := by
              rw [← hW9]
              exact (((HL.out.setCell (p := ⟨q, 0, none⟩) (Nat.le_refl _) _).setCell (p := ⟨q, 1, none⟩) (Nat.le_refl _) _).setCell (p := ⟨q, 2, none⟩) (Nat.le_refl _) _).setCell (p := ⟨q, 3, none⟩) (Nat.le_refl _) _
            rw [hW9] at hbb hss
            have hk9 : KV (fun b => b < q) W9 u un uc y.kids := hku.keep (by omega) (fun b hb' _ => hbb b (by omega)) (fun _ h _ => h)
            have ho9 : W9.ownsRow (q + 1) 3 1 (.slice av i cv) i (zs.map (Value.int .i64)) := own_same HO.out (fun g hg => hbb g (by have := (HO.out.lt g hg).1; omega))
            have hsz9 : q + 1 ≤ W9.heap.size := by omega
            have HOW := Lib.hid (own_same ho9 (C := W9.alloc (.cells #[.int .i64 (R : Int)] 3)) (fun g hg => Below.heap_alloc _ _ g (ho9.lt g hg).2))
            have HST : Hid (∀ v6 w6 (c : Int), w6.ownsRow (q + 1) 3 1 v6 (i + 1) (zs.map (Value.int .i64) ++ [.int .i64 c]) → (W9.alloc (.cells #[.int .i64 c] 3)).grownBy w6 (Value.slice av i cv).ownBlock → RoS w q (i + 1) v6 w6) := fun v6 w6 c h1 h2 => RoS.step HZS.out k9 hk9 ho9 hl9 ((Below.refl _ W9).alloc (Nat.le_refl _) _) h1 h2
            have HNW : Hid (∀ j u, [Value.int .i64 (R : Int)][j]? = some u → (W9.alloc (.cells #[.int .i64 (R : Int)] 3)).cell? ((⟨w'.heap.size, 0, none⟩ : Addr).add j) = some u) := by
              rw [← hss]
              exact World.news_of_block (cs := #[.int .i64 (R : Int)]) (t := 3) (fr := (0, 0)) (World.alloc_heap_new W9 _)
            clear hkb hku hcl hy hyi hyk hyt hbb hss k9 hl9 hk9 ho9 hsz9
            subst hW9
            go_wp2_with (at_builtin; refine wpList_append_own_at _ rfl _ _ 22 rfl (q + 1) 3 i3 (.int .i64 0) 1 8 Try.underlying22 hi3 iy0 iy1 iy2 rfl (by decide) _ i (zs.map (Value.int .i64)) rfl HOW.out ⟨w'.heap.size, 0, none⟩ 1 1 [.int .i64 (R : Int)] rfl rfl HNW.out (by simp [Value.oneCell']) (by unfold maxLen; omega) (by omega) (by simp; omega) ?_; intro v6 w6 hown6 hgrow6 hnn6 hat6)
            have HN6 := Lib.hid (HST.out v6 w6 (R : Int) hown6 hgrow6)
            clear hown6 hgrow6 hnn6 hat6
            go_wp2
            go_roundw
            case rel => exact ⟨i + 1, by go_num, by omega, HN6⟩
            case measure => simp [intOf]; omega
          · have hn3 : ¬ (0 : Int) < (xn : Int) := by omega
            have HOW := Lib.hid (own_same HO.out (C := w'.alloc (.cells #[.int .i64 (c : Int)] 3)) (fun g hg => Below.heap_alloc _ _ g (HO.out.lt g hg).2))
            have HST : Hid (∀ v6 w6 (c : Int), w6.ownsRow (q + 1) 3 1 v6 (i + 1) (zs.map (Value.int .i64) ++ [.int .i64 c]) → (w'.alloc (.cells #[.int .i64 c] 3)).grownBy w6 (Value.slice av i cv).ownBlock → RoS w q (i + 1) v6 w6) := fun v6 w6 c h1 h2 => RoS.step HZS.out HB.out HK.out HO.out HL.out ((Below.refl _ w').alloc (Nat.le_refl _) _) h1 h2
            go_wp2_with (at_builtin; refine wpList_append_own_at _ rfl _ _ 22 rfl (q + 1) 3 i3 (.int .i64 0) 1 8 Try.underlying22 hi3 iy0 iy1 iy2 rfl (by decide) _ i (zs.map (Value.int .i64)) rfl HOW.out ⟨w'.heap.size, 0, none⟩ 1 1 [.int .i64 (c : Int)] rfl rfl (World.news_of_block (cs := #[.int .i64 (c : Int)]) (t := 3) (fr := (0, 0)) (World.alloc_heap_new w' _)) (by simp [Value.oneCell']) (by unfold maxLen; omega) (by omega) (by simp; omega) ?_; intro v6 w6 hown6 hgrow6 hnn6 hat6)
            have HN6 := Lib.hid (HST.out v6 w6 (c : Int) hown6 hgrow6)
            clear hown6 hgrow6 hnn6 hat6
            go_wp2
            go_roundw
            case rel => exact ⟨i + 1, by go_num, by omega, HN6⟩
            case measure => simp [intOf]; omega
        · have hc8 : ¬ (c : Int) < 90 := by omega
          have HOW := Lib.hid (own_same HO.out (C := w'.alloc (.cells #[.int .i64 (c : Int)] 3)) (fun g hg => Below.heap_alloc _ _ g (HO.out.lt g hg).2))
          have HST : Hid (∀ v6 w6 (c : Int), w6.ownsRow (q + 1) 3 1 v6 (i + 1) (zs.map (Value.int .i64) ++ [.int .i64 c]) → (w'.alloc (.cells #[.int .i64 c] 3)).grownBy w6 (Value.slice av i cv).ownBlock → RoS w q (i + 1) v6 w6) := fun v6 w6 c h1 h2 => RoS.step HZS.out HB.out HK.out HO.out HL.out ((Below.refl _ w').alloc (Nat.le_refl _) _) h1 h2
          by_cases hn0 : 0 < xn
          · have hn3 : (0 : Int) < (xn : Int) := by omega
            go_wp2_with (at_builtin; refine wpList_append_own_at _ rfl _ _ 22 rfl (q + 1) 3 i3 (.int .i64 0) 1 8 Try.underlying22 hi3 iy0 iy1 iy2 rfl (by decide) _ i (zs.map (Value.int .i64)) rfl HOW.out ⟨w'.heap.size, 0, none⟩ 1 1 [.int .i64 (c : Int)] rfl rfl (World.news_of_block (cs := #[.int .i64 (c : Int)]) (t := 3) (fr := (0, 0)) (World.alloc_heap_new w' _)) (by simp [Value.oneCell']) (by unfold maxLen; omega) (by omega) (by simp; omega) ?_; intro v6 w6 hown6 hgrow6 hnn6 hat6)
            have HN6 := Lib.hid (HST.out v6 w6 (c : Int) hown6 hgrow6)
            clear hown6 hgrow6 hnn6 hat6
            go_wp2
            go_roundw
            case rel => exact ⟨i + 1, by go_num, by omega, HN6⟩
            case measure => simp [intOf]; omega
          · have hn3 : ¬ (0 : Int) < (xn : Int) := by omega
            go_wp2_with (at_builtin; refine wpList_append_own_at _ rfl _ _ 22 rfl (q + 1) 3 i3 (.int .i64 0) 1 8 Try.underlying22 hi3 iy0 iy1 iy2 rfl (by decide) _ i (zs.map (Value.int .i64)) rfl HOW.out ⟨w'.heap.size, 0, none⟩ 1 1 [.int .i64 (c : Int)] rfl rfl (World.news_of_block (cs := #[.int .i64 (c : Int)]) (t := 3) (fr := (0, 0)) (World.alloc_heap_new w' _)) (by simp [Value.oneCell']) (by unfold maxLen; omega) (by omega) (by simp; omega) ?_; intro v6 w6 hown6 hgrow6 hnn6 hat6)
            have HN6 := Lib.hid (HST.out v6 w6 (c : Int) hown6 hgrow6)
            clear hown6 hgrow6 hnn6 hat6
            go_wp2
            go_roundw
            case rel => exact ⟨i + 1, by go_num, by omega, HN6⟩
            case measure => simp [intOf]; omega
    · have hlt2 : ¬ (i : Int) < (p4 : Int) := by omega
      have HFIN : Hid (wr.ownsRow w.heap.size 3 1 (.slice av i cv) zs.length (zs.map (Value.int .i64)) ∧ Below w.heap.size w wr ∧ zs.length ≤ 3) := ⟨by rw [HZS.out]; exact own_base2 HO.out (by rw [HQ.out]; omega), by rw [HQ.out]; exact HL.out, by rw [HZS.out]; exact hi⟩
      go_wp2_with fail
      refine HC4.out.mono ?_
      rintro e w' ⟨rfl, rfl⟩
      go_wp2
      go_ret
      exact ⟨zs, HFIN.out.2.2, _, rfl, HFIN.out.1, HFIN.out.2.1⟩

end Go.Proofs.Ytfecajeenmnoeaa
