/- The contracts of the reference's Sum, Bytes and Pair: they return what P1.1 and P1.2 say. Conditions: the label and the lists have at most 1000 elements. -/
import Derived.Test.YtkdjjjecgfhgbaaWords2
namespace Go.Proofs.Ytkdjjjecgfhgbaa
open Go.RowKit Go.Shelf

theorem rmix_at (s v r : BitVec 64) (x y : Int) (hx : x = U s) (hy : y = U v) (hr : mixB s v = r) (w : World) :
    Calls Try.prog 27 #[.int .u64 x, .int .u64 y] w fun e w' => e = .returned (.int .u64 (U r)) ∧ w = w' := by
  subst hx hy hr; exact rmix_any s v w
theorem words_sli (X : List Int) (a : Option Addr) (cap : Nat) (zs : List Int) (w : World) (h : Sli .u8 w a cap zs) (hl : zs.length ≤ 1000) (hz : Byt zs) (hX : colU zs (nGroups zs.length) = X) :
    Calls Try.prog 23 #[.slice a zs.length cap] w (NewSli .u64 w X) := by
  subst hX; exact (words_ref a cap zs w h hl hz).mono fun _ _ => newSli_of_row
theorem colU_get (zs : List Int) (K k : Nat) (h : k < K) : (colU zs K)[k]?.getD 0 = U (word zs k) := by
  unfold colU; simp [h]
theorem sli_string (s : ByteArray) (G : Nat) (W : World) (b : Nat) (t : TypeId) (f : Nat × Nat) (hG : s.size ≤ G) (hG2 : G ≤ 9223372036854775807) (h : W.heap[b]? = some (.cells (bytesRow s G) t f)) :
    Sli .u8 W (some ⟨b, 0, none⟩) G (sb s) :=
  ⟨by rw [sb_len]; exact hG, hG2, (fun h => by cases h), .inr ⟨b, 0, rfl, (Array.getElem?_eq_some_iff.1 h).1, fun j hj => bytesRow_cell s G W t f b h j (by rwa [sb_len] at hj)⟩⟩

set_option maxRecDepth 100000 in
set_option maxHeartbeats 1000000 in
theorem rsum_any (s : ByteArray) (a : Option Addr) (cap : Nat) (ws : List Int) (w : World) (hs : s.size ≤ 1000) (hl : ws.length ≤ 1000) (hc : Sli .i64 w a cap ws) (r : Int) (hr : U (sumS (sb s) ws) = r) :
    Calls Try.prog 14 #[.string s, .slice a ws.length cap] w fun e w' => e = .returned (.int .u64 r) ∧ Below w.heap.size w w' := by
  have HC := Lib.hid hc
  have HR := Lib.hid hr
  obtain ⟨n, hn⟩ : ∃ n, ws.length = n := ⟨_, rfl⟩
  rw [hn] at hl ⊢
  have HN := Lib.hid hn
  clear hc hr hn
  have kc := fun (W : World) => run_bytes_of_string (P := Try.prog) W 9 30 5 s Try.underlying9 Try.underlying30 Try.underlying5
  go_enter Try.func14, Try.ntmps14
  go_wp2_with fail
  have hG1 := grownCap_ge w s.size 0 5
  have hG2 := grownCap_le_maxLen w s.size 0 5 (by unfold maxLen; omega)
  clear kc
  generalize grownCap w s.size 0 5 = G at hG1 hG2 ⊢
  unfold maxLen at hG2
  obtain ⟨W0, hW0⟩ : ∃ W0, (w.alloc (.cells (bytesRow s G) 5 ((bytesRow s G).size, (bytesRow s G).size + 1))).drew = W0 := ⟨_, rfl⟩
  have hB0 : Below w.heap.size w W0 := by rw [← hW0]; exact ((Below.refl _ _).alloc (Nat.le_refl _) _).drew
  have bD : W0.heap[w.heap.size]? = some (.cells (bytesRow s G) 5 ((bytesRow s G).size, (bytesRow s G).size + 1)) := by rw [← hW0]; exact World.alloc_heap_new w _
  have hsl := sb_len s
  obtain ⟨K, hK⟩ : ∃ K, nGroups s.size = K := ⟨_, rfl⟩
  obtain ⟨X, hX⟩ : ∃ X, colU (sb s) K = X := ⟨_, rfl⟩
  have hXl : X.length = K := by rw [← hX, colU_len]
  have hKb : K ≤ 200 := by rw [← hK]; unfold nGroups; omega
  have hw := words_sli X (some ⟨w.heap.size, 0, none⟩) G (sb s) W0 (sli_string s G W0 _ _ _ hG1 hG2 bD) (by omega) (sb_byt s) (by rw [hsl, hK, hX])
  rw [hsl] at hw
  rw [hW0]
  refine hw.mono ?_
  clear hW0 bD hw
  rintro e w1 ⟨a1, c1, rfl, s1, b1⟩
  rw [hXl]
  have S1 := Lib.hid s1.cells
  have HB : Hid (Below w.heap.size w w1) := hB0.trans (b1.mono hB0.size)
  have HX := Lib.hid hX
  have HXL := Lib.hid hXl
  have HK := Lib.hid hK
  have HSL := Lib.hid hsl
  clear s1 b1 hB0 hX hXl hK hsl
  obtain ⟨S0, hS0⟩ : ∃ S0, labS (sb s) K = S0 := ⟨_, rfl⟩
  obtain ⟨S1', hS1⟩ : ∃ S1', mixB S0 (BitVec.ofInt 64 (sb s).length) = S1' := ⟨_, rfl⟩
  obtain ⟨S2, hS2⟩ : ∃ S2, mixB S1' (BitVec.ofInt 64 n) = S2 := ⟨_, rfl⟩
  have hm1 := fun W => rmix_at S0 (BitVec.ofInt 64 (sb s).length) S1' (U S0) (s.size : Int) rfl (natU s.size (sb s).length (by omega) (by rw [HSL.out])) hS1 W
  have hm2 := fun W => rmix_at S1' (BitVec.ofInt 64 n) S2 (U S1') (n : Int) rfl (natU n n (by omega) rfl) hS2 W
  have hhead : headS (sb s) ws.length = S2 := by unfold headS; rw [← labS_all, HSL.out, HK.out, hS0, ← HSL.out, hS1, HN.out, hS2]
  have HH := Lib.hid hhead
  have HM1 := Lib.hid hm1
  have HM2 := Lib.hid hm2
  have HS0 := Lib.hid hS0
  clear hS0 hS1 hS2 hm1 hm2 hhead
  go_wp2_with fail
  go_loop [5, 7] (fun v i => ∃ k : Nat, k ≤ K ∧ i = .int .i64 k ∧ v = .int .u64 (U (labS (sb s) k))) (fun _ i => K - (intOf i).toNat)
  case atStart => exact ⟨0, Nat.zero_le _, rfl, rfl⟩
  case round =>
    obtain ⟨k, hk, rfl, rfl⟩ := hrel
    by_cases hlt : k < K
    · rcases S1.out with h | ⟨b, off, ha, _, hcb⟩
      · exact absurd (congrArg List.length h) (by rw [HXL.out]; simp; omega)
      have hck := hcb k (by rw [HXL.out]; exact hlt)
      rw [← HX.out, colU_get _ _ _ hlt] at hck
      obtain ⟨S4, hS4⟩ : ∃ S4, labS (sb s) (k + 1) = S4 := ⟨_, rfl⟩
      have hm := fun W => rmix_at (labS (sb s) k) (word (sb s) k) S4 _ _ rfl rfl (by rw [← labS_succ, hS4]) W
      have HM := Lib.hid hm
      have HS4 := Lib.hid hS4
      clear hcb hm hS4
      generalize labS (sb s) k = S5 at HM ⊢
      generalize word (sb s) k = x at HM hck ⊢
      subst ha
      go_wp2_with fail
      refine (HM.out _).mono ?_
      rintro e w' ⟨rfl, rfl⟩
      go_wp2_with fail
      go_round
      case rel => exact ⟨k + 1, by omega, by go_num, by rw [HS4.out]⟩
      case measure => simp [intOf]; omega
    · have hkK : k = K := by omega
      subst hkK
      rw [HS0.out]
      go_wp2_with fail
      refine (HM1.out _).mono ?_
      rintro e w' ⟨rfl, rfl⟩
      go_wp2_with fail
      refine (HM2.out _).mono ?_
      rintro e w' ⟨rfl, rfl⟩
      go_wp2_with fail
      go_loop [5, 8] (fun v i => ∃ j : Nat, j ≤ n ∧ i = .int .i64 j ∧ v = .int .u64 (U (accS S2 ws j))) (fun _ i => n - (intOf i).toNat)
      case atStart => exact ⟨0, Nat.zero_le _, rfl, rfl⟩
      case round =>
        obtain ⟨j, hj, rfl, rfl⟩ := hrel
        by_cases hlt2 : j < n
        · rcases (HC.out.below HB.out).cells with h | ⟨b, off, ha, _, hcb⟩
          · exact absurd (congrArg List.length h) (by rw [HN.out]; simp; omega)
          have hck := hcb j (by rw [HN.out]; exact hlt2)
          obtain ⟨S4, hS4⟩ : ∃ S4, accS S2 ws (j + 1) = S4 := ⟨_, rfl⟩
          have hm := fun W => rmix_at (accS S2 ws j) (BitVec.ofInt 64 (ws[j]?.getD 0)) S4 _ _ rfl (wrap_ofInt _) (by rw [← accS_succ S2 ws j (by rw [HN.out]; exact hlt2), hS4]) W
          have HM := Lib.hid hm
          have HS4 := Lib.hid hS4
          clear hcb hm hS4
          generalize accS S2 ws j = S5 at HM ⊢
          generalize ws[j]?.getD 0 = x at HM hck ⊢
          subst ha
          go_wp2_with fail
          refine (HM.out _).mono ?_
          rintro e w' ⟨rfl, rfl⟩
          go_wp2_with fail
          go_round
          case rel => exact ⟨j + 1, by omega, by go_num, by rw [HS4.out]⟩
          case measure => simp [intOf]; omega
        · have hjn : j = n := by omega
          subst hjn
          have hm := fun W => rmix_at (accS S2 ws j) 0#64 (sumS (sb s) ws) _ 0 rfl rfl (by rw [sumS_head, HH.out, ← accS_all, HN.out]) W
          rw [HR.out] at hm
          have HM := Lib.hid hm
          clear hm
          generalize accS S2 ws j = S5 at HM ⊢
          go_wp2_with fail
          refine (HM.out _).mono ?_
          rintro e w' ⟨rfl, rfl⟩
          go_wp2
          go_ret
          exact ⟨rfl, HB.out⟩

theorem sli_two (w : World) (x y : Int) : Sli .i64 (w.alloc (.cells #[.int .i64 x, .int .i64 y] 3)) (some ⟨w.heap.size, 0, none⟩) 2 [x, y] :=
  ⟨by simp, by decide, (fun h => by cases h), cells_two w x y⟩
theorem rsum_two (s : ByteArray) (x y : Int) (w : World) (hs : s.size ≤ 1000) :
    Calls Try.prog 14 #[.string s, .slice (some ⟨w.heap.size, 0, none⟩) 2 2] (w.alloc (.cells #[.int .i64 x, .int .i64 y] 3)) fun e w' =>
      e = .returned (.int .u64 (U (sumS (sb s) [x, y]))) ∧ Below w.heap.size w w' :=
  (rsum_any s (some ⟨w.heap.size, 0, none⟩) 2 [x, y] _ hs (by simp) (sli_two w x y) _ rfl).mono fun _ _ ⟨he, hb⟩ => ⟨he, ((Below.refl _ w).alloc (Nat.le_refl _) _).trans (hb.mono (by simp))⟩
theorem rpair_any (a b : BitVec 64) (w : World) :
    Calls Try.prog 20 #[.int .u64 (U a), .int .u64 (U b)] w fun e w' => e = .returned (.int .u64 (U (pairS a b))) ∧ Below w.heap.size w w' := by
  go_enter Try.func20, Try.ntmps20
  go_wp2_with (go_at_call 14; refine (rsum_two pairB _ _ w (by decide)).mono ?_; rintro e w' ⟨rfl, hb⟩)
  go_ret
  exact ⟨rfl, hb⟩

set_option maxRecDepth 100000 in
set_option maxHeartbeats 1000000 in
theorem rbytes_any (s : ByteArray) (a : Option Addr) (cap : Nat) (zs : List Int) (w : World) (hs : s.size ≤ 1000) (hl : zs.length ≤ 1000) (hc : Sli .u8 w a cap zs) (hz : Byt zs) (r : Int) (hr : U (bytesS (sb s) zs) = r) :
    Calls Try.prog 18 #[.string s, .slice a zs.length cap] w fun e w' => e = .returned (.int .u64 r) ∧ Below w.heap.size w w' := by
  obtain ⟨i0, hi, hz0, hz1, hz2⟩ := info_parts info3
  obtain ⟨n, hn⟩ : ∃ n, zs.length = n := ⟨_, rfl⟩
  obtain ⟨K, hK⟩ : ∃ K, nGroups n = K := ⟨_, rfl⟩
  obtain ⟨X, hX⟩ : ∃ X, colU zs K = X := ⟨_, rfl⟩
  have hXl : X.length = K := by rw [← hX, colU_len]
  have hKb : K ≤ 200 := by rw [← hK]; unfold nGroups; omega
  have hw := words_sli X a cap zs w hc hl hz (by rw [hn, hK, hX])
  rw [hn] at hl hw ⊢
  have HW := Lib.hid hw
  have HN := Lib.hid hn
  have HK := Lib.hid hK
  have HX := Lib.hid hX
  have HXL := Lib.hid hXl
  have HR := Lib.hid hr
  clear hw hn hK hX hXl hr hc hz
  go_enter Try.func18, Try.ntmps18
  go_wp2_with fail
  refine HW.out.mono ?_
  rintro e w1 ⟨a1, c1, rfl, s1, b1⟩
  rw [HXL.out]
  have S1 := Lib.hid s1
  have HB := Lib.hid b1
  have hsz1 := b1.size
  clear s1 b1
  go_wp2_with fail
  go_loopw [6, 7] (fun v i wr => ∃ k : Nat, k ≤ K ∧ i = .int .i64 k ∧ wr.ownsRow w1.heap.size 3 1 v k ((colS zs k).map (Value.int .i64)) ∧ Below w1.heap.size w1 wr) (fun _ i _ => K - (intOf i).toNat)
  case atStart => exact ⟨0, Nat.zero_le _, rfl, World.ownsRow_nil _ _ _ _, Below.refl _ _⟩
  case round =>
    obtain ⟨k, hk, rfl, hown, hB⟩ := hrel
    by_cases hlt : k < K
    · rcases (S1.out.below hB).cells with h | ⟨b, off, ha, _, hcb⟩
      · exact absurd (congrArg List.length h) (by rw [HXL.out]; simp; omega)
      have hck := hcb k (by rw [HXL.out]; exact hlt)
      rw [← HX.out, colU_get _ _ _ hlt] at hck
      have hsz := hB.size
      clear hcb
      subst ha
      go_wp2_with (at_builtin; refine wpList_append_own _ rfl _ _ 22 rfl w1.heap.size 3 i0 (.int .i64 0) 1 8 Try.underlying22 hi hz0 hz1 hz2 rfl (by decide) _ _ _ rfl (hown.alloc _) ⟨wr.heap.size, 0, none⟩ 1 1 [.int .i64 (wrap64 (U (word zs k)))] rfl rfl (cell_one_new _ _ _) (fun x hx => by simp at hx; subst hx; rfl) (by unfold maxLen; omega) (by omega) (by rw [World.size_alloc]; omega) ?_; intro v' w2 hown' hgrow _)
      go_roundw
      case rel => exact ⟨k + 1, by omega, by go_num, by rw [colS_succ, List.map_append]; exact hown', (hB.alloc hB.size _).grown hgrow (by rw [World.size_alloc]; omega) (fun j e => (hown.lt j e).1)⟩
      case measure => simp [intOf]; omega
    · have hkK : k = K := by omega
      subst hkK
      have hsz := hB.size
      have HO := Lib.hid hown
      clear hown
      go_wp2_with (at_builtin; refine wpList_append_own _ rfl _ _ 22 rfl w1.heap.size 3 i0 (.int .i64 0) 1 8 Try.underlying22 hi hz0 hz1 hz2 rfl (by decide) _ _ _ rfl (HO.out.alloc _) ⟨wr.heap.size, 0, none⟩ 1 1 [.int .i64 (n : Int)] rfl rfl (cell_one_new _ _ _) (fun x hx => by simp at hx; subst hx; rfl) (by unfold maxLen; omega) (by omega) (by rw [World.size_alloc]; omega) ?_; intro v' w2 hown' hgrow _)
      have hB2 : Below w.heap.size w w2 := HB.out.trans (((hB.alloc hB.size _).grown hgrow (by rw [World.size_alloc]; omega) (fun j e => (HO.out.lt j e).1)).mono hsz1)
      have hsum : Calls Try.prog 14 #[.string s, v'] w2 fun e w' => e = .returned (.int .u64 r) ∧ Below w2.heap.size w2 w' := by
        have h1 : w2.ownsRow w1.heap.size 3 1 v' (k + 1) ((colS zs k ++ [(n : Int)]).map (Value.int .i64)) := by rw [List.map_append]; exact hown'
        obtain ⟨_, a', cap', hv, hsli⟩ := sli_of_own h1
        rw [hv]
        exact rsum_any s a' cap' _ w2 hs (by simp [colS_len]; omega) hsli r (by rw [← HR.out, bytesS_col, HN.out, HK.out])
      have HB2 := Lib.hid hB2
      have HS := Lib.hid hsum
      clear hB2 hsum hown' hgrow
      refine HS.out.mono ?_
      rintro e w3 ⟨rfl, b3⟩
      have HB3 := Lib.hid (HB2.out.trans (b3.mono HB2.out.size))
      clear b3
      go_wp2
      go_ret
      exact ⟨rfl, HB3.out⟩
end Go.Proofs.Ytkdjjjecgfhgbaa
