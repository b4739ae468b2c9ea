/- Tokens: the reference's Solid. Conditions: at most 100000 tokens. -/
import Derived.Test.YtgfhhpodcnohpaaDoorLRf
import Derived.Test.YtgfhhpodcnohpaaDoorLRg
import Derived.Test.YtgfhhpodcnohpaaDoorLMe
namespace Go.Proofs.YtgfhhpodcnohpaaDoor
open Go.RowKit Go.Shelf
set_option linter.unusedVariables false

theorem tks_app (A B : List Tk) : tks (A ++ B) = tks A ++ tks B := by
  unfold tks
  rw [List.flatMap_append]
theorem sol_take (L : List Tk) (k : Nat) (h : k < L.length) : sol (L.take (k + 1)) = sol (L.take k) ++ (if (tg L k).1 = 0 then [] else [tg L k]) := by
  have e : tg L k = L[k] := by unfold tg; rw [List.getElem?_eq_getElem h]; rfl
  rw [List.take_succ_eq_append_getElem h, e]
  unfold sol
  rw [List.filter_append]
  congr 1
  by_cases hc : (L[k]).1 = 0
  · rw [if_pos hc, List.filter_cons_of_neg (by simp [hc]), List.filter_nil]
  · rw [if_neg hc, List.filter_cons_of_pos (by simp [hc]), List.filter_nil]
theorem sol_len (L : List Tk) : (sol L).length ≤ L.length := List.length_filter_le _ _
/-- A new block with one token, ready to be appended. -/
theorem tok_new (w : World) (x0 : Int) (x1 : ByteArray) (x2 : Int) : Below w.heap.size w (w.alloc (.cells #[.int .i64 x0, .string x1, .int .i64 x2] 31)) ∧ ∀ j u, ([.int .i64 x0, .string x1, .int .i64 x2] : List Value)[j]? = some u → (w.alloc (.cells #[.int .i64 x0, .string x1, .int .i64 x2] 31)).cell? ((⟨w.heap.size, 0, none⟩ : Addr).add j) = some u := by
  refine ⟨(Below.refl _ _).alloc (Nat.le_refl _) _, fun j u hj => ?_⟩
  have hrow : Blk (w.alloc (.cells #[.int .i64 x0, .string x1, .int .i64 x2] 31)) w.heap.size 31 #[.int .i64 x0, .string x1, .int .i64 x2] := Blk.new _ _ _
  rw [show (⟨w.heap.size, 0, none⟩ : Addr).add j = ⟨w.heap.size, j, none⟩ by by_cases h0 : j = 0 <;> simp [Addr.add, h0], hrow.cell]
  simpa using hj
theorem tok_one (x0 : Int) (x1 : ByteArray) (x2 : Int) : ∀ u ∈ ([.int .i64 x0, .string x1, .int .i64 x2] : List Value), u.oneCell' = true := by
  intro u hu
  simp at hu
  rcases hu with rfl | rfl | rfl <;> rfl

set_option maxRecDepth 100000 in
set_option maxHeartbeats 4000000 in
theorem rsolid_any (L : List Tk) (u : Value) (b1 : Nat) (w : World) (hl : L.length ≤ 100000) (h1 : w.ownsRow b1 31 3 u L.length (tks L)) :
    Calls Tryd.prog 32 #[u] w fun e w' => ∃ v, e = .returned v ∧ NewTs w (sol L) v w' := by
  obtain ⟨a, ca, rfl, hA⟩ := trow h1 rfl
  obtain ⟨n, hn⟩ : ∃ n, L.length = n := ⟨_, rfl⟩
  have HST : Hid (∀ k, k < n → sol (L.take (k + 1)) = sol (L.take k) ++ (if (tg L k).1 = 0 then [] else [tg L k])) := Lib.hid fun k hk => sol_take L k (by omega)
  have HSL : Hid (∀ k, (sol (L.take k)).length ≤ k) := Lib.hid fun k => Nat.le_trans (sol_len _) (by rw [List.length_take]; omega)
  have HAL : Hid (sol (L.take n) = sol L) := Lib.hid (by rw [← hn, List.take_length])
  rw [hn] at hA hl ⊢
  have HA := Lib.hid hA
  obtain ⟨i3, hi3, iy0, iy1, iy2⟩ := info_parts tinfo
  unfold NewTs
  clear h1 hA hn
  go_enter Tryd.func32, Tryd.ntmps32
  go_wp2
  go_loopw [3, 4] (fun v3 v4 wr => ∃ k : Nat, k ≤ n ∧ v4 = .int .i64 (k : Int) ∧ Hid (wr.ownsRow w.heap.size 31 3 v3 (sol (L.take k)).length (tks (sol (L.take k)))) ∧ Hid (Below w.heap.size w wr)) (fun _ v4 _ => n - (RowKit.intOf v4).toNat)
  case atStart => exact ⟨0, Nat.zero_le _, rfl, World.ownsRow_nil _ _ _ _, Lib.hid (Below.refl _ _)⟩
  case round =>
    obtain ⟨k, hk, rfl, HO, HB⟩ := hrel
    obtain ⟨av, cv, hv⟩ := own_slice HO.out
    subst hv
    by_cases hlt : k < n
    · obtain ⟨g, hg, hgl, hcell⟩ := HA.out (by omega)
      subst hg
      obtain ⟨c0, c1, c2⟩ := hcell wr (HB.out.block g hgl) k hlt
      have hst := HST.out k hlt
      have hsl := HSL.out k
      obtain ⟨x0, hx0⟩ : ∃ x, (tg L k).1 = x := ⟨_, rfl⟩
      obtain ⟨x1, hx1⟩ : ∃ x, tbs (tg L k).2.1 = x := ⟨_, rfl⟩
      obtain ⟨x2, hx2⟩ : ∃ x : Int, ((tg L k).2.2 : Int) = x := ⟨_, rfl⟩
      have htc : tks [tg L k] = [.int .i64 x0, .string x1, .int .i64 x2] := by rw [← hx0, ← hx1, ← hx2]; rfl
      rw [hx0] at c0 hst
      rw [hx1] at c1
      rw [hx2] at c2
      obtain ⟨m, hm⟩ : ∃ m, (sol (L.take k)).length = m := ⟨_, rfl⟩
      rw [hm] at HO hsl ⊢
      have HM := Lib.hid hm
      have HST1 := Lib.hid hst
      have HTC := Lib.hid htc
      have hkz : (k : Int) < (n : Int) := by omega
      clear hcell hx0 hx1 hx2 hm hst htc hgl
      by_cases h0 : x0 = 0
      · have H0 : (x0 != 0) = false := by simp [h0]
        have HST2 : Hid (sol (L.take (k + 1)) = sol (L.take k)) := Lib.hid (by rw [HST1.out, if_pos h0, List.append_nil])
        clear h0
        go_wp2
        go_roundw
        case rel => exact ⟨k + 1, by omega, by go_num, by rw [HST2.out, HM.out]; exact HO, HB⟩
        case measure => simp only [RowKit.intOf, Int.toNat_natCast]; omega
      · have H0 : (x0 != 0) = true := by simp [h0]
        have HST2 : Hid (sol (L.take (k + 1)) = sol (L.take k) ++ [tg L k]) := Lib.hid (by rw [HST1.out, if_neg h0])
        obtain ⟨b5, nw⟩ := tok_new wr x0 x1 x2
        obtain ⟨W5, hW5⟩ : ∃ W, wr.alloc (.cells #[.int .i64 x0, .string x1, .int .i64 x2] 31) = W := ⟨_, rfl⟩
        rw [hW5] at b5 nw
        have HW5 := Lib.hid hW5
        have HNW := Lib.hid nw
        have hsz5 := b5.size
        have hszw := HB.out.size
        have HB5 := Lib.hid (HB.out.trans (b5.mono hszw))
        have HO5 : Hid (W5.ownsRow w.heap.size 31 3 (.slice av m cv) m (tks (sol (L.take k)))) := own_same HO.out (fun g hg => b5.block g (HO.out.lt g hg).2)
        have hbase : w.heap.size ≤ W5.heap.size := by omega
        have HONE := Lib.hid (tok_one x0 x1 x2)
        clear b5 nw hW5 h0
        go_wp2_with (at_builtin; rw [show wr.alloc (.cells #[.int .i64 x0, .string x1, .int .i64 x2] 31) = W5 from HW5.out]; refine wpList_append_own_at _ rfl _ _ 26 rfl w.heap.size 31 i3 (.agg #[.int .i64 0, .string ⟨#[]⟩, .int .i64 0]) 3 32 Tryd.underlying26 hi3 iy0 iy1 iy2 rfl (by decide) (.slice av m cv) m (tks (sol (L.take k))) rfl HO5.out ⟨wr.heap.size, 0, none⟩ 1 1 [.int .i64 x0, .string x1, .int .i64 x2] rfl rfl HNW.out HONE.out (by unfold maxLen; omega) (by omega) hbase ?_; intro v6 w6 hown6 hgrow6 hnn6 hat6)
        have HO6 : Hid (w6.ownsRow w.heap.size 31 3 v6 (sol (L.take (k + 1))).length (tks (sol (L.take (k + 1))))) := by
          rw [HST2.out, tks_app, List.length_append, HM.out, HTC.out]; exact hown6
        have HB6 : Hid (Below w.heap.size w w6) := HB5.out.grown hgrow6 hbase (fun g hg => (HO5.out.lt g hg).1)
        clear hown6 hgrow6 hnn6 hat6
        go_wp2
        go_roundw
        case rel => exact ⟨k + 1, by omega, by go_num, HO6, HB6⟩
        case measure => simp only [RowKit.intOf, Int.toNat_natCast]; omega
    · obtain rfl : n = k := by omega
      have hltz : ¬ (n : Int) < (n : Int) := by omega
      rw [HAL.out] at HO ⊢
      go_wp2
      go_ret
      exact ⟨_, rfl, HO.out, HB.out⟩

end Go.Proofs.YtgfhhpodcnohpaaDoor
