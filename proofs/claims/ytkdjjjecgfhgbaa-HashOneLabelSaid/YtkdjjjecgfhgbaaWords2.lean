/- The contract of the reference's Words: the little-endian words of a byte slice. Conditions: the slice has at most 1000 bytes. -/
import Derived.Test.YtkdjjjecgfhgbaaRefs
namespace Go.Proofs.Ytkdjjjecgfhgbaa
open Go.RowKit Go.Shelf

/-- The words of the first k groups, as numbers. -/
def colU (zs : List Int) (k : Nat) : List Int := (List.range k).map (fun j => U (word zs j))
theorem colU_len (zs : List Int) (k : Nat) : (colU zs k).length = k := by simp [colU]
theorem colU_succ (zs : List Int) (k : Nat) : colU zs (k + 1) = colU zs k ++ [U (word zs k)] := by simp [colU, List.range_succ]
theorem info25 : (Try.prog.info? 25).map (fun i => (i.zero, i.size, i.bytes)) = some (some (.int .u64 0), 1, 8) := by kernel_rfl

/-- One step of the inner loop. -/
theorem le_down (g : List Int) (r : Nat) (hr : r < g.length) (h8 : g.length ≤ 8) (hz : Byt g) :
    IntKind.u64.wrap (IntKind.u64.wrap (256 * (leN (g.drop (r + 1)) : Int)) + IntKind.u64.wrap (g[r]?.getD 0)) = (leN (g.drop r) : Int) := by
  have e : g.drop r = g[r] :: g.drop (r + 1) := List.drop_eq_getElem_cons hr
  have hb := hz g[r] (List.getElem_mem hr)
  have hs : leN (g.drop r) < 18446744073709551616 := leN_small (hz.drop r) (by rw [List.length_drop]; omega)
  have e2 : g[r]?.getD 0 = g[r] := by simp [hr]
  rw [e2]
  rw [e] at hs ⊢
  simp only [leN] at hs ⊢
  generalize leN (g.drop (r + 1)) = t at *
  generalize g[r] = c at *
  rw [wrap_u64, wrap_u64, wrap_u64]
  omega

theorem byt_getD {l : List Int} (h : Byt l) (q : Nat) : 0 ≤ l[q]?.getD 0 ∧ l[q]?.getD 0 ≤ 255 := by
  cases e : l[q]? with
  | none => simp
  | some x => simpa using h x (List.mem_of_getElem? e)
theorem wrap_small (x : Int) (h1 : 0 ≤ x) (h2 : x ≤ 255) : IntKind.u64.wrap x = x := by rw [wrap_u64]; omega

set_option maxRecDepth 100000 in
set_option maxHeartbeats 1000000 in
theorem words_ref (a : Option Addr) (cap : Nat) (zs : List Int) (w : World) (h : Sli .u8 w a cap zs) (hl : zs.length ≤ 1000) (hz : Byt zs) :
    Calls Try.prog 23 #[.slice a zs.length cap] w (NewRow .u64 25 w (colU zs (nGroups zs.length))) := by
  obtain ⟨i0, hi, hz0, hz1, hz2⟩ := info_parts info25
  obtain ⟨n, hn⟩ : ∃ n, zs.length = n := ⟨_, rfl⟩
  have HC := Lib.hid h.cells
  have HZ := Lib.hid hz
  rw [hn] at hl ⊢
  have HN := Lib.hid hn
  clear hn h hz
  go_enter Try.func23, Try.ntmps23
  go_wp2
  go_loopw [3, 4] (fun v i wr => ∃ k : Nat, k ≤ nGroups n ∧ i = .int .i64 ((8 * k : Nat) : Int) ∧ wr.ownsRow w.heap.size 25 1 v k ((colU zs k).map (Value.int .u64)) ∧ Below w.heap.size w wr)
    (fun _ i _ => 8 * nGroups n - (intOf i).toNat)
  case atStart => exact ⟨0, Nat.zero_le _, rfl, World.ownsRow_nil _ _ _ _, Below.refl _ _⟩
  case round =>
    obtain ⟨k, hk, rfl, hown, hB⟩ := hrel
    have hg : nGroups n * 8 ≤ n + 7 := by unfold nGroups; omega
    by_cases hlt : 8 * k < n
    · have hkN : k < nGroups n := by unfold nGroups; omega
      rcases HC.out.below hB with h0 | ⟨b, off, ha, _, hcb⟩
      · exact absurd (congrArg List.length h0) (by rw [HN.out]; simp; omega)
      have HCB := Lib.hid hcb
      have HO := Lib.hid hown
      obtain ⟨m, hm⟩ : ∃ m, min 8 (n - 8 * k) = m := ⟨_, rfl⟩
      have hm1 : 1 ≤ m := by omega
      have hm8 : m ≤ 8 := by omega
      have hmn : 8 * k + m ≤ n := by omega
      have HM := Lib.hid hm
      clear hcb hown hm
      subst ha
      obtain ⟨wo, hwo⟩ : ∃ wo : World, wo = wr := ⟨_, rfl⟩
      subst hwo
      go_wp2
      all_goals
        go_loop [5, 6] (fun v i => ∃ (r : Nat) (j : Int), r ≤ m ∧ i = .int .i64 j ∧ j + 1 = 8 * k + r ∧ v = .int .u64 (leN ((grp zs k).drop r) : Int)) (fun _ i => (intOf i + 1 - 8 * k).toNat)
        case atStart => exact ⟨m, _, Nat.le_refl _, rfl, by have := HM.out; omega, by rw [List.drop_of_length_le (by rw [grp_len, HN.out, HM.out]; exact Nat.le_refl _)]; rfl⟩
        case round =>
          obtain ⟨r, j, hr, rfl, hj, rfl⟩ := hrel
          have hgl : (grp zs k).length = m := by rw [grp_len, HN.out, HM.out]
          by_cases hr0 : r = 0
          · subst hr0
            rw [List.drop_zero]
            have hw : (leN (grp zs k) : Int) = U (word zs k) := (U_word HZ.out k).symm
            rw [hw]
            have hjl : ¬ 8 * (k : Int) ≤ j := by omega
            have HJ := Lib.hid hj
            have HGL := Lib.hid hgl
            clear hj hw hgl
            go_wp2_with (at_builtin; refine wpList_append_own _ rfl _ _ 40 rfl w.heap.size 25 i0 (.int .u64 0) 1 8 Try.underlying40 hi hz0 hz1 hz2 rfl (by decide) _ _ _ rfl (HO.out.alloc _) ⟨wo.heap.size, 0, none⟩ 1 1 [.int .u64 (U (word zs k))] rfl rfl (cell_one_new _ _ _) (fun x hx => by simp at hx; subst hx; rfl) (by unfold maxLen; omega) (by omega) (by rw [World.size_alloc]; have := hB.size; omega) ?_; intro v' w1 hown' hgrow _)
            refine ⟨⟨k + 1, by omega, by go_num, by rw [colU_succ, List.map_append]; exact hown', (hB.alloc hB.size _).grown hgrow (by rw [World.size_alloc]; have := hB.size; omega) (fun j e => (HO.out.lt j e).1)⟩, by simp [intOf]; omega⟩
          · obtain ⟨q, rfl⟩ : ∃ q, r = q + 1 := ⟨r - 1, by omega⟩
            have hjq : j.toNat = 8 * k + q := by omega
            have hck := HCB.out (8 * k + q) (by rw [HN.out]; omega)
            rw [← hjq] at hck
            have hd := le_down (grp zs k) q (by omega) (by omega) ((HZ.out.drop _).take _)
            have hx : zs[8 * k + q]?.getD 0 = (grp zs k)[q]?.getD 0 := by simp [grp, List.getElem?_drop, show q < 8 by omega]
            rw [hjq, hx] at hck
            rw [← hjq] at hck
            have hb := byt_getD (l := grp zs k) ((HZ.out.drop _).take _) q
            generalize (grp zs k)[q]?.getD 0 = x at hck hd hb
            obtain ⟨hb1, hb2⟩ := hb
            rw [wrap_small x hb1 hb2] at hd
            have hge : 8 * (k : Int) ≤ j := by omega
            have hj0 : 0 ≤ j := by omega
            have hjn : j < n := by omega
            have HD := Lib.hid hd
            have HJ := Lib.hid hj
            have HJQ := Lib.hid hjq
            clear hd hj hjq hx hgl
            generalize leN ((grp zs k).drop (q + 1)) = t at HD ⊢
            go_wp2
            go_round
            case rel => exact ⟨q, j - 1, by omega, by go_num, by have := HJ.out; omega, by rw [← HD.out]⟩
            case measure => simp [intOf]; have := HJ.out; omega
    · have hkn : k = nGroups n := by unfold nGroups at *; omega
      subst hkn
      go_wp2
      go_ret
      exact ⟨_, rfl, by rw [colU_len]; exact hown, hB⟩
end Go.Proofs.Ytkdjjjecgfhgbaa
