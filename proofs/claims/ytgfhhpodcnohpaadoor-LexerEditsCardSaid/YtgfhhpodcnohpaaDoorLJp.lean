/- Tokens: the program's concat and Join. Conditions: at most 1000 texts of at most 40000 bytes; the tables lie in memory. -/
import Derived.Test.YtgfhhpodcnohpaaDoorLJo
import Derived.Test.YtgfhhpodcnohpaaDoorLTn
namespace Go.Proofs.YtgfhhpodcnohpaaDoor
open Go.RowKit Go.Shelf
set_option linter.unusedVariables false

theorem info5m : (Tryd.prog.info? 5).map (·.size) = some 1 := by kernel_rfl
theorem info5f : (Tryd.prog.info? 5).map (fun i => (i.zero, i.size, i.bytes)) = some (some (.int .u8 0), 1, 1) := by kernel_rfl
theorem info9f : (Tryd.prog.info? 9).map (fun i => (i.zero, i.size, i.bytes)) = some (some (.string ⟨#[]⟩), 1, 16) := by kernel_rfl
/-- The row of bytes while texts are copied into it. -/
def Fil (q T : Nat) (Z : List Int) (w : World) : Prop := ∃ cur : List Value, w.heap[q]? = some (.cells cur.toArray 5 (0, 0)) ∧ cur.length = T ∧ cur.take Z.length = Z.map (Value.int .u8)
theorem fil_step {q T : Nat} {Z X : List Int} {cur : List Value} {w : World} (h : w.heap[q]? = some (.cells (splice cur Z.length (X.map (Value.int .u8))).toArray 5 (0, 0))) (hl : cur.length = T) (ht : cur.take Z.length = Z.map (Value.int .u8)) (hx : Z.length + X.length ≤ T) : Fil q T (Z ++ X) w := by
  refine ⟨_, h, ?_, ?_⟩
  · rw [length_splice _ _ _ (by rw [List.length_map]; omega), hl]
  · unfold splice
    rw [ht, List.length_append, List.map_append, ← List.append_assoc]
    rw [List.take_append_of_le_length (by simp), List.take_of_length_le (by simp)]
theorem fil_sli {q T : Nat} {Z : List Int} {w : World} (h : Fil q T Z w) (hz : Z.length = T) (hT : T ≤ 9223372036854775807) : Sli .u8 w (some ⟨q, 0, none⟩) T Z := by
  obtain ⟨cur, hg, hl, ht⟩ := h
  rw [List.take_of_length_le (by omega)] at ht
  refine ⟨by omega, hT, (fun h => by cases h), .inr ⟨q, 0, rfl, (Array.getElem?_eq_some_iff.1 hg).1, fun j hj => ?_⟩⟩
  rw [Nat.zero_add]
  unfold World.cell?
  rw [hg, ht]
  simp [hj]

set_option maxRecDepth 100000 in
set_option maxHeartbeats 4000000 in
theorem concat_any (B : List ByteArray) (a : Option Addr) (cap n : Nat) (hn : B.length = n) (hz : n ≤ 1000000) (hf : (flat B).length ≤ 100000000) (w : World) (hS : StrIn w a B) :
    Calls Tryd.prog 55 #[.slice a n cap] w fun e w' => e = .returned (.string (bs (flat B))) ∧ Below w.heap.size w w' := by
  obtain ⟨T, hT⟩ : ∃ T, (flat B).length = T := ⟨_, rfl⟩
  rw [hT] at hf
  obtain ⟨R, hR⟩ : ∃ R, bs (flat B) = R := ⟨_, rfl⟩
  rw [hR]
  have HR := Lib.hid hR
  have HS := Lib.hid hS
  have HN := Lib.hid hn
  have HTT := Lib.hid hT
  obtain ⟨i5, hi5, iy0, iy1, iy2⟩ := info_parts info5f
  have HLE : Hid (∀ k, (flat (B.take k)).length ≤ T) := Lib.hid fun k => by rw [← hT]; exact flat_take_le B k
  have HST : Hid (∀ k, k < n → flat (B.take (k + 1)) = flat (B.take k) ++ sb (B.getD k ⟨#[]⟩)) := Lib.hid fun k hk => flat_take B k (by omega)
  have HAL : Hid (flat (B.take n) = flat B) := Lib.hid (by rw [← hn, List.take_length])
  clear hS hn hT hR
  go_enter Tryd.func55, Tryd.ntmps55
  go_wp2
  go_loop [3, 12] (fun v3 v12 => ∃ k, k ≤ n ∧ v3 = .int .i64 ((flat (B.take k)).length : Int) ∧ v12 = .int .i64 (k : Int)) (fun _ v12 => n - (RowKit.intOf v12).toNat)
  case atStart => exact ⟨0, Nat.zero_le _, rfl, rfl⟩
  case round =>
    obtain ⟨k, hk, rfl, rfl⟩ := hrel
    by_cases hlt : k < n
    · have hltz : (k : Int) < (n : Int) := by omega
      obtain ⟨p, hp, hc⟩ : ∃ p, a = some p ∧ ∀ i, i < B.length → w.cell? (p.add i) = some (.string (B.getD i ⟨#[]⟩)) := by
        rcases HS.out with h | h
        · have := HN.out; rw [h] at this; simp at this; omega
        · exact h
      subst hp
      have hck := hc k (by have := HN.out; omega)
      have hst := HST.out k hlt
      have hle1 := HLE.out (k + 1)
      have hle0 := HLE.out k
      rw [hst, List.length_append, sb_len] at hle1
      obtain ⟨x, hx⟩ : ∃ x, B.getD k ⟨#[]⟩ = x := ⟨_, rfl⟩
      rw [hx] at hck hst hle1
      obtain ⟨m, hm⟩ : ∃ m, (flat (B.take k)).length = m := ⟨_, rfl⟩
      rw [hm] at hle1 hle0 ⊢
      have hm1 : (flat (B.take (k + 1))).length = m + x.size := by rw [hst, List.length_append, sb_len, hm]
      have HM1 := Lib.hid hm1
      clear hc hst hx hm hm1
      go_wp2
      refine ⟨⟨k + 1, by omega, by rw [HM1.out]; go_num, by go_num⟩, ?_⟩
      simp only [RowKit.intOf, Int.toNat_natCast]
      omega
    · obtain rfl : n = k := by omega
      have hltz : ¬ (n : Int) < (n : Int) := by omega
      rw [HAL.out, HTT.out]
      have hTz : (T : Int) ≤ 100000000 := by omega
      go_wp2_with (at_make; refine wpList_make_full _ rfl _ _ 92 rfl w.heap.size 5 i5 (.int .u8 0) 1 Tryd.underlying92 hi5 iy0 iy1 .i64 .i64 _ _ T rfl rfl rfl rfl (by rw [iy2]; omega) (by unfold maxLen; omega) (Nat.le_refl _) ?_; intro w1 hown1 hgrow1)
      have H1 : Hid (Fil w.heap.size T [] w1 ∧ Below w.heap.size w w1) := by
        refine ⟨?_, (Below.refl _ _).grown hgrow1 (Nat.le_refl _) (fun k e => by cases e)⟩
        rcases hown1.2 with ⟨h0, _⟩ | ⟨g, cp, cur, hv, _, hg, _, _, hsz, _⟩
        · cases h0
        · simp only [Value.slice.injEq, Option.some.injEq, Addr.mk.injEq, and_true, true_and] at hv
          obtain ⟨rfl, rfl⟩ := hv
          exact ⟨cur.toList, by simpa using hg, by simpa using hsz, by simp⟩
      obtain ⟨q, hq⟩ : ∃ q, w.heap.size = q := ⟨_, rfl⟩
      rw [hq] at H1 ⊢
      have HQ := Lib.hid hq
      clear hown1 hgrow1 hq
      go_wp2
      go_loopw [7, 25] (fun v7 v25 wr => ∃ k, k ≤ n ∧ v7 = .int .i64 ((flat (B.take k)).length : Int) ∧ v25 = .int .i64 (k : Int) ∧ Hid (Fil q T (flat (B.take k)) wr) ∧ Hid (Below q w wr)) (fun _ v25 _ => n - (RowKit.intOf v25).toNat)
      case atStart => exact ⟨0, Nat.zero_le _, rfl, rfl, H1.out.1, H1.out.2⟩
      case round =>
        obtain ⟨k, hk2, rfl, rfl, HF, HB⟩ := hrel
        by_cases hlt2 : k < n
        · have hltz2 : (k : Int) < (n : Int) := by omega
          obtain ⟨p, hp, hc⟩ : ∃ p, a = some p ∧ ∀ i, i < B.length → wr.cell? (p.add i) = some (.string (B.getD i ⟨#[]⟩)) := by
            rcases HS.out.below (by rw [HQ.out]; exact HB.out) with h | h
            · have := HN.out; rw [h] at this; simp at this; omega
            · exact h
          subst hp
          have hck := hc k (by have := HN.out; omega)
          have hst := HST.out k hlt2
          have hle1 := HLE.out (k + 1)
          rw [hst, List.length_append, sb_len] at hle1
          obtain ⟨cur, hrow, hcl, htk⟩ := HF.out
          obtain ⟨x, hx⟩ : ∃ x, B.getD k ⟨#[]⟩ = x := ⟨_, rfl⟩
          rw [hx] at hck hst hle1
          obtain ⟨Z, hZ⟩ : ∃ Z, flat (B.take k) = Z := ⟨_, rfl⟩
          rw [hZ] at hst hle1 htk
          rw [hZ]
          have HST1 := Lib.hid hst
          have HTK := Lib.hid htk
          have HROW := Lib.hid hrow
          obtain ⟨m, hm⟩ : ∃ m, Z.length = m := ⟨_, rfl⟩
          have HM := Lib.hid hm
          rw [hm] at hle1 ⊢
          clear hc hst hx hZ htk hrow hm HF hltz hlt
          by_cases e : m = T
          · subst e
            have hx0 : x.size = 0 := by omega
            go_wp2_with (with_reducible show wpList _ _ _ (⟨some 34, _, _, _, _, _⟩ :: _) _ _; refine wpList_copy_str rfl (.tmp 32) (.tmp 33) 92 9 rfl 5 Tryd.underlying92 info5m (some ⟨q, 0, none⟩) 0 0 x rfl rfl q m cur 5 HROW.out (by omega) (fun h => by omega) (by omega) q w HB.out (Nat.le_refl _) ?_; intro w2 H2 hb2)
            have HF2 : Hid (Fil q m (flat (B.take (k + 1))) w2) := by
              rw [HST1.out]
              exact fil_step (by rw [HM.out]; exact H2.out) hcl HTK.out (by rw [sb_len, HM.out]; omega)
            have HM2 : Hid ((flat (B.take (k + 1))).length = m + x.size) := by rw [HST1.out, List.length_append, sb_len, HM.out]; exact Lib.hid rfl
            have HB2 := Lib.hid hb2
            clear H2 hb2
            go_wp2
            go_roundw
            case rel => exact ⟨k + 1, by omega, by rw [HM2.out]; go_num, by go_num, HF2, HB2⟩
            case measure => simp only [RowKit.intOf, Int.toNat_natCast]; omega
          · have hmT : (m : Int) < (T : Int) := by omega
            have hmz : (m : Int) ≤ (T : Int) := by omega
            have hne : ¬ (T : Int) = (m : Int) := by omega
            go_wp2_with (with_reducible show wpList _ _ _ (⟨some 34, _, _, _, _, _⟩ :: _) _ _; refine wpList_copy_str rfl (.tmp 32) (.tmp 33) 92 9 rfl 5 Tryd.underlying92 info5m (some ⟨q, m, none⟩) (T - m) (T - m) x rfl rfl q m cur 5 HROW.out (by omega) (fun _ => rfl) (by omega) q w HB.out (Nat.le_refl _) ?_; intro w2 H2 hb2)
            have HF2 : Hid (Fil q T (flat (B.take (k + 1))) w2) := by
              rw [HST1.out]
              exact fil_step (by rw [HM.out]; exact H2.out) hcl HTK.out (by rw [sb_len, HM.out]; omega)
            have HM2 : Hid ((flat (B.take (k + 1))).length = m + x.size) := by rw [HST1.out, List.length_append, sb_len, HM.out]; exact Lib.hid rfl
            have HB2 := Lib.hid hb2
            clear H2 hb2
            go_wp2
            go_roundw
            case rel => exact ⟨k + 1, by omega, by rw [HM2.out]; go_num, by go_num, HF2, HB2⟩
            case measure => simp only [RowKit.intOf, Int.toNat_natCast]; omega
        · obtain rfl : n = k := by omega
          have hF := HF.out
          rw [HAL.out] at hF
          have hcv := conv_str wr (some ⟨q, 0, none⟩) T (flat B) (flat_byt B) (fil_sli hF HTT.out (by omega))
          rw [HTT.out] at hcv
          rw [HR.out] at hcv
          clear hF HF
          go_wp2
          go_ret
          exact ⟨rfl, by rw [HQ.out]; exact HB.out⟩

end Go.Proofs.YtgfhhpodcnohpaaDoor
