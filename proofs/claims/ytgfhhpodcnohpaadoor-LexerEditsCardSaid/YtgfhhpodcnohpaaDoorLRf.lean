/- Tokens: the reference's Tokens. Conditions: texts of at most 100000 bytes. -/
import Derived.Test.YtgfhhpodcnohpaaDoorLRe
import Derived.Test.YtgfhhpodcnohpaaDoorLTn
import Derived.Deep.LoopGhost
namespace Go.Proofs.YtgfhhpodcnohpaaDoor
open Go.RowKit Go.Shelf
set_option linter.unusedVariables false

set_option maxRecDepth 100000 in
set_option maxHeartbeats 4000000 in
theorem rtoks_any (s : ByteArray) (hs : s.size ≤ 100000) (w : World) :
    Calls Tryd.prog 15 #[.string s] w fun e w' => ∃ u, e = .returned u ∧ NewTs w (lex (sb s) 0) u w' := by
  have hLl := lex_len (sb s).length (sb s) 0
  obtain ⟨L, hL⟩ : ∃ L, lex (sb s) 0 = L := ⟨_, rfl⟩
  rw [show lexF (sb s).length (sb s) 0 = L by rw [← hL]; rfl, sb_len] at hLl
  rw [hL]
  have HL0 : Hid (lex ((sb s).drop 0) 0 = L.drop 0) := Lib.hid (by rw [List.drop_zero, List.drop_zero]; exact hL)
  have HLL := Lib.hid hLl
  obtain ⟨i3, hi3, iy0, iy1, iy2⟩ := info_parts tinfo
  clear hL hLl
  unfold NewTs
  go_enter Tryd.func15, Tryd.ntmps15
  go_wp2
  go_loopg [3, 4, 5, 6] (s.size + 1) (fun gk v3 v4 _ _ wr => ∃ (k q : Nat), s.size < q + gk ∧ v4 = .int .i64 (q : Int) ∧ q ≤ s.size ∧ k ≤ L.length ∧ Hid (lex ((sb s).drop q) q = L.drop k) ∧ Hid (wr.ownsRow w.heap.size 31 3 v3 k (tks (L.take k))) ∧ Hid (Below w.heap.size w wr))
  case atStart => exact ⟨0, 0, by omega, rfl, Nat.zero_le _, Nat.zero_le _, HL0, World.ownsRow_nil _ _ _ _, Lib.hid (Below.refl _ _)⟩
  case round =>
    obtain ⟨k, q, hgk, rfl, hq, hkl, HP, HROW, HB⟩ := hrel
    by_cases hlt : q < s.size
    · have hltz : (q : Int) < (s.size : Int) := by omega
      obtain ⟨g', rfl⟩ : ∃ g', gk = g' + 1 := ⟨gk - 1, by omega⟩
      have c0 := rnext_any s q hlt hs wr
      unfold RNx at c0
      have hne : (sb s).drop q ≠ [] := by
        intro e
        have := congrArg List.length e
        rw [List.length_drop, sb_len, List.length_nil] at this
        omega
      have hst := lex_step hne q
      have hfp := fst_pos hne
      rw [List.length_drop, sb_len] at hfp
      obtain ⟨⟨kd, n⟩, hkn⟩ : ∃ x, fst_ ((sb s).drop q) = x := ⟨_, rfl⟩
      rw [hkn] at c0 hst hfp
      simp only at c0 hst hfp
      rw [HP.out] at hst
      obtain ⟨hkL, htg, hdr⟩ := tg_drop hst
      have htx : tbs (((sb s).drop q).take n) = s.extract q (q + n) := by
        rw [← tbs_sb (s.extract q (q + n)), sbExt, List.drop_take, show q + n - q = n by omega]
      have hxt := tks_take L k hkL
      rw [htg] at hxt
      unfold tkCs at hxt
      simp only at hxt
      rw [htx] at hxt
      rw [List.drop_drop] at hdr
      have HDR : Hid (lex ((sb s).drop (q + n)) (q + n) = L.drop (k + 1)) := Lib.hid hdr.symm
      obtain ⟨N, hN⟩ : ∃ N, q + n = N := ⟨_, rfl⟩
      rw [hN] at c0 hxt HDR
      obtain ⟨x, hx⟩ : ∃ x, s.extract q N = x := ⟨_, rfl⟩
      rw [hx] at hxt
      have C0 := Lib.hid c0
      have HXT := Lib.hid hxt
      have hNs : N ≤ s.size := by omega
      have hqN : q < N := by omega
      have q1 : (q : Int) ≤ (N : Int) := by omega
      have q2 : (N : Int) ≤ (s.size : Int) := by omega
      have q3 : (0 : Int) ≤ (q : Int) := by omega
      have hkk : k < 100000 := by have := HLL.out; omega
      obtain ⟨av, cv, hv⟩ := own_slice HROW.out
      subst hv
      clear c0 hne hst hfp hkn htg hdr htx hxt hN
      go_wp2_with (first
        | (go_at_call 43; refine C0.out.mono ?_; rintro e w2 ⟨rfl, hb2⟩
           obtain ⟨W5, hW5⟩ : ∃ W, w2.alloc (.cells #[.int .i64 kd, .string x, .int .i64 (q : Int)] 31) = W := ⟨_, rfl⟩
           have b5 : Below w2.heap.size w2 W5 := by rw [← hW5]; exact (Below.refl _ _).alloc (Nat.le_refl _) _
           have hrow5 : Blk W5 w2.heap.size 31 #[.int .i64 kd, .string x, .int .i64 (q : Int)] := by rw [← hW5]; exact Blk.new _ _ _
           have HNW : Hid (∀ j u, ([.int .i64 kd, .string x, .int .i64 (q : Int)] : List Value)[j]? = some u → W5.cell? ((⟨w2.heap.size, 0, none⟩ : Addr).add j) = some u) := Lib.hid fun j u hj => by
             rw [show (⟨w2.heap.size, 0, none⟩ : Addr).add j = ⟨w2.heap.size, j, none⟩ by by_cases h0 : j = 0 <;> simp [Addr.add, h0], hrow5.cell]
             simpa using hj
           have hone : Hid (∀ u ∈ ([.int .i64 kd, .string x, .int .i64 (q : Int)] : List Value), u.oneCell' = true) := Lib.hid (by intro u hu; simp at hu; rcases hu with rfl | rfl | rfl <;> rfl)
           have hsz2 := hb2.size
           have hsz5 := b5.size
           have hszw := HB.out.size
           have HR5 : Hid (W5.ownsRow w.heap.size 31 3 (.slice av k cv) k (tks (L.take k))) := own_same HROW.out (fun g hg => by
             have := (HROW.out.lt g hg).2
             exact (b5.block g (by omega)).trans (hb2.block g this))
           have HB5 : Hid (Below w.heap.size w W5) := (HB.out.trans (hb2.mono hszw)).trans (b5.mono (by omega))
           have hbase : w.heap.size ≤ W5.heap.size := by omega
           have HW5 := Lib.hid hW5
           clear b5 hrow5 hb2 hW5)
        | (at_builtin; rw [show w2.alloc (.cells #[.int .i64 kd, .string x, .int .i64 (q : Int)] 31) = W5 from HW5.out]; refine wpList_append_own_at _ rfl _ _ 26 rfl w.heap.size 31 i3 (.agg #[.int .i64 0, .string ⟨#[]⟩, .int .i64 0]) 3 32 Tryd.underlying26 hi3 iy0 iy1 iy2 rfl (by decide) (.slice av k cv) k (tks (L.take k)) rfl HR5.out ⟨w2.heap.size, 0, none⟩ 1 1 [.int .i64 kd, .string x, .int .i64 (q : Int)] rfl rfl HNW.out hone.out (by unfold maxLen; omega) (by omega) hbase ?_; intro v6 w6 hown6 hgrow6 hnn6 hat6))
      have HN6 : Hid (w6.ownsRow w.heap.size 31 3 v6 (k + 1) (tks (L.take (k + 1)))) := Lib.hid (by rw [HXT.out]; exact hown6)
      have HB6 : Hid (Below w.heap.size w w6) := HB5.out.grown hgrow6 hbase (fun g hg => (HR5.out.lt g hg).1)
      clear hown6 hgrow6 hnn6 hat6
      go_roundg g'
      case measure => omega
      case rel => exact ⟨k + 1, N, by omega, rfl, hNs, by omega, HDR, HN6, HB6⟩
    · have hq2 : q = s.size := by omega
      have hkL : k = L.length := by
        have h1 := HP.out
        rw [List.drop_eq_nil_of_le (by rw [sb_len]; omega), lex_nil] at h1
        have := congrArg List.length h1
        rw [List.length_nil, List.length_drop] at this
        omega
      have hltz : ¬ (q : Int) < (s.size : Int) := by omega
      obtain ⟨av, cv, hv⟩ := own_slice HROW.out
      subst hv
      have HF : Hid (wr.ownsRow w.heap.size 31 3 (.slice av k cv) L.length (tks L)) := Lib.hid (by
        have := HROW.out
        rw [hkL, List.take_length] at this
        rw [hkL]
        exact this)
      clear hkL hq2
      go_wp2
      go_ret
      exact ⟨_, rfl, HF.out, HB.out⟩

end Go.Proofs.YtgfhhpodcnohpaaDoor
