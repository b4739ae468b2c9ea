/- The contract of the iterator that wordsOf returns. Conditions: the bytes lie in one block. -/
import Derived.Test.YthjedecfpedjbaaIter
namespace Go.Proofs.Ythjedecfpedjbaa
open Go.RowKit Go.Shelf
attribute [local go_sem] Oper.semAt_some

set_option maxRecDepth 100000 in
set_option maxHeartbeats 400000 in
theorem chunk_gives0 (bs bn : Nat) (a : Option Addr) (cap : Nat) (encs : Nat → Array Value) (w : World)
    (hs : w.cell? ⟨bs, 0, none⟩ = some (.slice a 0 cap)) (hn : w.cell? ⟨bn, 0, none⟩ = some (.int .i64 8)) (ls : bs < w.heap.size) (ln : bn < w.heap.size) :
    Gives Try.prog 72 #[.pointer (some ⟨bs, 0, none⟩), .pointer (some ⟨bn, 0, none⟩)] encs 0 (fun k => k = bs ∨ k = bn) w := by
  intro l J T W hW hT hJ hY h0
  have hs1 := (hW.cell (p := ⟨bs, 0, none⟩) ls).trans hs
  have hn1 := (hW.cell (p := ⟨bn, 0, none⟩) ln).trans hn
  clear hY hJ hT
  refine callsIn_of_wp Try.func72 rfl trivial ?_ rfl
  simp only [Try.ntmps72, List.size_toArray, List.length_cons, List.length_nil, Nat.reduceAdd, Nat.reduceSub, Array.replicate_succ, Array.replicate_zero, List.push_toArray, List.append_toArray, List.nil_append, List.cons_append]
  gi_wp2
  gi_loopw [4] (fun i wr => i = .int .i64 0 ∧ J 0 wr ∧ wr.cell? ⟨bs, 0, none⟩ = some (.slice a 0 cap)) (fun _ _ => 0)
  case atStart => exact ⟨rfl, h0, hs1⟩
  case round =>
    obtain ⟨rfl, hJ0, hs2⟩ := hrel
    gi_wp2
    go_end0
    exact ⟨⟨_, rfl⟩, hJ0⟩

theorem yield_any {n m : Nat} {P : Program} {l : Nat} {args : Array Value} {W : World} {R : Ending → World → Prop} (h : YieldAt Fence.wide n P l args W R) : YieldAt Fence.wide m P l args W R := by
  obtain ⟨fn, tmps, assign, body, hy, hR⟩ := h
  exact ⟨fn, tmps, assign, body, hy, roundIn_wide hR⟩

set_option maxRecDepth 100000 in
set_option maxHeartbeats 1000000 in
theorem words_gives (bb b off cap : Nat) (zs : List Int) (w : World) (hl2 : zs.length ≤ 1000000) (hlen : zs.length ≤ cap) (_hcap : cap ≤ 9223372036854775807) (hz : Byt zs)
    (hb : w.cell? ⟨bb, 0, none⟩ = some (.slice (some ⟨b, off, none⟩) zs.length cap)) (lb : bb < w.heap.size) (ld : b < w.heap.size)
    (hc : ∀ j, j < zs.length → w.cell? ⟨b, off + j, none⟩ = some (.int .u8 (zs[j]?.getD 0))) :
    Gives Try.prog 67 #[.pointer (some ⟨bb, 0, none⟩)] (fun k => #[.int .u64 (U (word zs k))]) (nGroups zs.length) (fun k => k = b) w := by
  intro l J T W hW hT hJ hY h0
  have hb1 := (hW.cell (p := ⟨bb, 0, none⟩) lb).trans hb
  have hsz := hW.size
  have HC := Lib.hid hc
  have HT := Lib.hid hT
  have HJ := Lib.hid hJ
  have HY := Lib.hid hY
  clear hc hT hJ hY
  refine callsIn_of_wp_marks Try.func67 rfl trivial ?_ rfl
  simp only [Try.ntmps67, List.size_toArray, List.length_cons, List.length_nil, Nat.reduceAdd, Nat.reduceSub, Array.replicate_succ, Array.replicate_zero, List.push_toArray, List.append_toArray, List.nil_append, List.cons_append]
  have hb2 : (W.alloc (.cells #[.func (.yield l) #[] #[]] 104)).cell? ⟨bb, 0, none⟩ = some (.slice (some ⟨b, off, none⟩) zs.length cap) :=
    (((Below.refl W.heap.size W).alloc (Nat.le_refl _) _).cell (p := ⟨bb, 0, none⟩) (by show bb < W.heap.size; omega)).trans hb1
  gi_wp2_with (refine ⟨trivial, rfl, ?_⟩; gi_at_call 68; refine (callsIn_wide.2 (chunk_any _ _ _ _)).mono ?_; rintro e w' ⟨rfl, rfl⟩)
  obtain ⟨W0, hW0⟩ : ∃ W0, ((W.alloc (.cells #[.func (.yield l) #[] #[]] 104)).alloc (.cells #[.slice (some ⟨b, off, none⟩) zs.length cap] 54)).alloc (.cells #[.int .i64 8] 3) = W0 := ⟨_, rfl⟩
  have hz0 : W0.heap.size = W.heap.size + 3 := by rw [← hW0]; simp
  have hB0 : Below W.heap.size W W0 := by rw [← hW0]; exact (((Below.refl _ _).alloc (Nat.le_refl _) _).alloc (by simp) _).alloc (by simp; omega) _
  have bY : Boxed W0 W.heap.size 104 (.func (.yield l) #[] #[]) := by rw [← hW0]; exact ((Boxed.new _ _ _).alloc _).alloc _
  have bS : Boxed W0 (W.heap.size + 1) 54 (.slice (some ⟨b, off, none⟩) zs.length cap) := by
    rw [← hW0]; have := Boxed.new (W.alloc (.cells #[.func (.yield l) #[] #[]] 104)) 54 (.slice (some ⟨b, off, none⟩) zs.length cap)
    rw [World.size_alloc] at this; exact this.alloc _
  have bN : Boxed W0 (W.heap.size + 2) 3 (.int .i64 8) := by
    rw [← hW0]; have := Boxed.new ((W.alloc (.cells #[.func (.yield l) #[] #[]] 104)).alloc (.cells #[.slice (some ⟨b, off, none⟩) zs.length cap] 54)) 3 (.int .i64 8)
    rw [World.size_alloc, World.size_alloc] at this; exact this
  have hblk : Below w.heap.size w W0 := hW.trans (hB0.mono hsz)
  rw [hW0]
  refine wpIn_gives (gf := 72) (lb := #[.pointer (some ⟨W.heap.size + 1, 0, none⟩), .pointer (some ⟨W.heap.size + 1 + 1, 0, none⟩)]) rfl (enters_of Try.func72 (by kernel_rfl) rfl)
    (chunk_gives (W.heap.size + 1) (W.heap.size + 1 + 1) b off zs.length cap W0 hl2 hlen _hcap bS.cell bN.cell (by omega) (by omega)) (fun _ => rfl) (fun k hk => by omega)
    (fun k A => J k A ∧ Boxed A W.heap.size 104 (.func (.yield l) #[] #[]) ∧ A.heap[b]? = W0.heap[b]?)
    (fun k A C hs hb => ⟨HJ.out _ _ _ hs.1 (hb.mono (by omega)), (hb.block _ (by omega)).trans hs.2.1, (hb.block _ (by omega)).trans hs.2.2⟩)
    ⟨HJ.out _ _ _ h0 hB0, bY, rfl⟩ T (fun k hk => ⟨by have := (HT.out k hk).1; omega, fun h => by have := (HT.out k hk).1; omega⟩)
    (fun k => { tmps := #[.func (.yield l) #[] #[], .pointer (some ⟨bb, 0, none⟩), .pointer (some ⟨W.heap.size, 0, none⟩), subV b off zs.length k, .slice (some ⟨b, off, none⟩) zs.length cap,
      .func (.func 72) #[] #[.pointer (some ⟨W.heap.size + 1, 0, none⟩), .pointer (some ⟨W.heap.size + 1 + 1, 0, none⟩)], subV b off zs.length k, undef, undef, undef, undef, undef], defers := [] }) ?assign ?body ?done
  case assign =>
    intro l' k A K hK
    gi_wp2
    exact hK
  case body =>
    rintro l' k A hk hzA ⟨hj, hy, hd⟩
    have hcy := hy.cell
    have hcs : ∀ j, j < min 8 (zs.length - 8 * k) → A.cell? ⟨b, off + 8 * k + j, none⟩ = some (.int .u8 ((grp zs k)[j]?.getD 0)) := fun j hj => by
      have h1 := HC.out (8 * k + j) (by omega)
      rw [← hblk.cell (p := ⟨b, off + (8 * k + j), none⟩) ld] at h1
      rw [Nat.add_assoc, World.cell?_of_block (w := W0) (w' := A) (a := ⟨b, off + (8 * k + j), none⟩) hd, h1]
      simp [grp, List.getElem?_drop, show j < 8 by omega]
    have hle := le_any b (off + 8 * k) (min 8 (zs.length - 8 * k)) (min 8 (zs.length - 8 * k)) (grp zs k) A.drew (by rw [grp_len]) (by omega) ((hz.drop _).take _) hcs
    rw [← U_word hz k] at hle
    obtain ⟨fn, tmps, assign, body, hyr, hR⟩ := HY.out k A.drew hk (by show W.heap.size ≤ A.heap.size; omega) (HJ.out _ _ _ hj (Below.refl _ _).drew)
    have Hcs := Lib.hid hcs
    have HR := Lib.hid hR
    clear hcs hR
    have hmx : Try.prog.follows .mixedOrders = true := by kernel_rfl
    gi_wp2
    gi_region_with_o (first | (refine ⟨rfl, HR.out.mono ?_⟩; rintro e W3 ⟨rfl, hJ3, hk3⟩) | (refine ⟨trivial, rfl, ?_⟩; gi_at_call 69; refine (CallsIn.inRound l' (callsIn_wide.2 hle)).mono ?_; rintro e w' ⟨rfl, rfl⟩))
    all_goals
      have hk4 : Keep T A W3 := ⟨hk3.1, hk3.2⟩
      have hn : ∀ j, W.heap.size ≤ j → ¬ T j := fun j h e => by have := (HT.out j e).1; omega
      have e1 : Boxed W3 W.heap.size 104 (.func (.yield l) #[] #[]) := (hk4.2 _ (by omega) (hn _ (Nat.le_refl _))).trans hy
      have e2 : W3.heap[b]? = W0.heap[b]? := (hk4.2 b (by omega) (fun e => (HT.out b e).2 rfl)).trans hd
      clear hn
      gi_wp2
      exact ⟨⟨hJ3, e1, e2⟩, hk4⟩
  case done =>
    rintro A hzA ⟨hj, hy, hd⟩ hK
    gi_wp2
    refine ⟨by simp, .inl ⟨_, _, rfl, run_takeDeferred hK, ?_⟩⟩
    refine ⟨_, results_none rfl _ _ _, ⟨_, rfl⟩, HJ.out _ _ _ hj ⟨rfl, rfl, rfl, by simp, fun k hk => World.putObj_heap_other (by omega)⟩⟩

set_option maxRecDepth 100000 in
set_option maxHeartbeats 1000000 in
theorem words_gives0 (bb : Nat) (a : Option Addr) (cap : Nat) (encs : Nat → Array Value) (R : Nat → Prop) (w : World)
    (hb : w.cell? ⟨bb, 0, none⟩ = some (.slice a 0 cap)) (lb : bb < w.heap.size) :
    Gives Try.prog 67 #[.pointer (some ⟨bb, 0, none⟩)] encs 0 R w := by
  intro l J T W hW hT hJ hY h0
  have hb1 := (hW.cell (p := ⟨bb, 0, none⟩) lb).trans hb
  have hsz := hW.size
  have HT := Lib.hid hT
  have HJ := Lib.hid hJ
  clear hT hJ hY
  refine callsIn_of_wp_marks Try.func67 rfl trivial ?_ rfl
  simp only [Try.ntmps67, List.size_toArray, List.length_cons, List.length_nil, Nat.reduceAdd, Nat.reduceSub, Array.replicate_succ, Array.replicate_zero, List.push_toArray, List.append_toArray, List.nil_append, List.cons_append]
  have hb2 : (W.alloc (.cells #[.func (.yield l) #[] #[]] 104)).cell? ⟨bb, 0, none⟩ = some (.slice a 0 cap) :=
    (((Below.refl W.heap.size W).alloc (Nat.le_refl _) _).cell (p := ⟨bb, 0, none⟩) (by show bb < W.heap.size; omega)).trans hb1
  gi_wp2_with (refine ⟨trivial, rfl, ?_⟩; gi_at_call 68; refine (callsIn_wide.2 (chunk_any _ _ _ _)).mono ?_; rintro e w' ⟨rfl, rfl⟩)
  obtain ⟨W0, hW0⟩ : ∃ W0, ((W.alloc (.cells #[.func (.yield l) #[] #[]] 104)).alloc (.cells #[.slice a 0 cap] 54)).alloc (.cells #[.int .i64 8] 3) = W0 := ⟨_, rfl⟩
  have hz0 : W0.heap.size = W.heap.size + 3 := by rw [← hW0]; simp
  have hB0 : Below W.heap.size W W0 := by rw [← hW0]; exact (((Below.refl _ _).alloc (Nat.le_refl _) _).alloc (by simp) _).alloc (by simp; omega) _
  have bS : Boxed W0 (W.heap.size + 1) 54 (.slice a 0 cap) := by
    rw [← hW0]; have := Boxed.new (W.alloc (.cells #[.func (.yield l) #[] #[]] 104)) 54 (.slice a 0 cap)
    rw [World.size_alloc] at this; exact this.alloc _
  have bN : Boxed W0 (W.heap.size + 2) 3 (.int .i64 8) := by
    rw [← hW0]; have := Boxed.new ((W.alloc (.cells #[.func (.yield l) #[] #[]] 104)).alloc (.cells #[.slice a 0 cap] 54)) 3 (.int .i64 8)
    rw [World.size_alloc, World.size_alloc] at this; exact this
  rw [hW0]
  refine wpIn_gives (gf := 72) (lb := #[.pointer (some ⟨W.heap.size + 1, 0, none⟩), .pointer (some ⟨W.heap.size + 1 + 1, 0, none⟩)]) rfl (enters_of Try.func72 (by kernel_rfl) rfl)
    (chunk_gives0 (W.heap.size + 1) (W.heap.size + 1 + 1) a cap (fun _ => #[undef]) W0 bS.cell bN.cell (by omega) (by omega)) (fun _ => rfl) (fun k hk => by omega)
    (fun k A => J k A)
    (fun k A C hs hb => HJ.out _ _ _ hs (hb.mono (by omega)))
    (HJ.out _ _ _ h0 hB0) T (fun k hk => ⟨by have := (HT.out k hk).1; omega, fun h => by have := (HT.out k hk).1; omega⟩)
    (fun k => { tmps := #[.func (.yield l) #[] #[], .pointer (some ⟨bb, 0, none⟩), .pointer (some ⟨W.heap.size, 0, none⟩), undef, .slice a 0 cap,
      .func (.func 72) #[] #[.pointer (some ⟨W.heap.size + 1, 0, none⟩), .pointer (some ⟨W.heap.size + 1 + 1, 0, none⟩)], undef, undef, undef, undef, undef, undef], defers := [] }) ?assign ?body ?done
  case assign =>
    intro l' k A K hK
    gi_wp2
    exact hK
  case body =>
    intro l' k A hk
    exact absurd hk (Nat.not_lt_zero _)
  case done =>
    rintro A hzA hj hK
    gi_wp2
    refine ⟨by simp, .inl ⟨_, _, rfl, run_takeDeferred hK, ?_⟩⟩
    refine ⟨_, results_none rfl _ _ _, ⟨_, rfl⟩, HJ.out _ _ _ hj ⟨rfl, rfl, rfl, by simp, fun k hk => World.putObj_heap_other (by omega)⟩⟩
end Go.Proofs.Ythjedecfpedjbaa
