/- The contract of Bytes. Conditions: the label has at most 1000 bytes, the slice at most 1000 bytes. -/
import Derived.Test.YthjedecfpedjbaaSum
namespace Go.Proofs.Ythjedecfpedjbaa
open Go.RowKit Go.Shelf
attribute [local go_sem] Oper.semAt_some

/-- The iterator's contract, whatever the slice: it reads blocks below B alone. -/
theorem words_gives_any (bb B : Nat) (a : Option Addr) (cap : Nat) (zs : List Int) (w : World) (hl2 : zs.length ≤ 1000000) (hlen : zs.length ≤ cap) (hcap : cap ≤ 9223372036854775807) (hz : Byt zs)
    (hb : w.cell? ⟨bb, 0, none⟩ = some (.slice a zs.length cap)) (lb : bb < w.heap.size) (hB : B ≤ w.heap.size)
    (hc : zs = [] ∨ ∃ b off, a = some ⟨b, off, none⟩ ∧ b < B ∧ ∀ j, j < zs.length → w.cell? ⟨b, off + j, none⟩ = some (.int .u8 (zs[j]?.getD 0))) :
    Gives Try.prog 67 #[.pointer (some ⟨bb, 0, none⟩)] (fun k => #[.int .u64 (U (word zs k))]) (nGroups zs.length) (fun k => k < B) w := by
  rcases hc with rfl | ⟨b, off, rfl, hlt, hcs⟩
  · exact words_gives0 bb a cap _ _ w hb lb
  · intro l J T W hW hT hJ hY h0
    exact words_gives bb b off cap zs w hl2 hlen hcap hz hb lb (by omega) hcs l J T W hW (fun k hk => ⟨(hT k hk).1, fun e => (hT k hk).2 (by omega)⟩) hJ hY h0
/-- What Bytes collects from the first k groups. -/
def colS (zs : List Int) (k : Nat) : List Int := (List.range k).map (fun j => wrap64 (U (word zs j)))
theorem colS_len (zs : List Int) (k : Nat) : (colS zs k).length = k := by simp [colS]
theorem colS_succ (zs : List Int) (k : Nat) : colS zs (k + 1) = colS zs k ++ [wrap64 (U (word zs k))] := by simp [colS, List.range_succ]
theorem bytesS_col (lab zs : List Int) : bytesS lab zs = sumS lab (colS zs (nGroups zs.length) ++ [(zs.length : Int)]) := by
  unfold bytesS colS wordsL; rw [List.map_map]; rfl
set_option maxRecDepth 100000 in
set_option maxHeartbeats 1000000 in
theorem bytes_any (s : ByteArray) (a : Option Addr) (cap : Nat) (zs : List Int) (w : World) (hs : s.size ≤ 1000) (hl : zs.length ≤ 1000) (hlen : zs.length ≤ cap) (hcap : cap ≤ 9223372036854775807) (hz : Byt zs) (hc : Cells .u8 w a zs) :
    Calls Try.prog 36 #[.string s, .slice a zs.length cap] w fun e w' => e = .returned (.int .u64 (U (bytesS (sb s) zs))) ∧ Below w.heap.size w w' := by
  obtain ⟨i0, hi, hz0, hz1, hz2⟩ := info_parts info3
  have HC := Lib.hid hc
  have HZ := Lib.hid hz
  clear hc hz
  refine (callsIn_wide (n := 0)).1 ?_
  refine callsIn_of_wp_marks Try.func36 rfl trivial ?_ rfl
  simp only [Try.ntmps36, List.size_toArray, List.length_cons, List.length_nil, Nat.reduceAdd, Nat.reduceSub, Array.replicate_succ, Array.replicate_zero, List.push_toArray, List.append_toArray, List.nil_append, List.cons_append]
  obtain ⟨m, hm⟩ : ∃ m, zs.length / 8 + 2 = m := ⟨_, rfl⟩
  have hmi : ((zs.length : Int) / 8 + 2) = (m : Int) := by omega
  have hgm : nGroups zs.length + 1 ≤ m := by unfold nGroups; omega
  have hmb : m ≤ 1000 := by omega
  have HMI := Lib.hid hmi
  clear hm hmi
  gi_wp2_with (first | (gi_at_make; refine wpListIn_make_own _ rfl _ _ 22 rfl w.heap.size 3 i0 (.int .i64 0) 1 Try.underlying22 hi hz0 hz1 .i64 .i64 _ m rfl rfl HMI.out (by rw [hz2]; omega) (by unfold maxLen; omega) (Nat.le_refl _) ?_; intro w1 hown1 hgrow1) | (refine ⟨trivial, rfl, ?_⟩; gi_at_call 54; refine (callsIn_wide.2 (wordsOf_any _ _ _ _)).mono ?_; rintro e w' ⟨rfl, rfl⟩))
  obtain ⟨g, hg⟩ : ∃ g, w.heap.size = g := ⟨_, rfl⟩
  rw [hg] at hown1
  have hg1 : g < w1.heap.size := (hown1.lt g rfl).2
  obtain ⟨X, hX⟩ : ∃ X, w1.heap.size = X := ⟨_, rfl⟩
  obtain ⟨W0, hW0⟩ : ∃ W0, (w1.alloc (.cells #[.slice (some ⟨w.heap.size, 0, none⟩) 0 m] 22)).alloc (.cells #[.slice a zs.length cap] 54) = W0 := ⟨_, rfl⟩
  have hz0' : W0.heap.size = X + 2 := by rw [← hW0]; simp [hX]
  have hB1 : Below w.heap.size w w1 := (Below.refl _ _).grown hgrow1 (Nat.le_refl _) (fun k e => by cases e)
  have hB0 : Below w.heap.size w W0 := by rw [← hW0]; exact (hB1.alloc hB1.size _).alloc (by simp; have := hB1.size; omega) _
  have bX : Boxed W0 X 22 (.slice (some ⟨g, 0, none⟩) 0 m) := by rw [← hW0, ← hX, ← hg]; exact (Boxed.new _ _ _).alloc _
  have bB : Boxed W0 (X + 1) 54 (.slice a zs.length cap) := by
    rw [← hW0, ← hX]
    have h1 := Boxed.new (w1.alloc (.cells #[.slice (some ⟨w.heap.size, 0, none⟩) 0 m] 22)) 54 (.slice a zs.length cap)
    rw [World.size_alloc] at h1
    exact h1
  have hown0 : W0.ownsRow w.heap.size 3 1 (.slice (some ⟨g, 0, none⟩) 0 m) 0 [] := by rw [← hW0, hg]; exact (hown1.alloc _).alloc _
  rw [hW0, hX, hg]
  clear hW0 hown1 hgrow1 hB1
  rw [hX] at hg1
  have HG := Lib.hid hg
  have hgle : g ≤ w.heap.size := by omega
  have hgge : w.heap.size ≤ g := by omega
  clear hX hg hi
  obtain ⟨i0', hi', hz0'', hz1', hz2'⟩ := info_parts info3
  refine wpIn_gives (gf := 67) (lb := #[.pointer (some ⟨X + 1, 0, none⟩)]) rfl (enters_of Try.func67 (by kernel_rfl) rfl)
    (words_gives_any (X + 1) w.heap.size a cap zs W0 (by omega) hlen hcap HZ.out bB.cell (by omega) (by omega) ?cells) (fun _ => rfl) (fun k hk => by omega)
    (fun k A => Boxed A X 22 (.slice (some ⟨g, 0, none⟩) k m) ∧ A.ownsRow w.heap.size 3 1 (.slice (some ⟨g, 0, none⟩) k m) k ((colS zs k).map (Value.int .i64)) ∧ Below w.heap.size w A)
    (fun k A C hs hb => ⟨(hb.block _ (by omega)).trans hs.1, own_same hs.2.1 (fun j e => by cases e; exact hb.block g (by omega)), hs.2.2.trans (hb.mono (by omega))⟩)
    ⟨bX, hown0, hB0⟩ (fun k => k = X ∨ k = g) (fun k hk => by omega)
    (fun k => { tmps := #[.string s, .slice a zs.length cap, undef, undef, .int .u64 0, .pointer (some ⟨X, 0, none⟩), .int .u64 (U (word zs k)), .slice a zs.length cap, .int .i64 (zs.length : Int), .int .i64 ((zs.length : Int) / 8),
      .int .i64 ((zs.length : Int) / 8 + 2), .slice (some ⟨g, 0, none⟩) 0 m, .slice a zs.length cap, .func (.func 67) #[] #[.pointer (some ⟨X + 1, 0, none⟩)], .int .u64 (U (word zs k)), undef, undef, undef, undef, undef, undef, undef, undef, undef, undef, undef, undef], defers := [] }) ?assign ?body ?done
  case cells =>
    rcases HC.out with h | ⟨b, off, h1, h2, h3⟩
    · exact .inl h
    · exact .inr ⟨b, off, h1, h2, fun j hj => (hB0.cell (p := ⟨b, off + j, none⟩) h2).trans (h3 j hj)⟩
  case assign =>
    intro l' k A K hK
    gi_wp2
    exact hK
  case body =>
    rintro l' k A hk hzA ⟨hx, hown, hBA⟩
    have hcx := hx.cell
    have hfx := hx.frozen
    have hkm : k + 1 ≤ m := by omega
    gi_wp2_with (gi_at_builtin; refine wpListIn_append_fits _ rfl _ _ 22 rfl w.heap.size 3 i0' 1 Try.underlying22 hi' hz1' g k m ((colS zs k).map (Value.int .i64)) rfl (hown.alloc _) ⟨A.heap.size, 0, none⟩ 1 1 [.int .i64 (wrap64 (U (word zs k)))] rfl rfl (cell_one_new _ _ _) (fun x hx => by simp at hx; subst hx; rfl) (by omega) ?_; intro w3 hown3 hgrow3; have b3 := (hx.alloc (.cells #[.int .i64 (wrap64 (U (word zs k)))] 3)).kept hgrow3 (by simp; omega); have c3 := b3.cell; have f3 := b3.frozen)
    have hg3 := hgrow3.size
    rw [World.size_alloc] at hg3
    refine ⟨⟨b3.set _, own_same (A := w3) ?_ (fun j e => by cases e; exact Below.heap_setCell _ _ _ g (by show g ≠ X; omega)), ?_⟩, ?_⟩
    · rw [colS_succ, List.map_append]; exact hown3
    · exact ((hBA.alloc hBA.size _).grown hgrow3 (by rw [World.size_alloc]; have := hBA.size; omega) (fun j e => by cases e; omega)).setCell (p := ⟨X, 0, none⟩) (by show w.heap.size ≤ X; omega) _
    · refine ⟨by show A.heap.size ≤ (w3.setCell _ _).heap.size; simp [World.setCell]; omega, fun j hj hT => ?_⟩
      rw [Below.heap_setCell _ _ _ j (fun e => hT (.inl e)), hgrow3.block j (by rw [World.size_alloc]; omega) (fun e => hT (.inr (by simpa using e))), Below.heap_alloc _ _ _ hj]
  case done =>
    rintro A hzA ⟨hx, hown, hBA⟩ hK
    have hcx := hx.cell
    have hfx := hx.frozen
    obtain ⟨K, hKn⟩ : ∃ K, nGroups zs.length = K := ⟨_, rfl⟩
    rw [hKn] at hgm hown hcx hx
    have HKN := Lib.hid hKn
    clear hKn
    gi_wp2_with (gi_at_builtin; refine wpListIn_append_fits _ rfl _ _ 22 rfl w.heap.size 3 i0' 1 Try.underlying22 hi' hz1' g K m ((colS zs K).map (Value.int .i64)) rfl (hown.alloc _) ⟨A.heap.size, 0, none⟩ 1 1 [.int .i64 (zs.length : Int)] rfl rfl (cell_one_new _ _ _) (fun x hx => by simp at hx; subst hx; rfl) (by omega) ?_; intro w3 hown3 hgrow3)
    have hB3 : Below w.heap.size w w3 := (hBA.alloc hBA.size _).grown hgrow3 (by rw [World.size_alloc]; have := hBA.size; omega) (fun j e => by cases e; omega)
    have hg3 := hgrow3.size
    rw [World.size_alloc] at hg3
    have hK3 : w3.heap[X + 2]? = some (.deferred (some [])) := by
      rw [hgrow3.block (X + 2) (by rw [World.size_alloc]; omega) (by simp; omega), Below.heap_alloc _ _ _ (by omega), ← hz0']; exact hK
    have hsum : Calls Try.prog 55 #[.string s, .slice (some ⟨g, 0, none⟩) (K + 1) m] w3 fun e w' => e = .returned (.int .u64 (U (bytesS (sb s) zs))) ∧ Below w3.heap.size w3 w' := by
      have h1 := sum_any s (some ⟨g, 0, none⟩) m (colS zs K ++ [(zs.length : Int)]) w3 hs (by simp [colS_len]; omega) (cells_of_own (by rw [List.map_append]; exact hown3))
      rw [List.length_append, colS_len] at h1
      rw [bytesS_col, HKN.out]
      exact h1
    refine ⟨trivial, rfl, ?_⟩
    refine (callsIn_wide.2 hsum).mono ?_
    clear hsum hcx hfx hgrow3 hown3 hx hown
    rintro e w' ⟨rfl, hb⟩
    have hK4 := (hb.block (X + 2) (by omega)).trans hK3
    have hs4 := hb.size
    have HB := Lib.hid hb
    clear hb hK3
    gi_wp2
    refine ⟨by simp, .inl ⟨_, _, rfl, run_takeDeferred hK4, ?_⟩⟩
    refine ⟨_, results_tmp rfl _ _ _, rfl, (hB3.trans (HB.out.mono hB3.size)).trans ⟨rfl, rfl, rfl, by simp, fun j hj => World.putObj_heap_other (by omega)⟩⟩

theorem bytes_sli (s : ByteArray) (a : Option Addr) (cap : Nat) (zs : List Int) (w : World) (h : Sli .u8 w a cap zs) (hs : s.size ≤ 1000) (hl : zs.length ≤ 1000) (hz : Byt zs) (r : Int) (hr : U (bytesS (sb s) zs) = r) :
    Calls Try.prog 36 #[.string s, .slice a zs.length cap] w fun e w' => e = .returned (.int .u64 r) ∧ Below w.heap.size w w' := by
  subst hr; exact bytes_any s a cap zs w hs hl h.le h.mx hz h.cells
theorem sum_sli (s : ByteArray) (a : Option Addr) (cap : Nat) (ws : List Int) (w : World) (h : Sli .i64 w a cap ws) (hs : s.size ≤ 1000) (hl : ws.length ≤ 1000) (r : Int) (hr : U (sumS (sb s) ws) = r) :
    Calls Try.prog 55 #[.string s, .slice a ws.length cap] w fun e w' => e = .returned (.int .u64 r) ∧ Below w.heap.size w w' := by
  subst hr; exact sum_any s a cap ws w hs hl h.cells

end Go.Proofs.Ythjedecfpedjbaa
