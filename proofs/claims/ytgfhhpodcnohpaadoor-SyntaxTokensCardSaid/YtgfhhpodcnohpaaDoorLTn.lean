/- Tokens: the program's Tokens. Conditions: texts of at most 100000 bytes; the tables lie in memory. -/
import Derived.Test.YtgfhhpodcnohpaaDoorLTk
import Derived.Deep.AppendLies
import Derived.Maps.OwnIn
namespace Go.Proofs.YtgfhhpodcnohpaaDoor
open Go.RowKit Go.Shelf
set_option linter.unusedVariables false
attribute [local go_sem] Oper.semAt_some

theorem town_base {w : World} {b b' e size n : Nat} {v : Value} {xs : List Value} (h : w.ownsRow b e size v n xs) (hb : b' ≤ b) : w.ownsRow b' e size v n xs := by
  refine ⟨h.1, ?_⟩
  rcases h.2 with hn | ⟨g, cap, cur, rfl, h1, r⟩
  · exact .inl hn
  · exact .inr ⟨g, cap, cur, rfl, by omega, r⟩
/-- 'l = append(l, x)' in a round, l a variable in block q. -/
theorem tapp_step {q k : Nat} {e ty : TypeId} {size : Nat} {V : Value} {gg cap1 : Nat} {xs ys : List Value} {T : Nat → Prop} {A3 X w1 W1 : World} (hT : ∀ j, T j ↔ (j = q ∨ V.ownBlock = some j)) (hbx : Boxed A3 (q) ty V) (hrow : A3.ownsRow ((q + 1)) e size V k xs) (hB : Below (q) W1 A3) (hz : (q + 2) ≤ A3.heap.size)
    (hX : Below A3.heap.size A3 X) (hown : w1.ownsRow ((q + 1)) e size (.slice (some ⟨gg, 0, none⟩) (k + 1) cap1) (k + 1) ys) (hgrow : X.grownBy w1 V.ownBlock) (hat : V.ownBlock = some gg ∨ gg = A3.heap.size + 1) :
    ∃ T', (∃ v, (∀ j, T' j ↔ (j = q ∨ v.ownBlock = some j)) ∧ Boxed (w1.setCell ⟨q, 0, none⟩ (.slice (some ⟨gg, 0, none⟩) (k + 1) cap1)) (q) ty v ∧ (w1.setCell ⟨q, 0, none⟩ (.slice (some ⟨gg, 0, none⟩) (k + 1) cap1)).ownsRow ((q + 1)) e size v (k + 1) ys ∧
      Below (q) W1 (w1.setCell ⟨q, 0, none⟩ (.slice (some ⟨gg, 0, none⟩) (k + 1) cap1)) ∧ (q + 2) ≤ (w1.setCell ⟨q, 0, none⟩ (.slice (some ⟨gg, 0, none⟩) (k + 1) cap1)).heap.size) ∧ Rnd T T' A3 (w1.setCell ⟨q, 0, none⟩ (.slice (some ⟨gg, 0, none⟩) (k + 1) cap1)) := by
  have hg := grownBy_setCell' w1 (q) (.slice (some ⟨gg, 0, none⟩) (k + 1) cap1)
  have hgs := hg.size
  have hxs := hX.size
  have hws := hgrow.size
  have hb : ∀ j, j < A3.heap.size → some j ≠ V.ownBlock → w1.heap[j]? = A3.heap[j]? := fun j hj hne => (hgrow.block j (by omega) hne).trans (hX.block j hj)
  have hrl := hrow.lt
  have hq : some (q) ≠ V.ownBlock := fun e => by have := (hrl _ e.symm).1; omega
  have hbw : Boxed w1 (q) ty V := (hb (q) (by omega) hq).trans hbx
  have hgl := hown.lt gg rfl
  have hb2 : ∀ j, j < A3.heap.size → some j ≠ V.ownBlock → j ≠ q → (w1.setCell ⟨q, 0, none⟩ (.slice (some ⟨gg, 0, none⟩) (k + 1) cap1)).heap[j]? = A3.heap[j]? := fun j hj hne h1 => (hg.block j (by omega) (fun e => h1 (by cases e; rfl))).trans (hb j hj hne)
  refine ⟨fun j => j = q ∨ (Value.slice (some ⟨gg, 0, none⟩) (k + 1) cap1).ownBlock = some j, ⟨_, fun j => Iff.rfl, hbw.set _, own_same hown (fun g h => hg.block g (hown.lt g h).2 (fun e => by have := (hown.lt g h).1; cases e; omega)), hB.trans ⟨?_, ?_, ?_, by omega, fun j hj => hb2 j (by omega) (fun e => by have := (hrl _ e.symm).1; omega) (by omega)⟩, by omega⟩, by omega, fun j hj hn => hb2 j hj (fun e => hn ((hT j).2 (.inr e.symm))) (fun e => hn ((hT j).2 (.inl e))), fun j hj => ?_⟩
  · exact hg.os.trans (hgrow.os.trans hX.os)
  · exact hg.tape.trans (hgrow.tape.trans hX.tape)
  · exact hg.output.trans (hgrow.output.trans hX.output)
  · rcases hj with h | h
    · exact .inl ((hT j).2 (.inl h))
    · simp only [Value.ownBlock, Option.some.injEq] at h
      subst h
      rcases hat with h | h
      · exact .inl ((hT gg).2 (.inr h))
      · exact .inr (by omega)

/-- The cells of tokens. -/
def tks (L : List Tk) : List Value := L.flatMap tkCs
theorem tks_len (L : List Tk) : (tks L).length = L.length * 3 := by
  induction L with
  | nil => rfl
  | cons x L ih => simp only [tks, List.flatMap_cons, List.length_append] at ih ⊢; rw [ih]; simp [tkCs]; omega
theorem tks_take (L : List Tk) (k : Nat) (h : k < L.length) : tks (L.take (k + 1)) = tks (L.take k) ++ tkCs (tg L k) := by
  unfold tks tg
  rw [List.take_succ_eq_append_getElem h, List.flatMap_append, List.getElem?_eq_getElem h]
  simp
theorem tinfo : (Tryd.prog.info? 31).map (fun i => (i.zero, i.size, i.bytes)) = some (some (.agg #[.int .i64 0, .string ⟨#[]⟩, .int .i64 0]), 3, 32) := by kernel_rfl
theorem tokens_any (s : ByteArray) (w : World) :
    Calls Tryd.prog 42 #[.string s] w fun e w' => e = .returned (.func (.func 75) #[] #[.pointer (some ⟨w.heap.size, 0, none⟩)]) ∧ w' = w.alloc (.cells #[.string s] 9) := by
  go_enter Tryd.func42, Tryd.ntmps42
  go_wp2
  go_ret
  exact ⟨rfl, rfl⟩
/-- How many tokens there are. -/
theorem lex_len : ∀ (f : Nat) (l : List Int) (a : Nat), (lexF f l a).length ≤ l.length
  | 0, l, a => Nat.zero_le _
  | f + 1, l, a => by
    rw [lexF]
    by_cases h : l = []
    · rw [if_pos h]; exact Nat.zero_le _
    · rw [if_neg h, List.length_cons]
      have h1 := fst_pos h
      have h2 := lex_len f (l.drop (fst_ l).2) (a + (fst_ l).2)
      rw [List.length_drop] at h2
      omega
/-- A call hands back a row of tokens of its own. -/
def NewTs (w : World) (L : List Tk) (u : Value) (w' : World) : Prop := w'.ownsRow w.heap.size 31 3 u L.length (tks L) ∧ Below w.heap.size w w'
set_option maxRecDepth 100000 in
set_option maxHeartbeats 4000000 in
theorem ptoks_any (s : ByteArray) (hs : s.size ≤ 100000) (w : World) (hT : LexT w) :
    Calls Tryd.prog 14 #[.string s] w fun e w' => ∃ u, e = .returned u ∧ NewTs w (lex (sb s) 0) u w' := by
  obtain ⟨q, hq⟩ : ∃ q, w.heap.size = q := ⟨_, rfl⟩
  obtain ⟨W2, hW2⟩ : ∃ W2, (w.alloc (.cells #[.slice none 0 0] 26)).alloc (.cells #[.string s] 9) = W2 := ⟨_, rfl⟩
  have b2 : Below q w W2 := by rw [← hW2, ← hq]; exact ((Below.refl _ _).alloc (by omega) _).alloc (by simp) _
  have hs2 : W2.heap.size = q + 2 := by rw [← hW2]; simp; omega
  have e1 : Boxed W2 q 26 (.slice none 0 0) := by rw [← hW2, ← hq]; exact (Boxed.new w _ _).alloc _
  have e2 : Boxed W2 (q + 1) 9 (.string s) := by
    have := Boxed.new (w.alloc (.cells #[.slice none 0 0] 26)) 9 (.string s)
    rw [World.size_alloc, hq] at this
    rw [← hW2]; exact this
  have hT2 : LexT W2 := hT.below (by rw [hq]; exact b2)
  have HBL : Hid (∀ k, LexB W2 k → k < q) := Lib.hid fun k hk => by
    have h1 : LexB w k := by
      have tab : ∀ {g : Nat} {L : List (List Int)} {a : Addr} {n cap : Nat}, Tab g L w → W2.cell? ⟨g, 0, none⟩ = some (.slice (some a) n cap) → w.cell? ⟨g, 0, none⟩ = some (.slice (some a) n cap) := by
        rintro g L a n cap ⟨a', cap', Sx, h1, _, _⟩ e
        rw [(b2.cell (p := ⟨g, 0, none⟩) (by rw [← hq]; exact World.block_lt_of_cell? w ⟨g, 0, none⟩ h1))] at e
        exact e
      rcases hk with h | h | ⟨a, n, cap, e, h⟩ | ⟨a, n, cap, e, h⟩
      · exact .inl h
      · exact .inr (.inl h)
      · exact .inr (.inr (.inl ⟨a, n, cap, tab hT.kw e, h⟩))
      · exact .inr (.inr (.inr ⟨a, n, cap, tab hT.sy e, h⟩))
    rw [← hq]
    exact LexB.lt hT h1
  have HG := Lib.hid (toks_giv s (q + 1) W2 hs e2 hT2)
  have hLl := lex_len (sb s).length (sb s) 0
  rw [sb_len] at hLl
  obtain ⟨L, hL⟩ : ∃ L, lex (sb s) 0 = L := ⟨_, rfl⟩
  rw [show lexF s.size (sb s) 0 = L by rw [← hL]; unfold lex; rw [sb_len]] at hLl
  rw [hL] at HG ⊢
  have HQ := Lib.hid hq; have HB2 := Lib.hid b2; have HS2 := Lib.hid hs2; have HE1 := Lib.hid e1; have HLL := Lib.hid hLl
  have HW2 := Lib.hid hW2
  clear hT hq hW2 b2 hs2 e1 e2 hT2 hLl hL
  refine (callsIn_wide (n := 0)).1 ?_
  refine callsIn_of_wp_marks Tryd.func14 rfl trivial ?_ rfl
  simp only [Tryd.ntmps14, List.size_toArray, List.length_cons, List.length_nil, Nat.reduceAdd, Nat.reduceSub, Array.replicate_succ, Array.replicate_zero, List.push_toArray, List.append_toArray, List.nil_append, List.cons_append]
  gi_wp2_with (first | (refine ⟨trivial, rfl, ?_⟩; gi_at_call 42; refine (callsIn_wide.2 (tokens_any _ _)).mono ?_; rintro e w' ⟨rfl, rfl⟩))
  rw [HQ.out, HW2.out]
  have hmx : Tryd.prog.follows .mixedOrders = true := by kernel_rfl
  obtain ⟨i3, hi3, iy0, iy1, iy2⟩ := info_parts tinfo
  refine wpIn_giv (gf := 75) (lb := #[.pointer (some ⟨q + 1, 0, none⟩)]) rfl (enters_of Tryd.func75 (by kernel_rfl) rfl) HG.out (fun _ => rfl)
    (fun k T A => ∃ v, (∀ j, T j ↔ (j = q ∨ v.ownBlock = some j)) ∧ Boxed A q 26 v ∧ A.ownsRow (q + 1) 31 3 v k (tks (L.take k)) ∧ Below q w A ∧ q + 2 ≤ A.heap.size)
    ?hI ?hS (fun j => j = q) ?hT ?h0
    (fun k B => { tmps := #[.string s, undef, .slice none 0 0, .pointer (some ⟨q, 0, none⟩), .pointer (some ⟨B, 0, none⟩), .string s, .func (.func 75) #[] #[.pointer (some ⟨q + 1, 0, none⟩)], tkVal (tg L k), undef, undef, undef, undef, undef], defers := [] })
    (fun k => #[.int .i64 (tg L k).1, .string (tbs (tg L k).2.1), .int .i64 ((tg L k).2.2 : Int)]) 31 ?assign ?body ?done
  case hI =>
    rintro k T A C ⟨v, h1, h2, h5, h3, h4⟩ ho
    rw [HS2.out] at ho
    exact ⟨v, h1, (ho.block _ h2.lt (.inl (by omega))).trans h2, own_same h5 (fun g hg => ho.block g (h5.lt g hg).2 (.inr ((h1 g).2 (.inr hg)))), h3.trans (ho.below (by omega) (by omega)), by have := ho.size; omega⟩
  case hS =>
    rintro k T A ⟨v, h1, h2, h5, h3, h4⟩ j hj
    rcases (h1 j).1 hj with rfl | h
    · omega
    · exact (h5.lt j h).2
  case hT =>
    intro k hk
    rw [HS2.out]
    refine ⟨by omega, fun h => ?_⟩
    rcases h with h | h
    · omega
    · have := HBL.out k h; omega
  case h0 => exact ⟨.slice none 0 0, fun j => by simp [Value.ownBlock], HE1.out, World.ownsRow_nil _ _ _ _, HB2.out, by rw [HS2.out]; omega⟩
  case assign =>
    intro l' k A K hK
    simp only [tkVal] at hK ⊢
    gi_wp2
    exact hK
  case body =>
    rintro l' k T B A hk hl hlB hBk hTB hl' hTl ⟨v1, g1, g2, g6, g3, g4⟩
    rw [HS2.out] at hl
    have hxt := tks_take L k hk
    unfold tkCs at hxt
    unfold tkVal
    obtain ⟨x0, hx0⟩ : ∃ x, (tg L k).1 = x := ⟨_, rfl⟩
    obtain ⟨x1, hx1⟩ : ∃ x, tbs (tg L k).2.1 = x := ⟨_, rfl⟩
    obtain ⟨x2, hx2⟩ : ∃ x, (tg L k).2.2 = x := ⟨_, rfl⟩
    rw [hx0, hx1, hx2] at hBk hxt ⊢
    have p0 := hBk.cell 0; have p1 := hBk.cell 1; have p2 := hBk.cell 2
    simp only [List.getElem?_toArray, List.getElem?_cons_zero, List.getElem?_cons_succ] at p0 p1 p2
    obtain ⟨av, cv, rfl⟩ := own_slice g6
    have c1 := g2.cell
    have f1 := g2.frozen
    have hlk := HLL.out
    have HO6 := Lib.hid g6
    have HI3 : Hid ((∀ j, T j ↔ (j = q ∨ (Value.slice av k cv).ownBlock = some j)) ∧ Boxed A q 26 (.slice av k cv) ∧ Below q w A ∧ q + 2 ≤ A.heap.size) := ⟨g1, g2, g3, g4⟩
    have HXT := Lib.hid hxt
    have hq1 : q < A.heap.size := by omega
    have hqz : q + 1 ≤ A.heap.size := by omega
    have hnp : (Value.slice av k cv).ownBlock ≠ some q := fun e => by have := (g6.lt _ e).1; omega
    obtain ⟨W5, hW5⟩ : ∃ W, A.alloc (.cells #[.int .i64 x0, .string x1, .int .i64 (x2 : Int)] 31) = W := ⟨_, rfl⟩
    have HW5 := Lib.hid hW5
    have z5 : W5.heap.size = A.heap.size + 1 := by rw [← hW5]; simp
    have b5 : Below A.heap.size A W5 := by rw [← hW5]; exact (Below.refl _ _).alloc (Nat.le_refl _) _
    have hrow5 : Blk W5 A.heap.size 31 #[.int .i64 x0, .string x1, .int .i64 (x2 : Int)] := by rw [← hW5]; exact Blk.new _ _ _
    have HNW : Hid (∀ j u, ([.int .i64 x0, .string x1, .int .i64 (x2 : Int)] : List Value)[j]? = some u → W5.cell? ((⟨A.heap.size, 0, none⟩ : Addr).add j) = some u) := Lib.hid fun j u hj => by
      rw [show (⟨A.heap.size, 0, none⟩ : Addr).add j = ⟨A.heap.size, j, none⟩ by by_cases h0 : j = 0 <;> simp [Addr.add, h0], hrow5.cell]
      simpa using hj
    have HR5 : Hid (W5.ownsRow (q + 1) 31 3 (.slice av k cv) k (tks (L.take k))) := own_same g6 (fun g hg => b5.block g (g6.lt g hg).2)
    have c5 : W5.cell? ⟨q, 0, none⟩ = some (.slice av k cv) := (b5.cell (p := ⟨q, 0, none⟩) hq1).trans c1
    have HB5 := Lib.hid b5
    have hqz5 : q + 1 ≤ W5.heap.size := by omega
    have HG2 := Lib.hid g2
    have hone : Hid (∀ u ∈ ([.int .i64 x0, .string x1, .int .i64 (x2 : Int)] : List Value), u.oneCell' = true) := Lib.hid (by intro u hu; simp at hu; rcases hu with rfl | rfl | rfl <;> rfl)
    clear g1 g2 g3 hBk g6 hW5 b5 hrow5 hx0 hx1 hx2 hxt
    gi_wp2_with (gi_at_builtin; rw [show A.alloc (.cells #[.int .i64 x0, .string x1, .int .i64 (x2 : Int)] 31) = W5 from HW5.out]; refine wpListIn_append_own_at _ rfl _ _ 26 rfl (q + 1) 31 i3 (.agg #[.int .i64 0, .string ⟨#[]⟩, .int .i64 0]) 3 32 Tryd.underlying26 hi3 iy0 iy1 iy2 rfl (by decide) (.slice av k cv) k (tks (L.take k)) rfl HR5.out ⟨A.heap.size, 0, none⟩ 1 1 [.int .i64 x0, .string x1, .int .i64 (x2 : Int)] rfl rfl HNW.out hone.out (by unfold maxLen; omega) (by omega) hqz5 ?_; intro v6 w6 hown6 hgrow6 hnn6 hat6; obtain ⟨g7, c7, rfl⟩ := ownsRow_succ hown6; refine Hid.out ?_)
    have hat7 : (Value.slice av k cv).ownBlock = some g7 ∨ g7 = A.heap.size + 1 := by
      rcases hat6 with h | h
      · exact .inl h.symm
      · simp only [Value.ownBlock, Option.some.injEq] at h
        exact .inr (by omega)
    obtain ⟨i1, i2, i4, i5⟩ := HI3.out
    have hfin := tapp_step i1 i2 HO6.out i4 i5 HB5.out hown6 hgrow6 hat7
    have hb6 : Boxed w6 q 26 (.slice av k cv) := (hgrow6.block q (by omega) (fun e => hnp e.symm)).trans ((HB5.out.block q hq1).trans HG2.out)
    have c6 := hb6.cell
    have f6 := hb6.frozen
    have HFIN := Lib.hid hfin
    clear hfin hat6 hat7 hown6 hgrow6 hnn6 i1 i2 i4 i5 hb6 p0 p1 p2 c1 f1 c5
    refine Lib.hid ?_
    gi_wp2
    obtain ⟨T', ⟨v, k1, k2, k3, k4⟩, k5⟩ := HFIN.out
    exact ⟨T', ⟨v, k1, k2, by rw [HXT.out]; exact k3, k4⟩, k5⟩
  case done =>
    rintro T A hA ⟨v, h1, h2, h5, h3, h4⟩ hTw hK
    rw [List.take_length] at h5
    obtain ⟨av, cv, rfl⟩ := own_slice h5
    have c1 := h2.cell
    have HF : Hid (Below q w A) := h3
    have hne : (Value.slice av L.length cv).ownBlock ≠ some W2.heap.size := fun e => hTw ((h1 _).2 (.inr e))
    have HRW : Hid ((A.putObj W2.heap.size (.deferred none)).ownsRow w.heap.size 31 3 (.slice av L.length cv) L.length (tks L)) :=
      town_base (own_same h5 (fun g hg => World.putObj_heap_other (fun e => hne (by rw [hg, e])))) (by rw [HQ.out]; omega)
    rw [HS2.out] at hK
    clear h1 h2 h3 h5 hne
    gi_wp2
    refine ⟨by simp, .inl ⟨_, _, rfl, run_takeDeferred (by rw [HS2.out]; exact hK), ?_⟩⟩
    have hF : Below w.heap.size w (A.putObj W2.heap.size (.deferred none)) := by
      rw [HQ.out]
      exact HF.out.trans ⟨rfl, rfl, rfl, by simp, fun k hk => World.putObj_heap_other (by rw [HS2.out]; omega)⟩
    exact ⟨_, results_tmp (t := 2) rfl _ _ _, ⟨_, rfl, HRW.out, hF⟩⟩

end Go.Proofs.YtgfhhpodcnohpaaDoor
