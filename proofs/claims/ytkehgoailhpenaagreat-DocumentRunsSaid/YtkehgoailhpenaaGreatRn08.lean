/- Texts of one claim, put together: DCpy, DRm2, DAdv, DApl, DHld, DRcv, DNew, DOr, DCm, DHa, RDd, RDn. Each part says what it proves and under which conditions. -/
import Derived.Test.YtkehgoailhpenaaGreatRn07
import Derived.Laws.CopyRow
import Derived.Deep.RegionWith

/- copy on a row whose elements have several cells. It has no conditions. -/
namespace Go.Proofs.YtkehgoailhpenaaGreat
open Go.RowKit Go.Shelf Go.Maps
set_option linter.unusedVariables false

theorem addr_add' (b off j : Nat) : (⟨b, off, none⟩ : Addr).add j = ⟨b, off + j, none⟩ := by
  by_cases h : j = 0 <;> simp [Addr.add, h]
theorem DocI.monoW {T T1 G : Nat → Prop} {w : World} {p : Nat} {s : DS} (h : DocI T G w p s) (hT : ∀ b, T b → T1 b) (hlt : ∀ b, T1 b → b < w.heap.size) (ha : ∀ b, T1 b → ¬ G b) : DocI T1 G w p s := by
  obtain ⟨g, cp, m, D, vs, h1, h2, h3, h4, h5, h6, h7⟩ := h.mem
  exact ⟨h.ok, ⟨g, cp, m, D, vs, h1, h2, h3, h4, h5, hT g h6, hT m h7⟩, hT p h.tp, hlt, h.glt, ha⟩
theorem run_copy_cells2 {P : Program} (w : World) (dT sT ty elem : TypeId) (g o dLen dCap sz m : Nat) (a : Addr) (sLen sCap : Nat) (cur : Array Value) (t : TypeId) (cs : List Value)
    (hu : P.underlying dT = some (.slice elem)) (hs : (P.info? elem).map (·.size) = some sz)
    (hg : w.heap[g]? = some (.cells cur t (0, 0))) (hm : Nat.min sLen dLen = m) (hn : cs.length = m * sz)
    (hsrc : ∀ j v, cs[j]? = some v → w.cell? (a.add j) = some v) (hfit : o + cs.length ≤ cur.size) (h1 : ∀ v ∈ cs, v.oneCell' = true) :
    (Builtin.copy_ #[dT, sT] ty #[.slice (some ⟨g, o, none⟩) dLen dCap, .slice (some a) sLen sCap]).run P w =
      .ok (goInt m) (w.setRow g (cur.toList.take o ++ cs ++ cur.toList.drop (o + cs.length)).toArray) := by
  have hl := run_loadCells_list (P := P) w a cs hsrc
  have hst := run_storeCells_at P g o t cs 0 cur w hg (by simpa using hfit) h1
  cases hq : P.info? elem with
  | none => simp [hq] at hs
  | some i =>
    have hi : i.size = sz := by simpa [hq] using hs
    simp [Builtin.copy_, run_underlying hu, Builtin.lenOf, Builtin.firstCells, sizeOf, typeInfo, hq, hi, hm, ← hn, hl, hst]

/-- Behind the append of remember. -/
theorem rem_tail {T G : Nat → Prop} {w : World} {p g m n : Nat} {s : DS} {ss' : List (ByteArray × List Er)} {t : ByteArray} {X : Value} {D : DataW Value} {vs : List (ByteArray × Value)} (hok : DsOk ⟨s.v, ss' ++ [(t, [])], s.hs⟩) (hn : vs.length = n)
    (h1 : Blk w p 72 #[.int .i64 s.v, X, .map (some m)]) (h3 : All2 (StOk G w) vs ss') (h4 : w.ownsMap Tryz.prog 3 RH m (Maps.size D) D) (h5 : HeldOk G w D s.hs) (h6 : T g) (h7 : T m) (hTp : T p) (hlt : ∀ b, T b → b < w.heap.size) (hglt : ∀ b, G b → b < w.heap.size) (hap : ∀ b, T b → ¬ G b)
    (hgp : g ≠ p) (hmp : m ≠ p) (hmg : m ≠ g) : ∀ w6 v', w6.ownsRow 0 68 2 v' (n + 1) (svals vs ++ [.string t, .slice none 0 0]) → (w.alloc (.cells #[.string t, .slice none 0 0] 68)).grownBy w6 (some g) → (v'.ownBlock = some g ∨ v'.ownBlock = some (w.heap.size + 1)) →
      DocI (newT T w (w6.setCell ⟨p, 1, none⟩ v')) G (w6.setCell ⟨p, 1, none⟩ v') p ⟨s.v, ss' ++ [(t, [])], s.hs⟩ ∧ Only T w (w6.setCell ⟨p, 1, none⟩ v') := by
  intro w6 v' hown hg hat
  have hplt := h1.lt
  have kp : Blk w6 p 72 #[.int .i64 s.v, X, .map (some m)] := h1.same ((hg.block p (by simp; omega) (fun e => by cases e; exact hgp rfl)).trans (Below.heap_alloc w _ p hplt))
  obtain ⟨A, c6, rfl⟩ := own_slice hown
  obtain ⟨g6, c6', hv6⟩ := ownsRow_succ hown
  simp only [Value.slice.injEq, true_and] at hv6
  obtain ⟨rfl, rfl⟩ := hv6
  have hat2 : g6 = g ∨ g6 = w.heap.size + 1 := by
    rcases hat with e | e
    · exact .inl (by simpa [Value.ownBlock] using e)
    · exact .inr (by simpa [Value.ownBlock] using e)
  have hg6p : g6 ≠ p := by rcases hat2 with e | e <;> omega
  have hz6 : w.heap.size < w6.heap.size := by have := hg.size; simp at this; omega
  have hzs : (w6.setCell ⟨p, 1, none⟩ (.slice (some ⟨g6, 0, none⟩) (n + 1) c6)).heap.size = w6.heap.size := by simp [World.setCell]
  obtain ⟨w7, hw7⟩ : ∃ W, w6.setCell ⟨p, 1, none⟩ (.slice (some ⟨g6, 0, none⟩) (n + 1) c6) = W := ⟨_, rfl⟩
  have hblk : ∀ b, b ≠ p → w7.heap[b]? = w6.heap[b]? := fun b hb => by rw [← hw7]; exact Below.heap_setCell _ _ _ b (fun e => hb (by simpa using e))
  have hold : ∀ b, b < w.heap.size → b ≠ p → b ≠ g → w7.heap[b]? = w.heap[b]? := fun b hb hp hg' =>
    ((hblk b hp).trans (hg.block b (by simp; omega) (fun e => by cases e; exact hg' rfl))).trans (Below.heap_alloc w _ b hb)
  have kp7 : Blk w7 p 72 #[.int .i64 s.v, .slice (some ⟨g6, 0, none⟩) (n + 1) c6, .map (some m)] := by
    have := kp.set 1 (.slice (some ⟨g6, 0, none⟩) (n + 1) c6)
    rw [hw7] at this
    simpa using this
  rw [hw7] at hzs ⊢
  have hg6lt : g6 < w6.heap.size := (row_lt hown).2
  have hGne : ∀ b, G b → b ≠ p ∧ b ≠ g := fun b hb => ⟨fun e => hap p hTp (e ▸ hb), fun e => hap g h6 (e ▸ hb)⟩
  have hGk : ∀ b, G b → b < w.heap.size → w7.heap[b]? = w.heap[b]? := fun b hb hlt => hold b hlt (hGne b hb).1 (hGne b hb).2
  have hmk : w7.heap[m]? = w.heap[m]? := hold m (hlt m h7) hmp hmg
  have hvl : (vs ++ [(t, Value.slice none 0 0)]).length = n + 1 := by rw [List.length_append, hn]; rfl
  refine ⟨⟨hok, ⟨g6, c6, m, D, vs ++ [(t, .slice none 0 0)], ?_, ?_, ?_, ownsMap_same h4 hmk, h5.keep (by omega) hGk (fun _ h => h), ?_, .inl h7⟩, .inl hTp, ?_, ?_, ?_⟩, ?_⟩
  · rw [hvl]; exact kp7
  · rw [hvl, svals_app]; exact own_same hown (fun j hj => by cases hj; exact hblk g6 hg6p)
  · exact (h3.mono (fun x y hxy => ⟨hxy.1, hxy.2.keep (by omega) hGk (fun _ h => h)⟩)).app (.cons ⟨rfl, EsG.none _ _⟩ .nil)
  · rcases hat2 with e | e
    · exact .inl (e ▸ h6)
    · exact .inr ⟨by omega, by omega⟩
  · intro b hb
    rcases hb with hb | hb
    · have := hlt b hb; omega
    · exact hb.2
  · intro b hb; have := hglt b hb; omega
  · intro b hb hG
    rcases hb with hb | hb
    · exact hap b hb hG
    · have := hglt b hG; omega
  · refine ⟨?_, ?_, ?_, by omega, fun k hk hT => hold k hk (fun e => hT (e ▸ hTp)) (fun e => hT (e ▸ h6))⟩
    · rw [← hw7]; exact hg.os
    · rw [← hw7]; exact hg.tape
    · rw [← hw7]; exact hg.output

set_option maxRecDepth 100000 in
set_option maxHeartbeats 4000000 in
/-- remember, where 17 states are remembered: the oldest one is forgotten. -/
theorem remember17_any (T G : Nat → Prop) (p : Nat) (s : DS) (t : ByteArray) (w : World) (h : DocI T G w p s) (hl : s.ss.length = 17) (ht : t.size ≤ 4096) :
    Calls Tryz.prog 64 #[.pointer (some ⟨p, 0, none⟩), .string t] w fun e w' => (∃ rv, e = .returned rv) ∧ DocI (newT T w w') G w' p ⟨s.v, s.ss.drop 1 ++ [(t, [])], s.hs⟩ ∧ Only T w w' := by
  obtain ⟨i3, hi3, jy0, jy1, jy2⟩ := info_parts infoSt
  obtain ⟨g, cap, m, D, vs, h1, h2, h3, h4, h5, h6, h7⟩ := h.mem
  have hlen := h3.len
  have hn : vs.length = 17 := by omega
  obtain ⟨cur, hg, hcap, hmx, hcs, htk⟩ : ∃ cur : Array Value, w.heap[g]? = some (.cells cur 68 (0, 0)) ∧ 17 ≤ cap ∧ cap ≤ maxLen ∧ cur.size = cap * 2 ∧ cur.toList.take 34 = svals vs := by
    rcases h2.2 with ⟨hv, _⟩ | ⟨g', cp, cur, hv, _, k1, k2, k3, k4, k5⟩
    · simp at hv
    · simp only [Value.slice.injEq, Option.some.injEq, Addr.mk.injEq] at hv
      obtain ⟨⟨rfl, _⟩, _, rfl⟩ := hv
      rw [hn] at k2 k5
      exact ⟨cur, k1, k2, k3, k4, k5⟩
  have hgp : g ≠ p := by
    rintro rfl
    unfold Blk at h1
    rw [hg] at h1
    simp at h1
  have hmp : m ≠ p := by
    rintro rfl
    obtain ⟨es', clock, q1, _⟩ := h4
    unfold Blk at h1
    rw [q1] at h1
    simp at h1
  have hmg : m ≠ g := by
    rintro rfl
    obtain ⟨es', clock, q1, _⟩ := h4
    rw [q1] at hg
    simp at hg
  rw [hn] at h1 h2
  obtain ⟨vs', hvs'⟩ : ∃ l, vs.drop 1 = l := ⟨_, rfl⟩
  have hl16 : vs'.length = 16 := by rw [← hvs', List.length_drop]; omega
  have hsv : svals vs' = (svals vs).drop 2 := by
    rw [← hvs']
    cases vs with
    | nil => simp at hn
    | cons x l => rfl
  have hcl : (svals vs').length = 16 * 2 := by rw [svals_len, hl16]
  have hsrc : ∀ j v, (svals vs')[j]? = some v → w.cell? ((⟨g, 2, none⟩ : Addr).add j) = some v := by
    intro j v hj
    have hj2 : j < 32 := by have := (List.getElem?_eq_some_iff.1 hj).1; omega
    rw [addr_add', h2.cellAt (2 + j) (by omega), ← hj, hsv, List.getElem?_drop]
  have hone : ∀ v ∈ svals vs', v.oneCell' = true := by
    intro v hv
    rw [hsv] at hv
    have hv2 := List.mem_of_mem_drop hv
    obtain ⟨x, hx, hxv⟩ := List.mem_flatMap.1 hv2
    simp only [List.mem_cons, List.not_mem_nil, or_false] at hxv
    rcases hxv with rfl | rfl
    · rfl
    · obtain ⟨k, hk, rfl⟩ := List.mem_iff_getElem.1 hx
      obtain ⟨a, c, he, _⟩ := (h3.at_ k hk (by omega)).2
      rw [he]; rfl
  obtain ⟨X, hX⟩ : ∃ X, (cur.toList.take 0 ++ svals vs' ++ cur.toList.drop (0 + (svals vs').length)).toArray = X := ⟨_, rfl⟩
  have hcopy : ∀ V : World, V.heap[g]? = w.heap[g]? → (Builtin.copy_ #[69, 69] 3 #[.slice (some ⟨g, 0, none⟩) 17 cap, .slice (some ⟨g, 2, none⟩) 16 (cap - 1)]).run Tryz.prog V = .ok (.int .i64 16) (V.setRow g X) := fun V hV => by
    have hsrcV : ∀ j v, (svals vs')[j]? = some v → V.cell? ((⟨g, 2, none⟩ : Addr).add j) = some v := fun j v hj => by
      rw [← hsrc j v hj, addr_add']
      simp only [World.cell?, hV]
    have := run_copy_cells2 V 69 69 3 68 g 0 17 cap 2 16 ⟨g, 2, none⟩ 16 (cap - 1) cur 68 (svals vs') Tryz.underlying69 (by rw [hi3]; simp [jy1]) (hV.trans hg) rfl hcl hsrcV (by rw [hcl, hcs]; omega) hone
    rw [hX] at this
    exact this
  have c1 := h1.cell 1
  simp only [List.getElem?_toArray, List.getElem?_cons_zero, List.getElem?_cons_succ] at c1
  obtain ⟨W1, hW1⟩ : ∃ W, (w.drew).setRow g X = W := ⟨_, rfl⟩
  have hXs : X.size = cap * 2 := by
    rw [← hX]
    simp only [List.size_toArray, List.length_append, List.length_take, List.length_drop, hcl, Array.length_toList, hcs]
    omega
  have hgW : W1.heap[g]? = some (.cells X 68 (0, 0)) := by rw [← hW1]; exact setRow_heap _ g cur X _ _ hg
  have hoW : ∀ b, b ≠ g → W1.heap[b]? = w.heap[b]? := fun b hb => by rw [← hW1]; exact setRow_other _ g b X hb
  have hzW : W1.heap.size = w.heap.size := by rw [← hW1]; simp
  have row : W1.ownsRow 0 68 2 (.slice (some ⟨g, 0, none⟩) 16 cap) 16 (svals vs') := by
    refine ⟨hcl, .inr ⟨g, cap, X, rfl, Nat.zero_le _, hgW, by omega, hmx, hXs, ?_⟩⟩
    rw [← hX]
    simp only [List.take_zero, List.nil_append]
    rw [List.take_append_of_le_length (by rw [hcl]; omega), List.take_of_length_le (by rw [hcl]; omega)]
  have k1 : Blk W1 p 72 #[.int .i64 s.v, .slice (some ⟨g, 0, none⟩) 17 cap, .map (some m)] := h1.same (hoW p (fun e => hgp e.symm))
  have hGk : ∀ b, G b → b < w.heap.size → W1.heap[b]? = w.heap[b]? := fun b hb _ => hoW b (fun e => h.apart g h6 (e ▸ hb))
  have k3 : All2 (StOk G W1) vs' (s.ss.drop 1) := by
    rw [← hvs']
    exact (h3.drop 1).mono (fun x y hxy => ⟨hxy.1, hxy.2.keep (by omega) hGk (fun _ h => h)⟩)
  have hok : DsOk ⟨s.v, s.ss.drop 1 ++ [(t, [])], s.hs⟩ := by
    refine ⟨h.ok.v0, h.ok.v1, by simp, by simp only [List.length_append, List.length_drop, List.length_cons, List.length_nil]; omega, ?_, ?_, h.ok.hlen, h.ok.held, h.ok.hk⟩
    · intro x hx
      rcases List.mem_append.1 hx with hx | hx
      · exact h.ok.text x (List.mem_of_mem_drop hx)
      · simp only [List.mem_singleton] at hx; subst hx; exact ht
    · intro x hx
      rcases List.mem_append.1 hx with hx | hx
      · exact h.ok.eds x (List.mem_of_mem_drop hx)
      · simp only [List.mem_singleton] at hx; subst hx; exact ⟨Nat.zero_le _, fun e he => by simp at he⟩
  have HFIN := Lib.hid (rem_tail (w := W1) (X := .slice (some ⟨g, 0, none⟩) 17 cap) hok hl16 k1 k3 (ownsMap_same h4 (hoW m hmg)) (h5.keep (by omega) hGk (fun _ h => h)) h6 h7 h.tp (fun b hb => by have := h.lt b hb; omega) (fun b hb => by have := h.glt b hb; omega) h.apart hgp hmp hmg)
  have HKP : Hid (∀ w6, (W1.alloc (.cells #[.string t, .slice none 0 0] 68)).grownBy w6 (some g) → Blk w6 p 72 #[.int .i64 s.v, .slice (some ⟨g, 0, none⟩) 17 cap, .map (some m)]) := fun w6 hg6 =>
    k1.same ((hg6.block p (by have := k1.lt; simp; omega) (fun e => by cases e; exact hgp rfl)).trans (Below.heap_alloc W1 _ p k1.lt))
  have HO := Lib.hid row
  have e1 := k1.cell 1
  simp only [List.getElem?_toArray, List.getElem?_cons_zero, List.getElem?_cons_succ] at e1
  have HON : Hid (Only T w W1) := ⟨by rw [← hW1]; rfl, by rw [← hW1]; rfl, by rw [← hW1]; rfl, by omega, fun k _ hT => hoW k (fun e => hT (e ▸ h6))⟩
  have HLT : Hid (∀ b, T b → b < w.heap.size) := h.lt
  have HZW := Lib.hid hzW
  have hcp := hcopy w.drew rfl
  rw [hW1] at hcp
  have hcap2 : (1 : Int) ≤ 17 := by omega
  have hcap3 : (16 : Int) ≤ (cap : Int) := by omega
  have hcap4 : (17 : Int) ≤ (cap : Int) := by omega
  have hcap5 : cap ≤ 9223372036854775807 := by unfold maxLen at hmx; omega
  have HW1 := Lib.hid hW1
  clear h h1 h2 h3 h4 h5 h6 h7 hlen hn hg hcs htk hgp hmp hmg hvs' hl16 hsv hcl hsrc hone hX hcopy hXs hgW hoW hzW row k1 hGk k3 hok hmx hW1
  go_enter Tryz.func64, Tryz.ntmps64
  go_wp2_with fail
  go_region
  go_wp2_with (at_builtin; refine wpList_append_own_at _ rfl _ _ 69 rfl 0 68 i3 (.agg #[.string ⟨#[]⟩, .slice none 0 0]) 2 40 Tryz.underlying69 hi3 jy0 jy1 jy2 rfl (by decide) (.slice (some ⟨g, 0, none⟩) 16 cap) 16 (svals vs') rfl (HO.out.alloc _) ⟨_, 0, none⟩ 1 1 [.string t, .slice none 0 0] rfl rfl (cells_newb _ [.string t, .slice none 0 0] _ _ (by simp; try omega)) (fun x hx => by simp at hx; rcases hx with rfl | rfl <;> rfl) (by unfold maxLen; omega) (by omega) (Nat.zero_le _) ?_; intro v' w6 hown6 hgrow6 _ hat6; obtain ⟨ao, co, rfl⟩ := own_slice hown6; have hk6 := HKP.out w6 hgrow6; have c8 : w6.cell? ⟨p, 1, none⟩ = some (.slice (some ⟨g, 0, none⟩) 17 cap) := (by simpa using hk6.cell 1); have f8 := hk6.frozen 1)
  have hF := HFIN.out w6 (.slice ao (16 + 1) co) hown6 hgrow6 (by simpa [Value.ownBlock] using hat6)
  refine bodyPost_end (results_none rfl _ _ _) rfl ?_
  have hz := HZW.out
  refine ⟨⟨_, rfl⟩, hF.1.monoW (fun b hb => ?_) (fun b hb => ?_) (fun b hb hG => ?_), HON.out.trans hF.2⟩
  · rcases hb with hb | hb
    · exact .inl hb
    · exact .inr ⟨by omega, hb.2⟩
  · rcases hb with hb | hb
    · exact hF.1.lt b (.inl hb)
    · exact hb.2
  · rcases hb with hb | hb
    · exact hF.1.apart b (.inl hb) hG
    · exact hF.1.apart b (.inr ⟨by omega, hb.2⟩) hG

end Go.Proofs.YtkehgoailhpenaaGreat

/- The contract of remember, for every document: past sixteen states the oldest is forgotten. -/
namespace Go.Proofs.YtkehgoailhpenaaGreat
open Go.RowKit Go.Shelf Go.Maps
set_option linter.unusedVariables false

/-- The states after one more is remembered. -/
def remS (ss : List (ByteArray × List Er)) (t : ByteArray) : List (ByteArray × List Er) := (if 16 < ss.length then ss.drop 1 else ss) ++ [(t, [])]
theorem remS_len (ss : List (ByteArray × List Er)) (t : ByteArray) : (remS ss t).length = (if 16 < ss.length then ss.length else ss.length + 1) := by
  unfold remS; split <;> simp <;> omega
theorem remS_text (ss : List (ByteArray × List Er)) (t : ByteArray) : (remS ss t).getLast? = some (t, []) := by
  unfold remS; simp

theorem remember_all (T G : Nat → Prop) (p : Nat) (s : DS) (t : ByteArray) (w : World) (h : DocI T G w p s) (ht : t.size ≤ 4096) :
    Calls Tryz.prog 64 #[.pointer (some ⟨p, 0, none⟩), .string t] w fun e w' => (∃ rv, e = .returned rv) ∧ DocI (newT T w w') G w' p ⟨s.v, remS s.ss t, s.hs⟩ ∧ Only T w w' := by
  by_cases hl : s.ss.length ≤ 16
  · have := remember_any T G p s t w h hl ht
    unfold remS
    rw [if_neg (by omega)]
    exact this
  · have h17 := h.ok.len
    have := remember17_any T G p s t w h (by omega) ht
    unfold remS
    rw [if_pos (by omega)]
    exact this

end Go.Proofs.YtkehgoailhpenaaGreat

/- The contract of advance. It has no condition on how many states are remembered. -/
namespace Go.Proofs.YtkehgoailhpenaaGreat
open Go.RowKit Go.Shelf Go.Maps
set_option linter.unusedVariables false

/-- The error of making the next version, and the next state. -/
def advE (s : DS) (es : List Er) : Int := if vErr (s.text.size : Int) es = 0 then (if 4096 < (apS s.text es).size then 4 else 0) else vErr (s.text.size : Int) es
def midS (s : DS) (es : List Er) : DS := ⟨s.v + 1, s.ss.set (s.ss.length - 1) (s.text, es), s.hs⟩
def advS (s : DS) (es : List Er) : DS := ⟨s.v + 1, remS (s.ss.set (s.ss.length - 1) (s.text, es)) (apS s.text es), s.hs⟩
/-- The list's block joins the lists' blocks. -/
def addG (G : Nat → Prop) (n : Nat) (a : Option Addr) (b : Nat) : Prop := G b ∨ (n ≠ 0 ∧ blkOf a b)

theorem DocI.mid {T G : Nat → Prop} {w : World} {p : Nat} {s : DS} (h : DocI T G w p s) (hv : s.v + 1 ≤ 1099511627776) {a : Option Addr} {cap : Nat} {es : List Er} (hE : ES w.heap.size w a cap es) (hl : es.length ≤ 64) (hf : ∀ e ∈ es, e.Fit) (hT : ∀ b, blkOf a b → ¬ T b) :
    ∃ g cp n u, n + 1 = s.ss.length ∧ n + 1 ≤ cp ∧ T g ∧ g ≠ p ∧ w.cell? ⟨p, 0, none⟩ = some (.int .i64 s.v) ∧ w.cell? ⟨p, 1, none⟩ = some (.slice (some ⟨g, 0, none⟩) (n + 1) cp) ∧ w.cell? ⟨g, n * 2 + 1, none⟩ = some u ∧ w.frozen? ⟨g, n * 2 + 1, none⟩ = false ∧ w.frozen? ⟨p, 0, none⟩ = false ∧ g < w.heap.size ∧ p < w.heap.size ∧
      DocI T (addG G es.length a) ((w.setCell ⟨g, n * 2 + 1, none⟩ (.slice a es.length cap)).setCell ⟨p, 0, none⟩ (.int .i64 (s.v + 1))) p (midS s es) := by
  obtain ⟨g, cp, m, D, vs, h1, h2, h3, h4, h5, h6, h7⟩ := h.mem
  have hlen := h3.len
  have hpos : 0 < s.ss.length := List.length_pos_iff.2 h.ok.ne
  obtain ⟨n, hn⟩ : ∃ n, n + 1 = s.ss.length := ⟨s.ss.length - 1, by omega⟩
  have hvl : vs.length = n + 1 := by omega
  have hcap : n + 1 ≤ cp := by
    rcases h2.2 with ⟨hv, _⟩ | ⟨g', cp', cur, hv, _, _, k1, _⟩
    · simp at hv
    · simp only [Value.slice.injEq] at hv; omega
  have hgp : g ≠ p := by
    rintro rfl
    rcases h2.2 with ⟨hv, _⟩ | ⟨g', cp', cur, hv, _, hg, _⟩
    · simp at hv
    · simp only [Value.slice.injEq, Option.some.injEq, Addr.mk.injEq] at hv
      obtain ⟨⟨rfl, _⟩, _⟩ := hv
      unfold Blk at h1
      rw [hg] at h1
      simp at h1
  have hmp : m ≠ p := by
    rintro rfl
    obtain ⟨es', clock, k1, _⟩ := h4
    unfold Blk at h1
    rw [k1] at h1
    simp at h1
  have hmg : m ≠ g := by
    rintro rfl
    obtain ⟨es', clock, k1, _⟩ := h4
    rcases h2.2 with ⟨hv, _⟩ | ⟨g', cp', cur, hv, _, hg, _⟩
    · simp at hv
    · simp only [Value.slice.injEq, Option.some.injEq, Addr.mk.injEq] at hv
      obtain ⟨⟨rfl, _⟩, _⟩ := hv
      rw [k1] at hg
      simp at hg
  rw [hvl] at h1 h2
  have c0 := h1.cell 0
  have c1 := h1.cell 1
  simp only [List.getElem?_toArray, List.getElem?_cons_zero, List.getElem?_cons_succ] at c0 c1
  have d1 := h2.cellAt (n * 2 + 1) (by omega)
  rw [(svals_get vs n (by omega)).2] at d1
  have hglt := h.lt g h6
  obtain ⟨W1, hW1⟩ : ∃ W, w.setCell ⟨g, n * 2 + 1, none⟩ (.slice a es.length cap) = W := ⟨_, rfl⟩
  obtain ⟨W2, hW2⟩ : ∃ W, W1.setCell ⟨p, 0, none⟩ (.int .i64 (s.v + 1)) = W := ⟨_, rfl⟩
  have hz1 : W1.heap.size = w.heap.size := by rw [← hW1]; simp [World.setCell]
  have hz2 : W2.heap.size = w.heap.size := by rw [← hW2]; simp [World.setCell]; exact hz1
  have k1 : ∀ b, b ≠ g → W1.heap[b]? = w.heap[b]? := fun b hb => by rw [← hW1]; exact Below.heap_setCell _ _ _ b (fun e => hb (by simpa using e))
  have k2 : ∀ b, b ≠ p → W2.heap[b]? = W1.heap[b]? := fun b hb => by rw [← hW2]; exact Below.heap_setCell _ _ _ b (fun e => hb (by simpa using e))
  have k3 : ∀ b, b ≠ p → b ≠ g → W2.heap[b]? = w.heap[b]? := fun b hp hg => (k2 b hp).trans (k1 b hg)
  have hTp := h.tp
  have hGk : ∀ b, G b → b < w.heap.size → W2.heap[b]? = w.heap[b]? := fun b hb _ => k3 b (fun e => h.apart p hTp (e ▸ hb)) (fun e => h.apart g h6 (e ▸ hb))
  have bp : Blk W2 p 72 #[.int .i64 (s.v + 1), .slice (some ⟨g, 0, none⟩) (n + 1) cp, .map (some m)] := by
    have := (h1.same (k1 p (fun e => hgp e.symm))).set 0 (.int .i64 (s.v + 1))
    rw [hW2] at this
    simpa using this
  have ro : W2.ownsRow 0 68 2 (.slice (some ⟨g, 0, none⟩) (n + 1) cp) (n + 1) (svals (vs.set n ((vs[n]'(by omega)).1, .slice a es.length cap))) := by
    have := (h2.stored (n * 2 + 1) (.slice a es.length cap)).1
    rw [hW1, svals_set1 vs n (by omega)] at this
    exact own_same this (fun j hj => by cases hj; exact k2 g hgp)
  have htx : (vs[n]'(by omega)).1 = s.text := by
    have := (h3.at_ n (by omega) (by omega)).1
    rw [this]
    unfold DS.text
    rw [List.getLast?_eq_getElem?, show s.ss.length - 1 = n by omega, List.getElem?_eq_getElem (by omega)]
    rfl
  have htz : s.text.size ≤ 4096 := by
    have := h.ok.text (s.ss[n]'(by omega)) (List.getElem_mem _)
    have h9 := (h3.at_ n (by omega) (by omega)).1
    rw [← htx, h9]; exact this
  refine ⟨g, cp, n, (vs[n]'(by omega)).2, hn, hcap, h6, hgp, c0, c1, d1, h2.frozenAt (n * 2 + 1), h1.frozen 0, hglt, h1.lt, ?_⟩
  rw [hW1, hW2]
  have hsl : (s.ss.set (s.ss.length - 1) (s.text, es)).length = s.ss.length := List.length_set
  refine ⟨⟨by show 0 ≤ s.v + 1; have := h.ok.v0; omega, hv, fun e => ?_, by show (s.ss.set _ _).length ≤ 17; rw [hsl]; exact h.ok.len, ?_, ?_, h.ok.hlen, h.ok.held, h.ok.hk⟩, ⟨g, cp, m, D, vs.set n ((vs[n]'(by omega)).1, .slice a es.length cap), ?_, ?_, ?_, ownsMap_same h4 (k3 m hmp hmg), h5.keep (by omega) hGk (fun _ h => .inl h), h6, h7⟩, hTp, ?_, ?_, ?_⟩
  · have : (s.ss.set (s.ss.length - 1) (s.text, es)).length = 0 := by
      have e' : s.ss.set (s.ss.length - 1) (s.text, es) = [] := e
      rw [e']; rfl
    rw [hsl] at this; omega
  · intro x hx
    rcases List.mem_or_eq_of_mem_set hx with hx | rfl
    · exact h.ok.text x hx
    · exact htz
  · intro x hx
    rcases List.mem_or_eq_of_mem_set hx with hx | rfl
    · exact h.ok.eds x hx
    · exact ⟨hl, hf⟩
  · rw [show (vs.set n ((vs[n]'(by omega)).1, Value.slice a es.length cap)).length = n + 1 by rw [List.length_set]; exact hvl]; exact bp
  · rw [show (vs.set n ((vs[n]'(by omega)).1, Value.slice a es.length cap)).length = n + 1 by rw [List.length_set]; exact hvl]; exact ro
  · show All2 _ _ (s.ss.set (s.ss.length - 1) (s.text, es))
    rw [show s.ss.length - 1 = n by omega]
    refine (h3.mono (fun x y hxy => ⟨hxy.1, hxy.2.keep (G' := addG G es.length a) (by omega) hGk (fun _ h => .inl h)⟩)).set (b := (s.text, es)) ?_ n
    refine ⟨htx, ?_⟩
    exact (EsG.of (G := fun b => es.length ≠ 0 ∧ blkOf a b) hE (fun h1 b h2 => ⟨h1, h2⟩)).keep (by omega) (fun b hb _ => k3 b (fun e => hT b hb.2 (e ▸ hTp)) (fun e => hT b hb.2 (e ▸ h6))) (fun b hb => .inr hb)
  · intro b hb; have := h.lt b hb; omega
  · intro b hb
    rcases hb with hb | hb
    · have := h.glt b hb; omega
    · have := es_lt hE hb.1 hb.2; omega
  · intro b hb hG
    rcases hG with hG | hG
    · exact h.apart b hb hG
    · exact hT b hG.2 hb

theorem DocI.monoT {T T1 G : Nat → Prop} {w : World} {p : Nat} {s : DS} (h : DocI T G w p s) (hT : ∀ b, T b → T1 b) (hlt : ∀ b, T1 b → b < w.heap.size) (ha : ∀ b, T1 b → ¬ G b) : DocI T1 G w p s := by
  obtain ⟨g, cp, m, D, vs, h1, h2, h3, h4, h5, h6, h7⟩ := h.mem
  exact ⟨h.ok, ⟨g, cp, m, D, vs, h1, h2, h3, h4, h5, hT g h6, hT m h7⟩, hT p h.tp, hlt, h.glt, ha⟩
theorem vErr_len {n : Int} {es : List Er} (h : vErr n es = 0) : es.length ≤ 64 := by
  unfold vErr at h
  split at h <;> omega

set_option maxRecDepth 100000 in
set_option maxHeartbeats 4000000 in
theorem advance_any (T G : Nat → Prop) (p : Nat) (s : DS) (w : World) (h : DocI T G w p s) (hv : s.v + 1 ≤ 1099511627776) (a : Option Addr) (cap : Nat) (es : List Er) (hE : ES w.heap.size w a cap es) (hn : es.length ≤ 1000) (hf : ∀ e ∈ es, e.Fit) (hT : ∀ b, blkOf a b → ¬ T b) :
    Calls Tryz.prog 37 #[.pointer (some ⟨p, 0, none⟩), .slice a es.length cap] w fun e w' => e = .returned (.int .i64 (advE s es)) ∧
      ((advE s es ≠ 0 ∧ Below w.heap.size w w') ∨ (advE s es = 0 ∧ DocI (newT T w w') (addG G es.length a) w' p (advS s es) ∧ Only T w w')) := by
  have hl := h.ok.len
  have htx : s.text.size ≤ 4096 := by
    obtain ⟨x, hx, hxt⟩ : ∃ x ∈ s.ss, x.1 = s.text := by
      refine ⟨s.ss.getLast h.ok.ne, List.getLast_mem _, ?_⟩
      unfold DS.text
      rw [List.getLast?_eq_some_getLast h.ok.ne]; rfl
    rw [← hxt]; exact h.ok.text x hx
  have CT := text_any T G p s w h
  obtain ⟨t, ht⟩ : ∃ t, s.text = t := ⟨_, rfl⟩
  have CA := fun W (hW : Below w.heap.size w W) => papply_any t a cap es W (by rw [← ht]; omega) hn hf (hE.on hW)
  obtain ⟨n, hn'⟩ : ∃ n, es.length = n := ⟨_, rfl⟩
  simp only [hn'] at CA
  rw [ht] at CT htx
  obtain ⟨R, hR⟩ : ∃ R, advE s es = R := ⟨_, rfl⟩
  have hRE : R = if vErr (t.size : Int) es = 0 then (if 4096 < (apS t es).size then 4 else 0) else vErr (t.size : Int) es := by rw [← hR, ← ht]; rfl
  obtain ⟨u, hu⟩ : ∃ u, apS t es = u := ⟨_, rfl⟩
  rw [hR, hn']
  rw [hu] at hRE
  simp only [hu] at CA
  have HCT := Lib.hid CT
  by_cases hv1 : vErr (t.size : Int) es = 0
  · rw [if_pos hv1] at hRE
    simp only [hv1] at CA
    have HCA := Lib.hid CA
    by_cases hbig : 4096 < u.size
    · rw [if_pos hbig] at hRE; subst hRE
      have hb2 : (4096 : Int) < (u.size : Int) := by omega
      clear CT CA h hE hf hT hR hv1 ht hu hn'
      go_enter Tryz.func37, Tryz.ntmps37
      go_wp2_with fail
      refine HCT.out.mono ?_
      rintro e w1 ⟨rfl, b1⟩
      have B1 := Lib.hid b1
      clear b1
      go_wp2_with fail
      refine (HCA.out _ B1.out).mono ?_
      rintro e w2 ⟨rfl, b2⟩
      have B2 := Lib.hid (B1.out.trans (b2.mono B1.out.size))
      clear b2
      go_wp2_with fail
      go_ret
      exact ⟨rfl, .inl ⟨by decide, B2.out⟩⟩
    · rw [if_neg hbig] at hRE; subst hRE
      have hb2 : ¬ (4096 : Int) < (u.size : Int) := by omega
      have hl64 := vErr_len hv1
      have HM : Hid (∀ W, Below w.heap.size w W → _) := Lib.hid (fun W (hW : Below w.heap.size w W) => DocI.mid (h.below hW) hv (hE.on hW) hl64 hf hT)
      have HS : Hid (advS s es = ⟨(midS s es).v, remS (midS s es).ss u, (midS s es).hs⟩) := by show advS s es = _; rw [← hu, ← ht]; rfl
      have hml : (midS s es).ss.length ≤ 17 := by show (s.ss.set _ _).length ≤ 17; rw [List.length_set]; exact hl
      obtain ⟨v, hvv⟩ : ∃ v, s.v = v := ⟨_, rfl⟩
      have hv0 := h.ok.v0
      have hml2 := Lib.hid hml
      have HGL : Hid (∀ b, addG G n a b → b < w.heap.size) := fun b hb => by
        rcases hb with hb | hb
        · exact h.glt b hb
        · exact es_lt hE (by rw [hn']; exact hb.1) hb.2
      rw [hvv] at hv hv0
      simp only [hvv, hn'] at HM
      clear CT CA h hE hf hT hR hv1 ht hu hn' hl64 hml hvv
      go_enter Tryz.func37, Tryz.ntmps37
      go_wp2_with fail
      refine HCT.out.mono ?_
      rintro e w1 ⟨rfl, b1⟩
      have B1 := Lib.hid b1
      clear b1
      go_wp2_with fail
      refine (HCA.out _ B1.out).mono ?_
      rintro e w2 ⟨rfl, b2⟩
      have B2 := Lib.hid (B1.out.trans (b2.mono B1.out.size))
      clear b2
      obtain ⟨g, cp, j, uo, m1, m2, m3, m4, m5, m6, m7, m8, m9, m10, m11, m12⟩ := HM.out w2.drew B2.out.drew
      obtain ⟨N, hN⟩ : ∃ N, j + 1 = N := ⟨_, rfl⟩
      rw [hN] at m1 m2 m6
      have hml3 := hml2.out
      have hNl : N ≤ 17 := by have : (midS s es).ss.length = s.ss.length := by { show (s.ss.set _ _).length = _; rw [List.length_set] }; omega
      have hj1 : IntKind.i64.wrap ((N : Int) - 1) = (j : Int) := by simp [IntKind.wrap, IntKind.signed, IntKind.bits]; omega
      have hj2 : (j : Int) < (N : Int) := by omega
      have hvw : IntKind.i64.wrap (v + 1) = v + 1 := by simp [IntKind.wrap, IntKind.signed, IntKind.bits]; omega
      have c0 : w2.cell? ⟨p, 0, none⟩ = some (.int .i64 v) := m5
      have c1 : w2.cell? ⟨p, 1, none⟩ = some (.slice (some ⟨g, 0, none⟩) N cp) := m6
      obtain ⟨W1, hW1⟩ : ∃ W, (w2.setCell ⟨g, j * 2 + 1, none⟩ (.slice a n cap)).drew = W := ⟨_, rfl⟩
      have c2 : W1.cell? ⟨p, 0, none⟩ = some (.int .i64 v) := by
        rw [← c0, ← hW1]; show (w2.setCell _ _).cell? _ = _; simp only [World.cell?]; rw [Below.heap_setCell _ _ _ p (fun e => m4 (by simpa using e.symm))]
      have f2 : W1.frozen? ⟨p, 0, none⟩ = false := by
        rw [← m9, ← hW1]; show (w2.setCell _ _).frozen? _ = w2.frozen? _; simp only [World.frozen?]; rw [Below.heap_setCell _ _ _ p (fun e => m4 (by simpa using e.symm))]
      have hzW : (W1.setCell ⟨p, 0, none⟩ (.int .i64 (v + 1))).heap.size = w2.heap.size := by rw [← hW1]; simp [World.setCell]
      have HD : Hid (DocI T (addG G n a) (W1.setCell ⟨p, 0, none⟩ (.int .i64 (v + 1))) p (midS s es)) := by rw [← hW1]; exact m12
      have HON : Hid (Only T w (W1.setCell ⟨p, 0, none⟩ (.int .i64 (v + 1)))) := by
        rw [← hW1]
        exact (((Only.of_below B2.out).drew).setCell (p := ⟨g, j * 2 + 1, none⟩) (.inr m3) _).setCell (p := ⟨p, 0, none⟩) (.inr m12.tp) _
      have HW1 := Lib.hid hW1
      have HB2 := B2
      clear m1 m3 m5 m6 m10 m11 m12 hW1 HM
      go_wp2_with fail
      go_region
      rw [HW1.out]
      go_wp2_with fail
      refine (remember_all T (addG G n a) p (midS s es) u _ HD.out (by omega)).mono ?_
      rintro e w5 ⟨⟨rv, rfl⟩, hd5, ho5⟩
      have HD5 := Lib.hid hd5; have HO5 := Lib.hid ho5
      clear hd5 ho5
      go_wp2_with fail
      go_ret
      refine ⟨rfl, .inr ⟨trivial, ?_, HON.out.trans HO5.out⟩⟩
      rw [HS.out]
      have hzz : w.heap.size ≤ w2.heap.size := B2.out.size
      have hz5 := HO5.out.size
      have d := HD5.out
      refine d.monoT (fun b hb => ?_) (fun b hb => ?_) (fun b hb hG => ?_)
      · rcases hb with hb | hb
        · exact .inl hb
        · exact .inr ⟨by omega, hb.2⟩
      · rcases hb with hb | hb
        · exact d.lt b (.inl hb)
        · exact hb.2
      · rcases hb with hb | hb
        · exact d.apart b (.inl hb) hG
        · have := HGL.out b hG; omega
  · rw [if_neg hv1] at hRE; subst hRE
    generalize vErr (t.size : Int) es = er at CA hv1 ⊢
    have HCA := Lib.hid CA
    have hq : (er != 0) = true := by simp [hv1]
    have HV := Lib.hid hv1
    clear CT CA h hE hf hT hR hv1 ht hu hn'
    go_enter Tryz.func37, Tryz.ntmps37
    go_wp2_with fail
    refine HCT.out.mono ?_
    rintro e w1 ⟨rfl, b1⟩
    have B1 := Lib.hid b1
    clear b1
    go_wp2_with fail
    refine (HCA.out _ B1.out).mono ?_
    rintro e w2 ⟨rfl, b2⟩
    have B2 := Lib.hid (B1.out.trans (b2.mono B1.out.size))
    clear b2
    go_wp2_with fail
    go_ret
    exact ⟨rfl, .inl ⟨HV.out, B2.out⟩⟩

end Go.Proofs.YtkehgoailhpenaaGreat

/- The contract of apply. It has no condition on how many states are remembered. -/
namespace Go.Proofs.YtkehgoailhpenaaGreat
open Go.RowKit Go.Shelf Go.Maps
set_option linter.unusedVariables false

/-- The error of applying a change, and the next state. -/
noncomputable def aplE (s : DS) (ps : List PE) : Int := if pE s.text ps = 0 then advE s (pL s.text ps) else pE s.text ps
noncomputable def aplS (s : DS) (ps : List PE) : DS := advS s (pL s.text ps)
theorem DocI.tsize {T G : Nat → Prop} {w : World} {p : Nat} {s : DS} (h : DocI T G w p s) : s.text.size ≤ 4096 := by
  obtain ⟨x, hx, hxt⟩ : ∃ x ∈ s.ss, x.1 = s.text := by
    refine ⟨s.ss.getLast h.ok.ne, List.getLast_mem _, ?_⟩
    unfold DS.text
    rw [List.getLast?_eq_some_getLast h.ok.ne]; rfl
  rw [← hxt]; exact h.ok.text x hx

set_option maxRecDepth 100000 in
set_option maxHeartbeats 4000000 in
theorem apply_any (T G : Nat → Prop) (p : Nat) (s : DS) (w : World) (h : DocI T G w p s) (hv : s.v + 1 ≤ 1099511627776) (a : Option Addr) (cap : Nat) (ps : List PE) (hP : PS w.heap.size w a cap ps) (hn : ps.length ≤ 64) (hf : ∀ q ∈ ps, q.fit ∧ q.t.size ≤ 100000) :
    Calls Tryz.prog 46 #[.pointer (some ⟨p, 0, none⟩), .slice a ps.length cap] w fun e w' => e = .returned (.int .i64 (aplE s ps)) ∧
      ((aplE s ps ≠ 0 ∧ Below w.heap.size w w') ∨ (aplE s ps = 0 ∧ ∃ T' G', DocI T' G' w' p (aplS s ps) ∧ Stp T G T' G' w w')) := by
  have htx := h.tsize
  have CT := text_any T G p s w h
  obtain ⟨t, ht⟩ : ∃ t, s.text = t := ⟨_, rfl⟩
  rw [ht] at htx CT
  have CB := fun W (hW : Below w.heap.size w W) => dbytes_any t a cap ps W (by omega) (by omega) (fun q hq => (hf q hq).1) (hP.on hW)
  have hfit := pL_fit (s := t) (ps := ps) (by omega) (fun q hq => (hf q hq).2)
  have hll := (pL_len t ps).2
  obtain ⟨E, hE⟩ : ∃ e, pE t ps = e := ⟨_, rfl⟩
  obtain ⟨L, hL⟩ : ∃ l, pL t ps = l := ⟨_, rfl⟩
  obtain ⟨n, hn'⟩ : ∃ n, ps.length = n := ⟨_, rfl⟩
  have hA : aplE s ps = if E = 0 then advE s L else E := by unfold aplE; rw [ht, hE, hL]
  have hS : aplS s ps = advS s L := by unfold aplS; rw [ht, hL]
  simp only [hE, hL, hn'] at CB
  rw [hL] at hfit hll
  rw [hA, hS, hn']
  have HCT := Lib.hid CT; have HCB := Lib.hid CB
  by_cases h0 : E = 0
  · subst h0
    have HAD := Lib.hid (fun W (hW : Below w.heap.size w W) a' c' (hEs : ES W.heap.size W a' c' L) (hT : ∀ b, blkOf a' b → ¬ T b) => advance_any T G p s W (h.below hW) hv a' c' L hEs (by omega) hfit hT)
    have HTL : Hid (∀ b, T b → b < w.heap.size) := h.lt
    rw [if_pos rfl]
    obtain ⟨R, hR⟩ : ∃ r, advE s L = r := ⟨_, rfl⟩
    obtain ⟨S', hS'⟩ : ∃ r, advS s L = r := ⟨_, rfl⟩
    rw [hR, hS'] at HAD
    rw [hR, hS']
    obtain ⟨k, hk⟩ : ∃ n, L.length = n := ⟨_, rfl⟩
    have HK := Lib.hid hk
    clear CT CB h hP hf hfit hA hS hE hL hn' ht hv hk hR hS'
    go_enter Tryz.func46, Tryz.ntmps46
    go_wp2_with fail
    refine HCT.out.mono ?_
    rintro e w1 ⟨rfl, b1⟩
    have B1 := Lib.hid b1
    clear b1
    go_wp2_with fail
    refine (HCB.out _ B1.out).mono ?_
    rintro e w2 ⟨a2, c2, rfl, hE2, hfr, b2⟩
    have B2 := Lib.hid (B1.out.trans (b2.mono B1.out.size))
    have hz1 := B1.out.size
    have HFR : Hid (∀ b, blkOf a2 b → w.heap.size ≤ b) := fun b hb => by have := hfr b hb; omega
    have HE2 := Lib.hid hE2
    clear b2 hfr hE2
    have HC := Lib.hid (HAD.out w2 B2.out a2 c2 HE2.out (fun b hb hT => by have := HTL.out b hT; have := HFR.out b hb; omega))
    go_wp2_with fail
    refine HC.out.mono ?_
    rintro e w3 ⟨rfl, hw⟩
    have HW := Lib.hid hw
    clear hw
    go_wp2_with fail
    go_ret
    refine ⟨rfl, ?_⟩
    rcases HW.out with ⟨q1, q2⟩ | ⟨q1, q2, q3⟩
    · exact .inl ⟨q1, B2.out.trans (q2.mono B2.out.size)⟩
    · have hz2 := B2.out.size
      refine .inr ⟨q1, _, _, q2, (Only.of_below B2.out).trans q3, fun b hb => ?_, fun b hb => ?_⟩
      · rcases hb with hb | hb
        · exact .inl hb
        · exact .inr (by omega)
      · rcases hb with hb | hb
        · exact .inl hb
        · exact .inr (HFR.out b hb.2)
  · rw [if_neg h0]
    have hq : (E != 0) = true := by simp [h0]
    have H0 := Lib.hid h0
    obtain ⟨k, hk⟩ : ∃ n, L.length = n := ⟨_, rfl⟩
    rw [hk] at hll
    clear CT CB h hP hf hfit hA hS hE hL hn' ht hv
    go_enter Tryz.func46, Tryz.ntmps46
    go_wp2_with fail
    refine HCT.out.mono ?_
    rintro e w1 ⟨rfl, b1⟩
    have B1 := Lib.hid b1
    clear b1
    go_wp2_with fail
    refine (HCB.out _ B1.out).mono ?_
    rintro e w2 ⟨a2, c2, rfl, hE2, hfr, b2⟩
    have B2 := Lib.hid (B1.out.trans (b2.mono B1.out.size))
    clear b2 hfr hE2
    go_wp2_with fail
    go_ret
    exact ⟨rfl, .inl ⟨H0.out, B2.out⟩⟩

end Go.Proofs.YtkehgoailhpenaaGreat

/- The contract of applyHeld. It has no condition on how many states are remembered. -/
namespace Go.Proofs.YtkehgoailhpenaaGreat
open Go.RowKit Go.Shelf Go.Maps
set_option linter.unusedVariables false

/-- The edits of a held change. -/
def lookH (hs : List (Int × List PE)) (k : Int) : List PE := ((hs.find? (fun x => decide (x.1 = k))).map Prod.snd).getD []
theorem lookH_mem {hs : List (Int × List PE)} {k : Int} (h : k ∈ hs.map Prod.fst) : (k, lookH hs k) ∈ hs := by
  obtain ⟨x, hx, rfl⟩ := List.mem_map.1 h
  have hsome : (hs.find? (fun y => decide (y.1 = x.1))).isSome := by
    rw [List.find?_isSome]
    exact ⟨x, hx, by simp⟩
  obtain ⟨y, hy⟩ := Option.isSome_iff_exists.1 hsome
  have h1 := List.find?_some hy
  have h2 := List.mem_of_find?_eq_some hy
  unfold lookH
  rw [hy]
  simp only [decide_eq_true_eq] at h1
  simp only [Option.map_some, Option.getD_some]
  rw [← h1]; exact h2
def dropH (s : DS) : DS := ⟨s.v, s.ss, delH s.hs (s.v + 1)⟩
/-- How many held changes are applied, and the state behind them. -/
noncomputable def hldF : Nat → DS → Nat × DS
  | 0, s => (0, s)
  | f + 1, s => if (s.v + 1) ∈ s.hs.map Prod.fst then (if aplE (dropH s) (lookH s.hs (s.v + 1)) = 0 then ((hldF f (aplS (dropH s) (lookH s.hs (s.v + 1)))).1 + 1, (hldF f (aplS (dropH s) (lookH s.hs (s.v + 1)))).2) else (0, dropH s)) else (0, s)
theorem aplS_hs (s : DS) (ps : List PE) : (aplS s ps).hs = s.hs := rfl
theorem aplS_v (s : DS) (ps : List PE) : (aplS s ps).v = s.v + 1 := rfl
theorem aplS_text (s : DS) (ps : List PE) : (aplS s ps).text = apS s.text (pL s.text ps) := by
  show (((remS (s.ss.set (s.ss.length - 1) (s.text, pL s.text ps)) (apS s.text (pL s.text ps))).getLast?).getD (⟨#[]⟩, [])).1 = _
  rw [remS_text]; rfl

/-- A document's map, for a look-up, a store and a deletion. -/
theorem DocI.noKey {T G : Nat → Prop} {w : World} {p : Nat} {s : DS} (h : DocI T G w p s) : True := trivial
theorem DocI.drop {T G : Nat → Prop} {w w' : World} {p m n : Nat} {s : DS} {D : DataW Value} (h : DocI T G w p s) (hc : w.cell? ⟨p, 2, none⟩ = some (.map (some m))) (hD : w.ownsMap Tryz.prog 3 RH m n D) (hk : (s.v + 1) ∈ s.hs.map Prod.fst) (hown : w'.ownsMap Tryz.prog 3 RH m n (D.del (kI (s.v + 1)))) (ht : w.mapTurned w' m) : DocI T G w' p (dropH s) ∧ Only T w w' := by
  obtain ⟨g, cp, m', D', vs, h1, h2, h3, h4, h5, h6, h7⟩ := h.mem
  have c2 := h1.cell 2
  simp only [List.getElem?_toArray, List.getElem?_cons_zero, List.getElem?_cons_succ] at c2
  rw [hc] at c2
  simp only [Option.some.injEq, Value.map.injEq] at c2
  subst c2
  have hDD : D = D' := by
    obtain ⟨es, cl, k1, _, _, k4⟩ := hD
    obtain ⟨es', cl', k1', _, _, k4'⟩ := h4
    rw [k1] at k1'
    simp only [Option.some.injEq, Obj.map.injEq] at k1'
    rw [k4, k4', k1'.1]
  subst hDD
  have hg := ht.grown
  have hTd := hD.tidy keyInt
  have hmp : m ≠ p := by
    rintro rfl
    obtain ⟨es', clock, k1, _⟩ := h4
    unfold Blk at h1
    rw [k1] at h1
    simp at h1
  have hmg : m ≠ g := by
    rintro rfl
    obtain ⟨es', clock, k1, _⟩ := h4
    rcases h2.2 with ⟨hv, _⟩ | ⟨g', cp', cur, hv, _, hg, _⟩
    · simp at hv
    · simp only [Value.slice.injEq, Option.some.injEq, Addr.mk.injEq] at hv
      obtain ⟨⟨rfl, _⟩, _⟩ := hv
      rw [k1] at hg
      simp at hg
  have hold : ∀ b, b < w.heap.size → b ≠ m → w'.heap[b]? = w.heap[b]? := fun b hb hm => hg.block b hb (fun e => by cases e; exact hm rfl)
  have hTm := h7
  have hGk : ∀ b, G b → b < w.heap.size → w'.heap[b]? = w.heap[b]? := fun b hb hlt => hold b hlt (fun e => h.apart m hTm (e ▸ hb))
  have hz := hg.size
  refine ⟨⟨⟨h.ok.v0, h.ok.v1, h.ok.ne, h.ok.len, h.ok.text, h.ok.eds, ?_, ?_, ?_⟩, ⟨g, cp, m, _, vs, h1.same (hold p h1.lt (fun e => hmp e.symm)), own_same h2 (fun j hj => by cases hj; exact hold g (h.lt g h6) (fun e => hmg e.symm)), ?_, ownsMap_tight hown, ?_, h6, h7⟩, h.tp, fun b hb => by have := h.lt b hb; omega, fun b hb => by have := h.glt b hb; omega, h.apart⟩, ⟨hg.os, hg.tape, hg.output, hz, fun k hk hT => hold k hk (fun e => hT (e ▸ hTm))⟩⟩
  · have := List.length_filter_le (fun x : Int × List PE => decide (x.1 ≠ s.v + 1)) s.hs
    have h9 := h.ok.hlen
    show (delH s.hs (s.v + 1)).length ≤ 16
    unfold delH; omega
  · intro x hx; exact h.ok.held x (List.mem_filter.1 hx).1
  · intro x hx; exact h.ok.hk x (List.mem_filter.1 hx).1
  · exact h3.mono (fun x y hxy => ⟨hxy.1, hxy.2.keep hz hGk (fun _ h => h)⟩)
  · exact (h5.keep hz hGk (fun _ h => h)).del hTd hk

theorem Stp.of_only {T G : Nat → Prop} {w w' : World} (h : Only T w w') : Stp T G T G w w' := ⟨h, fun _ h => .inl h, fun _ h => .inl h⟩
/-- The loop's state: what is still to come. -/
def HlI (H : Nat) (s : DS) (k f : Nat) (s' : DS) : Prop := hldF H s = (k + (hldF f s').1, (hldF f s').2) ∧ s'.hs.length ≤ f

set_option maxRecDepth 100000 in
set_option maxHeartbeats 4000000 in
theorem applyHeld_any (T G : Nat → Prop) (p : Nat) (s : DS) (w : World) (h : DocI T G w p s) :
    Calls Tryz.prog 47 #[.pointer (some ⟨p, 0, none⟩)] w fun e w' => e = .returned (.int .i64 ((hldF s.hs.length s).1 : Int)) ∧ ∃ T' G', DocI T' G' w' p (hldF s.hs.length s).2 ∧ Stp T G T' G' w w' := by
  obtain ⟨H, hH⟩ : ∃ n, s.hs.length = n := ⟨_, rfl⟩
  have hH16 := h.ok.hlen
  rw [hH] at hH16 ⊢
  obtain ⟨R, hR⟩ : ∃ r, hldF H s = r := ⟨_, rfl⟩
  have HI0 : Hid (HlI H s 0 H s) := ⟨by rw [Nat.zero_add], by omega⟩
  have HD0 := Lib.hid h
  have HS0 : Hid (Stp T G T G w w) := Stp.refl _ _ _
  have HRR := Lib.hid hR
  rw [hR]
  clear h hR
  go_enter Tryz.func47, Tryz.ntmps47
  go_wp2_with fail
  go_loopw [3] (fun u wr => ∃ (k f : Nat) (s' : DS) (T' G' : Nat → Prop), u = .int .i64 (k : Int) ∧ k + s'.hs.length ≤ H ∧ Hid (HlI H s k f s') ∧ Hid (DocI T' G' wr p s') ∧ Hid (Stp T G T' G' w wr)) (fun u _ => H - (intOf u).toNat)
  case atStart => exact ⟨0, H, s, T, G, rfl, by omega, HI0, HD0, HS0⟩
  case round =>
    obtain ⟨k, f, s', T', G', rfl, hk, HI, HD, HS⟩ := hrel
    have hd := HD.out
    have hv0 := hd.ok.v0
    have hv1 := hd.ok.v1
    obtain ⟨g, cp, m, n', D, _, _, c0, _, c2, hm, hh, hTm, hpW⟩ := hd.full
    obtain ⟨vv, hat, hlk⟩ := look_held hm (k := s'.v + 1) (by omega) (by omega)
    have hlook := hlk wr rfl
    rw [hh.keys] at hlook
    obtain ⟨x, hx⟩ : ∃ x, s'.v = x := ⟨_, rfl⟩
    have hxw : IntKind.i64.wrap (x + 1) = x + 1 := by simp [IntKind.wrap, IntKind.signed, IntKind.bits]; omega
    by_cases hin : (s'.v + 1) ∈ s'.hs.map Prod.fst
    · rw [decide_eq_true hin] at hlook
      have hmem := lookH_mem hin
      obtain ⟨v2, hat2, hps⟩ := hh.elem _ hmem
      have hvv : v2 = vv := by
        have := hat2.symm.trans hat
        simpa using this
      subst hvv
      have hkb := hd.ok.hk _ hmem
      have hhe := hd.ok.held _ hmem
      simp only at hkb hhe hps
      obtain ⟨la, lc, rfl, _⟩ := hps.ps
      have hpos : 0 < s'.hs.length := List.length_pos_iff.2 (fun e => by rw [e] at hin; simp at hin)
      have hdl := delH_len hh.nodup hin
      obtain ⟨L, hL⟩ : ∃ l, lookH s'.hs (s'.v + 1) = l := ⟨_, rfl⟩
      have HDR : Hid (∀ w1, w1.ownsMap Tryz.prog 3 RH m (Maps.size D) (D.del (kI (s'.v + 1))) → wr.mapTurned w1 m → DocI T' G' w1 p (dropH s') ∧ Only T' wr w1 ∧ ∃ la' lc', Value.slice la (lookH s'.hs (s'.v + 1)).length lc = .slice la' (lookH s'.hs (s'.v + 1)).length lc' ∧ PS w1.heap.size w1 la' lc' (lookH s'.hs (s'.v + 1))) := fun w1 ho ht => by
        obtain ⟨d1, d2⟩ := hd.drop c2 hm hin ho ht
        have hgr := ht.grown
        have := hps.keep (G' := G') hgr.size (fun b hb hlt => hgr.block b hlt (fun e => by cases e; exact hd.apart m hTm hb)) (fun _ h => h)
        obtain ⟨la', lc', e1, e2⟩ := this.ps
        exact ⟨d1, d2, la', lc', e1, e2⟩
      have hkey : keyOf Tryz.prog 3 (.int .i64 (s'.v + 1)) = some (kI (s'.v + 1)) := keyOfI (by omega) (by omega)
      have HC : Hid (∀ w1 la' lc', DocI T' G' w1 p (dropH s') → PS w1.heap.size w1 la' lc' (lookH s'.hs (s'.v + 1)) → _) := Lib.hid (fun w1 la' lc' hdd hpp => apply_any T' G' p (dropH s') w1 hdd (by show s'.v + 1 ≤ _; omega) la' lc' (lookH s'.hs (s'.v + 1)) hpp hhe.1 hhe.2)
      rw [hL] at HC HDR
      obtain ⟨E, hE⟩ : ∃ e, aplE (dropH s') L = e := ⟨_, rfl⟩
      obtain ⟨S2, hS2⟩ : ∃ e, aplS (dropH s') L = e := ⟨_, rfl⟩
      have hs2h : S2.hs.length + 1 = s'.hs.length := by rw [← hS2, aplS_hs]; exact hdl
      have hstep : ∀ q, s'.hs.length ≤ q → hldF q s' = if E = 0 then ((hldF (q - 1) S2).1 + 1, (hldF (q - 1) S2).2) else (0, dropH s') := fun q hq => by
        obtain ⟨q', rfl⟩ : ∃ q', q = q' + 1 := ⟨q - 1, by omega⟩
        simp only [hldF]
        rw [if_pos hin, hL, hE, hS2]; rfl
      simp only [hE, hS2] at HC
      obtain ⟨ln, hln⟩ : ∃ n, L.length = n := ⟨_, rfl⟩
      rw [hL, hln] at hlook
      simp only [hln] at HC HDR
      have HST := Lib.hid hstep
      rw [hx] at c0 hlook hkey
      rw [hx] at HDR
      have HM := Lib.hid hm; have HKEY := Lib.hid hkey
      have hs2k : k + 1 + S2.hs.length ≤ H := by omega
      have hs2f := HI.out.2
      have hs2g : S2.hs.length ≤ f - 1 := by omega
      clear hd hh hm hlk hat hat2 hmem hps hin hkey hkb hhe hpos hdl hL hE hS2 hln hstep hx hTm hpW hs2h
      go_wp2_with (at_delete; refine wpList_delete_own _ rfl _ _ 70 3 rfl 45 keyInt Tryz.underlying70 RH m (Maps.size D) D rfl HM.out _ (kI (x + 1)) rfl HKEY.out ?_; intro w1 hown1 hturn1)
      obtain ⟨d1, o1, la', lc', e1, p1⟩ := HDR.out w1 hown1 hturn1
      simp only [Value.slice.injEq, true_and] at e1
      obtain ⟨rfl, rfl⟩ := e1
      have hc := HC.out w1 la lc d1 p1
      have HO1 := Lib.hid o1; have HD1 := Lib.hid d1
      clear hown1 hturn1 p1 d1 o1 HC HDR
      refine hc.mono ?_
      rintro e w3 ⟨rfl, hw⟩
      have HW := Lib.hid hw
      clear hw hc
      by_cases hE0 : E = 0
      · subst hE0
        have HX : Hid (∃ T2 G2, DocI T2 G2 w3 p S2 ∧ Stp T G T2 G2 w w3) := by
          rcases HW.out with ⟨q1, _⟩ | ⟨_, T2, G2, q2, q3⟩
          · exact absurd rfl q1
          · exact ⟨T2, G2, q2, (HS.out.trans (Stp.of_only HO1.out) trivial).trans q3 trivial⟩
        have HI2 : Hid (HlI H s (k + 1) (f - 1) S2) := by
          have h1 := HI.out.1
          rw [HST.out f hs2f, if_pos rfl] at h1
          exact ⟨by rw [h1]; simp only [Prod.mk.injEq, and_true]; omega, by omega⟩
        obtain ⟨T2, G2, hdd, hss⟩ := HX.out
        have HDD := Lib.hid hdd; have HSS := Lib.hid hss
        clear hdd hss
        go_wp2
        go_roundw
        case rel => exact ⟨k + 1, f - 1, S2, T2, G2, by go_num, hs2k, HI2, HDD, HSS⟩
        case measure => simp [intOf]; omega
      · have hq : (E != 0) = true := by simp [hE0]
        have hfin : R = (k, dropH s') := by
          have h1 := HI.out.1
          rw [HRR.out, HST.out f hs2f, if_neg hE0] at h1
          rw [h1]; rfl
        have HX : Hid (DocI T' G' w3 p (dropH s') ∧ Stp T G T' G' w w3) := by
          rcases HW.out with ⟨_, q2⟩ | ⟨q1, _⟩
          · exact ⟨HD1.out.below q2, (HS.out.trans (Stp.of_only HO1.out) trivial).trans (Stp.of_below q2) trivial⟩
          · exact absurd q1 hE0
        have HF := Lib.hid hfin
        clear hfin
        go_wp2_with fail
        go_ret
        rw [HF.out]
        exact ⟨rfl, T', G', HX.out.1, HX.out.2⟩
    · rw [decide_eq_false hin] at hlook
      have hfin : R = (k, s') := by
        have h1 := HI.out.1
        rw [HRR.out] at h1
        have h2 : hldF f s' = (0, s') := by
          cases f with
          | zero => rfl
          | succ f => simp only [hldF]; rw [if_neg hin]
        rw [h1, h2]; rfl
      rw [hx] at c0 hlook
      have HF := Lib.hid hfin
      clear hfin hd hm hh hlk hat hx
      go_wp2_with fail
      go_ret
      rw [HF.out]
      exact ⟨rfl, T', G', HD.out, HS.out⟩

end Go.Proofs.YtkehgoailhpenaaGreat

/- The contract of Receive. It has no condition on how many states are remembered. -/
namespace Go.Proofs.YtkehgoailhpenaaGreat
open Go.RowKit Go.Shelf Go.Maps
set_option linter.unusedVariables false

def holdS (s : DS) (cv : Int) (ps : List PE) : DS := ⟨s.v, s.ss, s.hs ++ [(cv, ps)]⟩
/-- What Receive answers, and the state behind it. -/
noncomputable def rcvF (s : DS) (cv : Int) (ps : List PE) : (Int × Int) × DS :=
  if chkE s cv ps.length ≠ 0 then ((0, chkE s cv ps.length), s)
  else if s.v + 1 < cv then ((0, 0), holdS s cv ps)
  else if aplE s ps ≠ 0 then ((0, aplE s ps), s)
  else ((1 + ((hldF s.hs.length (aplS s ps)).1 : Int), 0), (hldF s.hs.length (aplS s ps)).2)
theorem hldF_le : ∀ (f : Nat) (s : DS), (hldF f s).1 ≤ f := by
  intro f
  induction f with
  | zero => intro s; exact Nat.le_refl _
  | succ f ih =>
    intro s
    simp only [hldF]
    split
    · split
      · have := ih (aplS (dropH s) (lookH s.hs (s.v + 1))); simp only; omega
      · exact Nat.zero_le _
    · exact Nat.zero_le _
theorem chk_ok {s : DS} {cv : Int} {n : Nat} (h : chkE s cv n = 0) : 1 ≤ cv ∧ cv ≤ 1099511627776 ∧ n ≤ 64 ∧ s.v < cv ∧ cv ∉ s.hs.map Prod.fst ∧ ¬ (s.v + 1 < cv ∧ 16 ≤ s.hs.length) := by
  unfold chkE at h
  split at h
  · omega
  · rename_i h1
    split at h
    · omega
    · rename_i h2
      split at h
      · omega
      · rename_i h3
        split at h
        · omega
        · rename_i h4
          exact ⟨by omega, by omega, by omega, by omega, fun h => h3 (.inr h), h4⟩
/-- A change is held. -/
theorem DocI.hold {T G : Nat → Prop} {w : World} {p : Nat} {s : DS} (h : DocI T G w p s) {cv : Int} (h1 : 1 ≤ cv) (h2 : cv ≤ 1099511627776) (hk : cv ∉ s.hs.map Prod.fst) (hl : s.hs.length < 16) {a : Option Addr} {cap : Nat} {ps : List PE} (hP : PS w.heap.size w a cap ps) (hn : ps.length ≤ 64) (hf : ∀ q ∈ ps, q.fit ∧ q.t.size ≤ 100000) (hT : ∀ b, blkOf a b → ¬ T b) {m : Nat} (hc : w.cell? ⟨p, 2, none⟩ = some (.map (some m))) :
    ∃ w', (Instr.mapUpdate 70 (.map (some m)) (.int .i64 cv) (.slice a ps.length cap)).run Tryz.prog w = .ok () w' ∧ DocI T (addG G ps.length a) w' p (holdS s cv ps) ∧ Only T w w' := by
  obtain ⟨g, cp, m', D, vs, k1, k2, k3, k4, k5, k6, k7⟩ := h.mem
  have c2 := k1.cell 2
  simp only [List.getElem?_toArray, List.getElem?_cons_zero, List.getElem?_cons_succ] at c2
  rw [hc] at c2
  simp only [Option.some.injEq, Value.map.injEq] at c2
  subst c2
  have hTd := k4.tidy keyInt
  have hsz := k5.size
  obtain ⟨w', hrun, hown, ht⟩ := k4.store keyInt Tryz.underlying70 (by unfold maxLen; omega) (keyOfI (k := cv) (by omega) (by omega)) (R := RH) (val := .slice a ps.length cap) rfl
  have hg := ht.grown
  have hmp : m ≠ p := by
    rintro rfl
    obtain ⟨es', clock, q1, _⟩ := k4
    unfold Blk at k1
    rw [q1] at k1
    simp at k1
  have hmg : m ≠ g := by
    rintro rfl
    obtain ⟨es', clock, q1, _⟩ := k4
    rcases k2.2 with ⟨hv, _⟩ | ⟨g', cp', cur, hv, _, hg, _⟩
    · simp at hv
    · simp only [Value.slice.injEq, Option.some.injEq, Addr.mk.injEq] at hv
      obtain ⟨⟨rfl, _⟩, _⟩ := hv
      rw [q1] at hg
      simp at hg
  have hold : ∀ b, b < w.heap.size → b ≠ m → w'.heap[b]? = w.heap[b]? := fun b hb hm => hg.block b hb (fun e => by cases e; exact hm rfl)
  have hGk : ∀ b, G b → b < w.heap.size → w'.heap[b]? = w.heap[b]? := fun b hb hlt => hold b hlt (fun e => h.apart m k7 (e ▸ hb))
  have hz := hg.size
  have hv : PsG (addG G ps.length a) w' (.slice a ps.length cap) ps :=
    (PsG.of (G := fun b => ps.length ≠ 0 ∧ blkOf a b) hP (fun h1 b h2 => ⟨h1, h2⟩)).keep hz (fun b hb hlt => hold b hlt (fun e => hT b hb.2 (e ▸ k7))) (fun b hb => .inr hb)
  refine ⟨w', hrun, ⟨⟨h.ok.v0, h.ok.v1, h.ok.ne, h.ok.len, h.ok.text, h.ok.eds, ?_, ?_, ?_⟩, ⟨g, cp, m, _, vs, k1.same (hold p k1.lt (fun e => hmp e.symm)), own_same k2 (fun j hj => by cases hj; exact hold g (h.lt g k6) (fun e => hmg e.symm)), ?_, ownsMap_tight hown, ?_, k6, k7⟩, h.tp, fun b hb => by have := h.lt b hb; omega, ?_, ?_⟩, ⟨hg.os, hg.tape, hg.output, hz, fun k hk hT => hold k hk (fun e => hT (e ▸ k7))⟩⟩
  · show (s.hs ++ [(cv, ps)]).length ≤ 16
    rw [List.length_append]; show s.hs.length + 1 ≤ 16; omega
  · intro x hx
    rcases List.mem_append.1 hx with hx | hx
    · exact h.ok.held x hx
    · simp only [List.mem_singleton] at hx; subst hx; exact ⟨hn, hf⟩
  · intro x hx
    rcases List.mem_append.1 hx with hx | hx
    · exact h.ok.hk x hx
    · simp only [List.mem_singleton] at hx; subst hx; exact ⟨h1, h2⟩
  · exact k3.mono (fun x y hxy => ⟨hxy.1, hxy.2.keep hz hGk (fun _ h => .inl h)⟩)
  · exact (k5.keep hz hGk (fun _ h => .inl h)).put hTd hk hv
  · intro b hb
    rcases hb with hb | hb
    · have := h.glt b hb; omega
    · have := ps_lt hP hb.1 hb.2; omega
  · intro b hb hG
    rcases hG with hG | hG
    · exact h.apart b hb hG
    · exact hT b hG.2 hb

set_option maxRecDepth 100000 in
set_option maxHeartbeats 8000000 in
theorem receive_any (T G : Nat → Prop) (p : Nat) (s : DS) (w : World) (h : DocI T G w p s) (cv : Int) (h1 : -9223372036854775808 ≤ cv) (h2 : cv ≤ 9223372036854775807) (a : Option Addr) (cap : Nat) (ps : List PE) (hP : PS w.heap.size w a cap ps) (hn : ps.length ≤ 1000) (hf : ∀ q ∈ ps, q.fit ∧ q.t.size ≤ 100000) :
    Calls Tryz.prog 17 #[.pointer (some ⟨p, 0, none⟩), .agg #[.int .i64 cv, .slice a ps.length cap]] w fun e w' => e = .returned (.tuple #[.int .i64 (rcvF s cv ps).1.1, .int .i64 (rcvF s cv ps).1.2]) ∧ ∃ T' G', DocI T' G' w' p (rcvF s cv ps).2 ∧ Stp T G T' G' w w' := by
  obtain ⟨n, hn'⟩ : ∃ n, ps.length = n := ⟨_, rfl⟩
  obtain ⟨W1, hW1⟩ : ∃ W, w.alloc (.cells #[.int .i64 cv, .slice a n cap] 47) = W := ⟨_, rfl⟩
  have b1 : Below w.heap.size w W1 := by rw [← hW1]; exact (Below.refl _ _).alloc (Nat.le_refl _) _
  have k1 : Blk W1 w.heap.size 47 #[.int .i64 cv, .slice a n cap] := by rw [← hW1]; exact Blk.new _ _ _
  have hD := h.below b1
  have hP1 := hP.on b1
  have CC := fun W (hW : Below W1.heap.size W1 W) => check_any T G p s W (hD.below hW) cv a n cap h1 h2
  have CE := fun W (hW : Below W1.heap.size W1 W) => early_any T G p s W (hD.below hW) cv a n cap
  obtain ⟨q, hq⟩ : ∃ q, w.heap.size = q := ⟨_, rfl⟩
  have d0 := k1.cell 0
  have d1 := k1.cell 1
  simp only [List.getElem?_toArray, List.getElem?_cons_zero, List.getElem?_cons_succ] at d0 d1
  rw [hq] at d0 d1
  have hqW : q < W1.heap.size := by rw [← hq]; exact k1.lt
  have HBX : Hid (∀ V, Below W1.heap.size W1 V → V.cell? ⟨q, 0, none⟩ = some (.int .i64 cv) ∧ V.cell? ⟨q, 1, none⟩ = some (.slice a n cap)) := fun V hV => ⟨(hV.cell (p := ⟨q, 0, none⟩) hqW).trans d0, (hV.cell (p := ⟨q, 1, none⟩) hqW).trans d1⟩
  have HS1 : Hid (Stp T G T G w W1) := Stp.of_below b1
  obtain ⟨E, hE⟩ : ∃ e, chkE s cv n = e := ⟨_, rfl⟩
  simp only [hE] at CC
  have HCC := Lib.hid CC; have HCE := Lib.hid CE; have HD := Lib.hid hD; have HW1 := Lib.hid hW1
  have HR : Hid (rcvF s cv ps = if E ≠ 0 then ((0, E), s) else if s.v + 1 < cv then ((0, 0), holdS s cv ps) else if aplE s ps ≠ 0 then ((0, aplE s ps), s) else ((1 + ((hldF s.hs.length (aplS s ps)).1 : Int), 0), (hldF s.hs.length (aplS s ps)).2)) := Lib.hid (by unfold rcvF; rw [hn', hE])
  obtain ⟨R, hR⟩ : ∃ r, rcvF s cv ps = r := ⟨_, rfl⟩
  rw [hR] at HR ⊢
  rw [hn']
  clear CC CE hD hW1 k1 b1 hR
  by_cases hE0 : E = 0
  · subst hE0
    have hck := chk_ok hE
    rw [← hn'] at hck
    obtain ⟨y1, y2, y3, y4, y5, y6⟩ := hck
    by_cases hea : s.v + 1 < cv
    · have hr := HR.out
      rw [if_neg (by simp), if_pos hea] at hr
      have hed : decide (s.v + 1 < cv) = true := by simp [hea]
      have HHO : Hid (∀ V a' c', Below W1.heap.size W1 V → PS V.heap.size V a' c' ps → (∀ b, blkOf a' b → W1.heap.size ≤ b) → ∀ m, V.cell? ⟨p, 2, none⟩ = some (.map (some m)) →
          ∃ w', (Instr.mapUpdate 70 (.map (some m)) (.int .i64 cv) (.slice a' ps.length c')).run Tryz.prog V = .ok () w' ∧ Hid (∃ T' G', DocI T' G' w' p (holdS s cv ps) ∧ Stp T G T' G' w w')) := fun V a' c' hV hPV hTb m hc => by
        obtain ⟨w', q1, q2, q3⟩ := (HD.out.below hV).hold y1 y2 y5 (by omega) hPV y3 hf (fun b hb hT => by have := hTb b hb; have := HD.out.lt b hT; omega) hc
        exact ⟨w', q1, T, _, q2, (HS1.out.trans ⟨Only.of_below hV, fun _ h => .inl h, fun b hb => hb.imp id (fun h => hTb b h.2)⟩ trivial).trans (Stp.of_only q3) trivial⟩
      have HCL := Lib.hid (fun W (hW : Below W1.heap.size W1 W) => clonep_any a cap ps W (by omega) (hP1.on hW))
      rw [hn'] at HHO HCL
      obtain ⟨g, cp, m, n', D, _, _, _, _, c2, _, _, _, hpW⟩ := HD.out.full
      have HC2 : Hid (∀ V, Below W1.heap.size W1 V → V.cell? ⟨p, 2, none⟩ = some (.map (some m))) := fun V hV => (hV.cell (p := ⟨p, 2, none⟩) hpW).trans c2
      have HTL : Hid (∀ b, T b → b < W1.heap.size) := HD.out.lt
      subst hr
      rw [hed] at HCE
      clear h hP hP1 hf hn' hE y1 y2 y3 y4 y5 y6 c2 hea hed
      go_enter Tryz.func17, Tryz.ntmps17
      go_wp2_with fail
      rw [show w.alloc (.cells #[.int .i64 cv, .slice a n cap] 47) = W1 from HW1.out]
      refine (HCC.out W1 (Below.refl _ _)).mono ?_
      rintro e w2 ⟨rfl, b2⟩
      have B2 := Lib.hid b2
      obtain ⟨e0, e1⟩ := HBX.out w2 b2
      clear b2
      go_wp2_with fail
      refine (HCE.out w2 B2.out).mono ?_
      rintro e w3 ⟨rfl, b3⟩
      have B3 := Lib.hid (B2.out.trans (b3.mono B2.out.size))
      obtain ⟨g0, g1⟩ := HBX.out w3 B3.out
      have g2 := HC2.out w3 B3.out
      have hz13 := B3.out.size
      clear b3 e0 e1
      go_wp2_with fail
      go_region_with (first | (go_at_call 45; refine (HCL.out _ B3.out.drew).mono ?_; rintro e w5 ⟨a5, c5, rfl, hp5, hf5, b5⟩; have B5 : Below W1.heap.size W1 w5 := B3.out.drew.trans (b5.mono hz13); obtain ⟨u0, u1⟩ := HBX.out w5 B5; have u2 := HC2.out w5 B5; obtain ⟨w6, hrun, hx6⟩ := HHO.out w5 a5 c5 B5 hp5 (fun b hb => by have q1 := hf5 b hb; have q3 : w3.heap.size ≤ b := q1; omega) m u2; clear hp5))
      all_goals
        obtain ⟨T2, G2, hd6, hs6⟩ := hx6.out
        have HF6 := Lib.hid (And.intro hd6 hs6)
        clear hd6 hs6
        go_wp2_with fail
        go_ret2
        exact ⟨rfl, T2, G2, HF6.out.1, HF6.out.2⟩
    · have hr := HR.out
      rw [if_neg (by simp), if_neg hea] at hr
      have hed : decide (s.v + 1 < cv) = false := by simp [hea]
      have HAP : Hid (∀ W, Below W1.heap.size W1 W → _) := Lib.hid (fun W (hW : Below W1.heap.size W1 W) => apply_any T G p s W (HD.out.below hW) (by omega) a cap ps (hP1.on hW) y3 hf)
      obtain ⟨A, hA⟩ : ∃ e, aplE s ps = e := ⟨_, rfl⟩
      obtain ⟨S2, hS2⟩ : ∃ e, aplS s ps = e := ⟨_, rfl⟩
      have hs2h : S2.hs.length = s.hs.length := by rw [← hS2, aplS_hs]
      simp only [hA, hS2, hn'] at HAP
      rw [hA, hS2, ← hs2h] at hr
      rw [hed] at HCE
      have HR2 := Lib.hid hr
      clear h hP hP1 hf hn' hE y1 y2 y3 y4 y5 y6 hea hed hA hS2 hs2h hr
      go_enter Tryz.func17, Tryz.ntmps17
      go_wp2_with fail
      rw [show w.alloc (.cells #[.int .i64 cv, .slice a n cap] 47) = W1 from HW1.out]
      refine (HCC.out W1 (Below.refl _ _)).mono ?_
      rintro e w2 ⟨rfl, b2⟩
      have B2 := Lib.hid b2
      obtain ⟨e0, e1⟩ := HBX.out w2 b2
      clear b2
      go_wp2_with fail
      refine (HCE.out w2 B2.out).mono ?_
      rintro e w3 ⟨rfl, b3⟩
      have B3 := Lib.hid (B2.out.trans (b3.mono B2.out.size))
      obtain ⟨g0, g1⟩ := HBX.out w3 B3.out
      clear b3 e0 e1
      go_wp2_with fail
      refine (HAP.out w3 B3.out).mono ?_
      rintro e w4 ⟨rfl, hw⟩
      have HW := Lib.hid hw
      clear hw
      have hr := HR2.out
      by_cases hA0 : A = 0
      · subst hA0
        rw [if_neg (by simp)] at hr
        obtain ⟨T2, G2, hd2, hs2'⟩ : ∃ T2 G2, DocI T2 G2 w4 p S2 ∧ Stp T G T2 G2 w w4 := by
          rcases HW.out with ⟨q1, _⟩ | ⟨_, T2, G2, q2, q3⟩
          · exact absurd rfl q1
          · exact ⟨T2, G2, q2, (HS1.out.trans (Stp.of_below B3.out) trivial).trans q3 trivial⟩
        have hs16 := hd2.ok.hlen
        have CH := Lib.hid (applyHeld_any T2 G2 p S2 w4 hd2)
        have HS2 := Lib.hid hs2'
        obtain ⟨K, hK⟩ : ∃ k, hldF S2.hs.length S2 = k := ⟨_, rfl⟩
        have hkl := hldF_le S2.hs.length S2
        rw [hK] at hr CH hkl
        obtain ⟨kk, S3⟩ := K
        simp only at hr CH hkl
        have HRR := Lib.hid hr
        clear hd2 hs2' hr hK
        go_wp2_with fail
        refine CH.out.mono ?_
        rintro e w5 ⟨rfl, T3, G3, hd3, hs3⟩
        have HD3 := Lib.hid hd3; have HS3 := Lib.hid (HS2.out.trans hs3 trivial)
        clear hd3 hs3
        have hrr := HRR.out
        subst hrr
        have hkw : IntKind.i64.wrap (1 + (kk : Int)) = 1 + (kk : Int) := by simp [IntKind.wrap, IntKind.signed, IntKind.bits]; omega
        go_wp2_with fail
        go_ret2
        exact ⟨rfl, T3, G3, HD3.out, HS3.out⟩
      · have hq2 : (A != 0) = true := by simp [hA0]
        rw [if_pos hA0] at hr
        have hfin : DocI T G w4 p s ∧ Stp T G T G w w4 := by
          rcases HW.out with ⟨_, q2⟩ | ⟨q1, _⟩
          · exact ⟨(HD.out.below B3.out).below q2, (HS1.out.trans (Stp.of_below B3.out) trivial).trans (Stp.of_below q2) trivial⟩
          · exact absurd q1 hA0
        have HF := Lib.hid hfin
        subst hr
        clear hfin
        go_wp2_with fail
        go_ret2
        exact ⟨rfl, T, G, HF.out.1, HF.out.2⟩
  · have hq2 : (E != 0) = true := by simp [hE0]
    have hr := HR.out
    rw [if_pos hE0] at hr
    subst hr
    clear h hP hP1 hf hn' hE
    go_enter Tryz.func17, Tryz.ntmps17
    go_wp2_with fail
    rw [show w.alloc (.cells #[.int .i64 cv, .slice a n cap] 47) = W1 from HW1.out]
    refine (HCC.out W1 (Below.refl _ _)).mono ?_
    rintro e w2 ⟨rfl, b2⟩
    have B2 := Lib.hid b2
    clear b2
    go_wp2_with fail
    go_ret2
    exact ⟨rfl, T, G, HD.out.below B2.out, HS1.out.trans (Stp.of_below B2.out) trivial⟩

end Go.Proofs.YtkehgoailhpenaaGreat

/- The contract of New. It has no conditions. -/
namespace Go.Proofs.YtkehgoailhpenaaGreat
open Go.RowKit Go.Shelf Go.Maps
set_option linter.unusedVariables false

def newE (t : ByteArray) (v : Int) : Int := if 4096 < t.size then 4 else if v < 0 ∨ 1099511627776 < v then 1 else 0
def newS (t : ByteArray) (v : Int) : DS := ⟨v, [(t, [])], []⟩
def newB (w w' : World) (b : Nat) : Prop := w.heap.size ≤ b ∧ b < w'.heap.size

set_option maxRecDepth 100000 in
set_option maxHeartbeats 2000000 in
theorem new_any (t : ByteArray) (v : Int) (w : World) :
    Calls Tryz.prog 7 #[.string t, .int .i64 v] w fun e w' =>
      (newE t v ≠ 0 ∧ e = .returned (.tuple #[.pointer none, .int .i64 (newE t v)]) ∧ Below w.heap.size w w') ∨
      (newE t v = 0 ∧ ∃ p, e = .returned (.tuple #[.pointer (some ⟨p, 0, none⟩), .int .i64 0]) ∧ DocI (newB w w') (fun _ => False) w' p (newS t v) ∧ Below w.heap.size w w') := by
  have hmm := @run_makeMap Tryz.prog
  by_cases h1 : 4096 < t.size
  · have hE : newE t v = 4 := by unfold newE; rw [if_pos h1]
    rw [hE]
    have h2 : (4096 : Int) < (t.size : Int) := by omega
    clear hE
    go_enter Tryz.func7, Tryz.ntmps7
    go_wp2
    go_ret2
    first | exact .inl ⟨by decide, rfl, Below.refl _ _⟩ | exact ⟨rfl, Below.refl _ _⟩
  have h2 : ¬ (4096 : Int) < (t.size : Int) := by omega
  by_cases h3 : v < 0
  · have hE : newE t v = 1 := by unfold newE; rw [if_neg h1, if_pos (.inl h3)]
    rw [hE]
    clear hE
    go_enter Tryz.func7, Tryz.ntmps7
    go_wp2
    go_ret2
    first | exact .inl ⟨by decide, rfl, Below.refl _ _⟩ | exact ⟨rfl, Below.refl _ _⟩
  by_cases h4 : 1099511627776 < v
  · have hE : newE t v = 1 := by unfold newE; rw [if_neg h1, if_pos (.inr h4)]
    rw [hE]
    clear hE
    go_enter Tryz.func7, Tryz.ntmps7
    go_wp2
    go_ret2
    first | exact .inl ⟨by decide, rfl, Below.refl _ _⟩ | exact ⟨rfl, Below.refl _ _⟩
  have hE : newE t v = 0 := by unfold newE; rw [if_neg h1, if_neg (by omega)]
  rw [hE]
  obtain ⟨q, hq⟩ : ∃ q, w.heap.size = q := ⟨_, rfl⟩
  obtain ⟨W1, hW1⟩ : ∃ W, w.alloc (.cells #[.string t, .slice none 0 0] 68) = W := ⟨_, rfl⟩
  obtain ⟨W2, hW2⟩ : ∃ W, W1.alloc (.map #[] 0) = W := ⟨_, rfl⟩
  obtain ⟨W3, hW3⟩ : ∃ W, W2.alloc (.cells #[.int .i64 v, .slice (some ⟨q, 0, none⟩) 1 1, .map (some (q + 1))] 72) = W := ⟨_, rfl⟩
  have z1 : W1.heap.size = q + 1 := by rw [← hW1, ← hq]; simp
  have z2 : W2.heap.size = q + 2 := by rw [← hW2]; simp [z1]
  have z3 : W3.heap.size = q + 3 := by rw [← hW3]; simp [z2]
  have k1 : Blk W1 q 68 #[.string t, .slice none 0 0] := by rw [← hW1, ← hq]; exact Blk.new _ _ _
  have k1' : Blk W3 q 68 #[.string t, .slice none 0 0] := by rw [← hW3, ← hW2]; exact (k1.alloc _).alloc _
  have k3 : Blk W3 (q + 2) 72 #[.int .i64 v, .slice (some ⟨q, 0, none⟩) 1 1, .map (some (q + 1))] := by rw [← hW3, ← z2]; exact Blk.new _ _ _
  have hm2 : W2.ownsMap Tryz.prog 3 RH (q + 1) 0 (.map []) := by rw [← hW2, ← z1]; exact World.ownsMap_made _ _ _ _
  have hm3 : W3.ownsMap Tryz.prog 3 RH (q + 1) (Maps.size (.map [] : DataW Value)) (.map []) := by rw [← hW3]; exact hm2.alloc _
  have hb : Below w.heap.size w W3 := by
    rw [← hW3, ← hW2, ← hW1]
    exact (((Below.refl _ _).alloc (Nat.le_refl _) _).alloc (by simp) _).alloc (by simp; omega) _
  have hD : DocI (newB w W3) (fun _ => False) W3 (q + 2) (newS t v) := by
    refine ⟨⟨by show 0 ≤ v; omega, by show v ≤ _; omega, by simp [newS], by simp [newS], ?_, ?_, by simp [newS], ?_, ?_⟩, ⟨q, 1, q + 1, .map [], [(t, .slice none 0 0)], k3, ⟨rfl, .inr ⟨q, 1, _, rfl, Nat.zero_le _, k1', Nat.le_refl _, by unfold maxLen; omega, rfl, rfl⟩⟩, .cons ⟨rfl, EsG.none _ _⟩ .nil, hm3, HeldOk.empty _ _, ⟨by omega, by omega⟩, ⟨by omega, by omega⟩⟩, ⟨by omega, by omega⟩, fun b hb => hb.2, fun b hb => hb.elim, fun b _ h => h⟩
    · intro x hx; simp only [newS, List.mem_singleton] at hx; subst hx; show t.size ≤ 4096; omega
    · intro x hx; simp only [newS, List.mem_singleton] at hx; subst hx; exact ⟨Nat.zero_le _, fun e he => by simp at he⟩
    · intro x hx; simp [newS] at hx
    · intro x hx; simp [newS] at hx
  have HF := Lib.hid (And.intro hD hb)
  have HW : Hid (((w.alloc (.cells #[.string t, .slice none 0 0] 68)).alloc (.map #[] 0)).alloc (.cells #[.int .i64 v, .slice (some ⟨q, 0, none⟩) 1 1, .map (some (q + 1))] 72) = W3) := by rw [hW1, hW2]; exact hW3
  clear hE hD hb hm2 hm3 k1 k1' k3 hW1 hW2 hW3 z1 z2 z3
  go_enter Tryz.func7, Tryz.ntmps7
  go_wp2
  rw [show ((w.alloc (.cells #[.string t, .slice none 0 0] 68)).alloc (.map #[] 0)).alloc (.cells #[.int .i64 v, .slice (some ⟨q, 0, none⟩) 1 1, .map (some (q + 1))] 72) = W3 from HW.out]
  go_ret2
  have hb := HF.out.2
  first | exact ⟨q + 2, rfl, HF.out.1, hb⟩ | exact ⟨q + 2, rfl, HF.out.1, by rw [← hq]; exact hb⟩

end Go.Proofs.YtkehgoailhpenaaGreat

/- Changes that fit one after the other, received in any order: mathematics, no conditions. -/
namespace Go.Proofs.YtkehgoailhpenaaGreat
open Go.RowKit Go.Shelf Go.Maps
set_option linter.unusedVariables false

/-- A change fits a text. -/
structure Fit1 (S : ByteArray) (p : List PE) : Prop where
  e : pE S p = 0
  v : vErr (S.size : Int) (pL S p) = 0
  sz : (apS S (pL S p)).size ≤ 4096
  n : p.length ≤ 5
  f : ∀ q ∈ p, q.fit ∧ q.t.size ≤ 100000
/-- Changes fit one after the other. -/
def Fits : ByteArray → List (List PE) → Prop
  | _, [] => True
  | S, p :: l => Fit1 S p ∧ Fits (apS S (pL S p)) l
/-- The text behind changes. -/
noncomputable def endT : ByteArray → List (List PE) → ByteArray
  | S, [] => S
  | S, p :: l => endT (apS S (pL S p)) l
theorem endT_snoc : ∀ (l : List (List PE)) (S : ByteArray) (p : List PE), endT S (l ++ [p]) = apS (endT S l) (pL (endT S l) p) := by
  intro l
  induction l with
  | nil => intro S p; rfl
  | cons q l ih => intro S p; exact ih _ p
theorem Fits.snoc : ∀ {l : List (List PE)} {S : ByteArray} {p : List PE}, Fits S l → Fit1 (endT S l) p → Fits S (l ++ [p]) := by
  intro l
  induction l with
  | nil => intro S p _ h; exact ⟨h, trivial⟩
  | cons q l ih => intro S p h k; exact ⟨h.1, ih h.2 k⟩
theorem Fits.at_ : ∀ {cs : List (List PE)} {S : ByteArray}, Fits S cs → ∀ (m : Nat) (h : m < cs.length), Fit1 (endT S (cs.take m)) cs[m] := by
  intro cs
  induction cs with
  | nil => intro S _ m h; simp at h
  | cons q l ih =>
    intro S h m hm
    cases m with
    | zero => exact h.1
    | succ m => exact ih h.2 m (by simpa using hm)
theorem endT_take {cs : List (List PE)} {S : ByteArray} {m : Nat} (h : m < cs.length) : endT S (cs.take (m + 1)) = apS (endT S (cs.take m)) (pL (endT S (cs.take m)) cs[m]) := by
  rw [List.take_succ_eq_append_getElem h, endT_snoc]
theorem Fits.mem {cs : List (List PE)} {S : ByteArray} (h : Fits S cs) {m : Nat} (hm : m < cs.length) : cs[m].length ≤ 5 ∧ ∀ q ∈ cs[m], q.fit ∧ q.t.size ≤ 100000 := ⟨(h.at_ m hm).n, (h.at_ m hm).f⟩

theorem delH_keys2 (hs : List (Int × List PE)) (k : Int) : (delH hs k).map Prod.fst = (hs.map Prod.fst).filter (fun x => decide (x ≠ k)) := by
  unfold delH
  induction hs with
  | nil => rfl
  | cons x l ih =>
    simp only [List.filter_cons, List.map_cons]
    split <;> simp_all
theorem nodup_len : ∀ (n : Nat) (l : List Int), l.Nodup → (∀ x ∈ l, 1 ≤ x ∧ x ≤ n) → l.length ≤ n := by
  intro n
  induction n with
  | zero =>
    intro l _ h
    cases l with
    | nil => exact Nat.le_refl _
    | cons x l => have := h x List.mem_cons_self; omega
  | succ n ih =>
    intro l hn h
    have h1 := ih (l.filter (fun x => decide (x ≠ ((n : Int) + 1)))) (hn.filter _) (fun x hx => by
      obtain ⟨h1, h2⟩ := List.mem_filter.1 hx
      have := h x h1
      simp at h2
      omega)
    have h2 : l.length ≤ (l.filter (fun x => decide (x ≠ ((n : Int) + 1)))).length + 1 := by
      clear h1 ih h
      induction l with
      | nil => simp
      | cons x l ih =>
        rw [List.nodup_cons] at hn
        by_cases hx : x = (n : Int) + 1
        · have : l.filter (fun x => decide (x ≠ ((n : Int) + 1))) = l := List.filter_eq_self.2 (fun y hy => by
            simp only [decide_eq_true_eq]
            exact fun e => hn.1 (by rw [hx, ← e]; exact hy))
          rw [List.filter_cons, if_neg (by simp [hx]), this]; simp
        · rw [List.filter_cons, if_pos (by simp [hx])]
          have := ih hn.2
          simp only [List.length_cons]; omega
    omega

/-- A document that has applied the first changes, and holds some of the others: those behind the next are held (g = 1), or the next may be held, too (g = 0). -/
structure OrdG (g : Int) (S : ByteArray) (cs : List (List PE)) (s : DS) : Prop where
  m : ∃ m : Nat, m ≤ cs.length ∧ s.v = (m : Int) ∧ s.text = endT S (cs.take m)
  hs : ∀ x ∈ s.hs, ∃ (k : Nat) (h : k < cs.length), x.1 = (k : Int) + 1 ∧ x.2 = cs[k] ∧ s.v + g ≤ (k : Int)
  nd : (s.hs.map Prod.fst).Nodup
abbrev Ord (S : ByteArray) (cs : List (List PE)) (s : DS) : Prop := OrdG 1 S cs s
theorem OrdG.weak {S : ByteArray} {cs : List (List PE)} {s : DS} (h : Ord S cs s) : OrdG 0 S cs s := ⟨h.m, fun x hx => by obtain ⟨k, h1, h2, h3, h4⟩ := h.hs x hx; exact ⟨k, h1, h2, h3, by omega⟩, h.nd⟩
theorem Ord.new (S : ByteArray) (cs : List (List PE)) : Ord S cs (newS S 0) := ⟨⟨0, by omega, rfl, rfl⟩, fun x hx => by simp [newS] at hx, by simp [newS]⟩
/-- The next change is applied. -/
theorem ord_apl {S : ByteArray} {cs : List (List PE)} {s : DS} (hF : Fits S cs) {m : Nat} (hm : m < cs.length) (hv : s.v = (m : Int)) (ht : s.text = endT S (cs.take m)) :
    aplE s cs[m] = 0 ∧ (aplS s cs[m]).v = (m : Int) + 1 ∧ (aplS s cs[m]).text = endT S (cs.take (m + 1)) ∧ (aplS s cs[m]).hs = s.hs := by
  have h := hF.at_ m hm
  rw [← ht] at h
  refine ⟨?_, by rw [aplS_v, hv], by rw [aplS_text, endT_take hm, ht], rfl⟩
  unfold aplE
  rw [h.e, if_pos rfl]
  unfold advE
  rw [if_pos h.v, if_neg (by have := h.sz; omega)]
theorem key_of {s : DS} {k : Int} (h : k ∈ s.hs.map Prod.fst) : ∃ x ∈ s.hs, x.1 = k := by
  obtain ⟨x, h1, h2⟩ := List.mem_map.1 h
  exact ⟨x, h1, h2⟩
theorem ord_held {S : ByteArray} {cs : List (List PE)} (hF : Fits S cs) : ∀ (f : Nat) (s : DS), OrdG 0 S cs s → s.hs.length ≤ f →
    Ord S cs (hldF f s).2 ∧ (hldF f s).2.v = s.v + ((hldF f s).1 : Int) ∧ ∀ k ∈ s.hs.map Prod.fst, k ≤ (hldF f s).2.v ∨ k ∈ (hldF f s).2.hs.map Prod.fst := by
  intro f
  induction f with
  | zero =>
    intro s h hl
    have : s.hs = [] := List.eq_nil_of_length_eq_zero (by omega)
    exact ⟨⟨h.m, fun x hx => by rw [show (hldF 0 s).2 = s from rfl, this] at hx; simp at hx, h.nd⟩, by simp [hldF], fun k hk => .inr hk⟩
  | succ f ih =>
    intro s h hl
    obtain ⟨m, hm1, hm2, hm3⟩ := h.m
    simp only [hldF]
    by_cases hin : s.v + 1 ∈ s.hs.map Prod.fst
    · obtain ⟨k, hk, e1, e2, e3⟩ := h.hs _ (lookH_mem hin)
      simp only at e1 e2
      obtain rfl : k = m := by omega
      have ht : (dropH s).text = endT S (cs.take k) := hm3
      obtain ⟨a1, a2, a3, a4⟩ := ord_apl (s := dropH s) hF hk hm2 ht
      rw [if_pos hin, e2, if_pos a1]
      have hlen := delH_len h.nd hin
      have hkeys := delH_keys2 s.hs (s.v + 1)
      have hd : (dropH s).hs = delH s.hs (s.v + 1) := rfl
      obtain ⟨i1, i2, i3⟩ := ih (aplS (dropH s) cs[k]) ⟨⟨k + 1, by omega, by rw [a2]; rfl, a3⟩, fun x hx => by
        rw [a4, hd] at hx
        obtain ⟨q1, q2⟩ := List.mem_filter.1 hx
        obtain ⟨j, hj, j1, j2, j3⟩ := h.hs x q1
        simp only [decide_eq_true_eq] at q2
        exact ⟨j, hj, j1, j2, by rw [a2]; omega⟩, by rw [a4, hd, hkeys]; exact h.nd.filter _⟩ (by rw [a4, hd]; omega)
      refine ⟨i1, ?_, fun x hx => ?_⟩
      · simp only [i2, a2]; omega
      · by_cases hxe : x = s.v + 1
        · subst hxe
          refine .inl ?_
          simp only [i2, a2]; omega
        · exact i3 x (by rw [a4, hd, hkeys]; exact List.mem_filter.2 ⟨hx, by simp [hxe]⟩)
    · rw [if_neg hin]
      refine ⟨⟨h.m, fun x hx => ?_, h.nd⟩, by simp, fun k hk => .inr hk⟩
      obtain ⟨k, hk, e1, e2, e3⟩ := h.hs x hx
      refine ⟨k, hk, e1, e2, ?_⟩
      have hne : x.1 ≠ s.v + 1 := fun e => hin (e ▸ List.mem_map.2 ⟨x, hx, rfl⟩)
      simp only
      omega
theorem chk_twice {s : DS} {cv : Int} {n : Nat} (h1 : 1 ≤ cv) (h2 : cv ≤ 1099511627776) (hn : n ≤ 64) (h : cv ≤ s.v ∨ cv ∈ s.hs.map Prod.fst) : chkE s cv n = 8 := by
  unfold chkE
  rw [if_neg (by omega), if_neg (by omega), if_pos (h.elim .inl .inr)]
theorem chk_zero {s : DS} {cv : Int} {n : Nat} (h1 : 1 ≤ cv) (h2 : cv ≤ 1099511627776) (hn : n ≤ 64) (h3 : s.v < cv) (h4 : cv ∉ s.hs.map Prod.fst) (h5 : s.v + 1 < cv → s.hs.length < 16) : chkE s cv n = 0 := by
  unfold chkE
  rw [if_neg (by omega), if_neg (by omega), if_neg (fun e => e.elim (fun e => by omega) h4), if_neg (fun e => by have := h5 e.1; omega)]
/-- A change arrives. -/
theorem ord_step {S : ByteArray} {cs : List (List PE)} (hF : Fits S cs) (hn : cs.length ≤ 16) {s : DS} (h : Ord S cs s) {k : Nat} (hk : k < cs.length) :
    ∃ (n e : Int) (s' : DS), rcvF s ((k : Int) + 1) cs[k] = ((n, e), s') ∧ Ord S cs s' ∧ s'.v = s.v + n ∧ 0 ≤ n ∧ (e = 0 ∨ e = 8) ∧ ((k : Int) + 1 ≤ s'.v ∨ (k : Int) + 1 ∈ s'.hs.map Prod.fst) ∧ ∀ r ∈ s.hs.map Prod.fst, r ≤ s'.v ∨ r ∈ s'.hs.map Prod.fst := by
  obtain ⟨m, hm1, hm2, hm3⟩ := h.m
  have hl : cs[k].length ≤ 64 := by have := (hF.mem hk).1; omega
  by_cases h1 : (k : Int) + 1 ≤ s.v ∨ (k : Int) + 1 ∈ s.hs.map Prod.fst
  · refine ⟨0, 8, s, ?_, h, by omega, by omega, .inr rfl, h1, fun r hr => .inr hr⟩
    unfold rcvF
    rw [chk_twice (by omega) (by omega) hl h1, if_pos (by decide)]
  · have hlen : s.hs.length ≤ 15 := by
      have := nodup_len 15 ((s.hs.map Prod.fst).map (fun x => x - 1)) (by
        refine List.Pairwise.map _ (fun a b hab => ?_) h.nd
        omega) (fun x hx => by
        obtain ⟨y, hy, rfl⟩ := List.mem_map.1 hx
        obtain ⟨z, hz, rfl⟩ := key_of hy
        obtain ⟨j, hj, j1, j2, j3⟩ := h.hs z hz
        omega)
      simpa using this
    have hc : chkE s ((k : Int) + 1) cs[k].length = 0 := chk_zero (by omega) (by omega) hl (by omega) (fun e => h1 (.inr e)) (fun _ => by omega)
    by_cases h2 : s.v + 1 < (k : Int) + 1
    · refine ⟨0, 0, holdS s ((k : Int) + 1) cs[k], ?_, ?_, by show s.v = _; omega, by omega, .inl rfl, .inr ?_, fun r hr => .inr ?_⟩
      · unfold rcvF
        rw [hc, if_neg (by simp), if_pos h2]
      · refine ⟨⟨m, hm1, hm2, hm3⟩, fun x hx => ?_, ?_⟩
        · rcases List.mem_append.1 hx with hx | hx
          · exact h.hs x hx
          · simp only [List.mem_singleton] at hx
            subst hx
            exact ⟨k, hk, rfl, rfl, by show s.v + 1 ≤ _; omega⟩
        · show ((s.hs ++ [((k : Int) + 1, cs[k])]).map Prod.fst).Nodup
          rw [List.map_append]
          exact List.nodup_append.2 ⟨h.nd, by simp, fun a ha b hb => by simp at hb; subst hb; exact fun e => h1 (.inr (e ▸ ha))⟩
      · show _ ∈ (s.hs ++ [((k : Int) + 1, cs[k])]).map Prod.fst
        simp
      · show _ ∈ (s.hs ++ [((k : Int) + 1, cs[k])]).map Prod.fst
        rw [List.map_append]
        exact List.mem_append_left _ hr
    · obtain rfl : k = m := by omega
      obtain ⟨a1, a2, a3, a4⟩ := ord_apl (s := s) hF hk hm2 hm3
      have hw : OrdG 0 S cs (aplS s cs[k]) := ⟨⟨k + 1, by omega, by rw [a2]; rfl, a3⟩, fun x hx => by
        rw [a4] at hx
        obtain ⟨j, hj, j1, j2, j3⟩ := h.hs x hx
        exact ⟨j, hj, j1, j2, by rw [a2]; omega⟩, by rw [a4]; exact h.nd⟩
      obtain ⟨i1, i2, i3⟩ := ord_held hF s.hs.length (aplS s cs[k]) hw (by rw [a4]; exact Nat.le_refl _)
      refine ⟨1 + ((hldF s.hs.length (aplS s cs[k])).1 : Int), 0, (hldF s.hs.length (aplS s cs[k])).2, ?_, i1, by rw [i2, a2]; omega, by omega, .inl rfl, .inl (by rw [i2, a2]; omega), fun r hr => i3 r (by rw [a4]; exact hr)⟩
      unfold rcvF
      rw [hc, if_neg (by simp), if_neg h2, a1, if_neg (by simp)]
/-- The changes in order. -/
theorem ord_next {S : ByteArray} {cs : List (List PE)} (hF : Fits S cs) (hn : cs.length ≤ 16) {s : DS} {k : Nat} (hk : k < cs.length) (hv : s.v = (k : Int)) (ht : s.text = endT S (cs.take k)) (hh : s.hs = []) :
    ∃ s', rcvF s ((k : Int) + 1) cs[k] = ((1, 0), s') ∧ s'.v = (k : Int) + 1 ∧ s'.text = endT S (cs.take (k + 1)) ∧ s'.hs = [] := by
  have hl : cs[k].length ≤ 64 := by have := (hF.mem hk).1; omega
  have hc : chkE s ((k : Int) + 1) cs[k].length = 0 := chk_zero (by omega) (by omega) hl (by omega) (by simp [hh]) (fun _ => by simp [hh])
  obtain ⟨a1, a2, a3, a4⟩ := ord_apl (s := s) hF hk hv ht
  refine ⟨aplS s cs[k], ?_, a2, a3, by rw [a4, hh]⟩
  unfold rcvF
  rw [hc, if_neg (by simp), if_neg (by omega), a1, if_neg (by simp), hh]
  rfl
/-- All have arrived. -/
theorem ord_all {S : ByteArray} {cs : List (List PE)} {s : DS} (h : Ord S cs s) (ha : ∀ k, k < cs.length → (k : Int) + 1 ≤ s.v ∨ (k : Int) + 1 ∈ s.hs.map Prod.fst) : s.v = (cs.length : Int) ∧ s.text = endT S cs ∧ s.hs = [] := by
  obtain ⟨m, hm1, hm2, hm3⟩ := h.m
  have hm : m = cs.length := by
    refine Nat.le_antisymm hm1 (Nat.le_of_not_lt (fun hlt => ?_))
    rcases ha m hlt with h1 | h1
    · omega
    · obtain ⟨x, hx, hx1⟩ := key_of h1
      obtain ⟨k, hk, e1, _, e3⟩ := h.hs x hx
      omega
  subst hm
  rw [List.take_length] at hm3
  refine ⟨hm2, hm3, ?_⟩
  cases hh : s.hs with
  | nil => rfl
  | cons x l =>
    obtain ⟨k, hk, e1, _, e3⟩ := h.hs x (by rw [hh]; exact List.mem_cons_self)
    omega

end Go.Proofs.YtkehgoailhpenaaGreat

/- Lists of changes in memory. It has no conditions. -/
namespace Go.Proofs.YtkehgoailhpenaaGreat
open Go.RowKit Go.Shelf Go.Maps
set_option linter.unusedVariables false

theorem infoCh : (Tryz.prog.info? 47).map (fun i => (i.zero, i.size, i.bytes)) = some (some (.agg #[.int .i64 0, .slice none 0 0]), 2, 32) := by kernel_rfl
/-- The cells of changes: a version and a list of edits each. -/
def cv (vs : List (Int × Value)) : List Value := vs.flatMap fun x => [.int .i64 x.1, x.2]
def cG (vs : List (Int × Value)) (k : Nat) : Int × Value := vs[k]?.getD (0, .slice none 0 0)
theorem cv_len (vs : List (Int × Value)) : (cv vs).length = vs.length * 2 := by
  induction vs with
  | nil => rfl
  | cons x vs ih => simp only [cv, List.flatMap_cons, List.length_append] at ih ⊢; rw [ih]; simp; omega
theorem cv_app (a b : List (Int × Value)) : cv (a ++ b) = cv a ++ cv b := by simp [cv]
theorem cv_get : ∀ (vs : List (Int × Value)) (k : Nat), k < vs.length → (cv vs)[k * 2]? = some (.int .i64 (cG vs k).1) ∧ (cv vs)[k * 2 + 1]? = some (cG vs k).2 := by
  intro vs
  induction vs with
  | nil => intro k h; simp at h
  | cons x vs ih =>
    intro k h
    have e : cv (x :: vs) = Value.int .i64 x.1 :: x.2 :: cv vs := rfl
    rw [e]
    cases k with
    | zero => exact ⟨rfl, rfl⟩
    | succ k =>
      have := ih k (by simpa using h)
      rw [show (k + 1) * 2 = k * 2 + 1 + 1 by omega]
      exact this
theorem cG_app1 {a b : List (Int × Value)} {k : Nat} (h : k < a.length) : cG (a ++ b) k = cG a k := by unfold cG; rw [List.getElem?_append_left h]
theorem cG_app2 (a : List (Int × Value)) (x : Int × Value) : cG (a ++ [x]) a.length = x := by unfold cG; simp
theorem cG_mem {vs : List (Int × Value)} {k : Nat} (h : k < vs.length) : cG vs k ∈ vs := by unfold cG; rw [List.getElem?_eq_getElem h]; exact List.getElem_mem h
/-- The values of changes are slices. -/
def VOk (vs : List (Int × Value)) : Prop := ∀ x ∈ vs, ∃ a n c, x.2 = .slice a n c
theorem VOk.one {vs : List (Int × Value)} (h : VOk vs) : ∀ u ∈ cv vs, u.oneCell' = true := by
  intro u hu
  obtain ⟨p, hp1, hp⟩ := List.mem_flatMap.1 hu
  simp only [List.mem_cons, List.not_mem_nil, or_false] at hp
  rcases hp with rfl | rfl
  · rfl
  · obtain ⟨a, n, c, e⟩ := h p hp1
    rw [e]; rfl
/-- A slice of changes lies in memory, below block B. -/
structure VS (B : Nat) (w : World) (a : Option Addr) (cap : Nat) (vs : List (Int × Value)) : Prop where
  le : vs.length ≤ cap
  mx : cap ≤ 9223372036854775807
  nil : a = none → cap = 0
  cells : vs.length = 0 ∨ ∃ b off, a = some ⟨b, off, none⟩ ∧ b < B ∧ ∀ k, k < vs.length → w.cell? ⟨b, off + k * 2, none⟩ = some (.int .i64 (cG vs k).1) ∧ w.cell? ⟨b, off + k * 2 + 1, none⟩ = some (cG vs k).2
theorem VS.keep {B : Nat} {w w' : World} {a : Option Addr} {cap : Nat} {vs : List (Int × Value)} (h : VS B w a cap vs) (hb : ∀ b, blkOf a b → b < B → w'.heap[b]? = w.heap[b]?) : VS B w' a cap vs := by
  refine ⟨h.le, h.mx, h.nil, ?_⟩
  rcases h.cells with h0 | ⟨b, off, h1, h2, h3⟩
  · exact .inl h0
  · have he := hb b ⟨off, h1⟩ h2
    refine .inr ⟨b, off, h1, h2, fun k hk => ?_⟩
    have := h3 k hk
    simp only [World.cell?, he] at this ⊢
    exact this
theorem VS.mono {B B' : Nat} {w : World} {a : Option Addr} {cap : Nat} {vs : List (Int × Value)} (h : VS B w a cap vs) (hb : B ≤ B') : VS B' w a cap vs := by
  refine ⟨h.le, h.mx, h.nil, ?_⟩
  rcases h.cells with h0 | ⟨b, off, h1, h2, h3⟩
  · exact .inl h0
  · exact .inr ⟨b, off, h1, by omega, h3⟩
theorem VS.on {w w' : World} {a : Option Addr} {cap : Nat} {vs : List (Int × Value)} (h : VS w.heap.size w a cap vs) (hb : Below w.heap.size w w') : VS w'.heap.size w' a cap vs := (h.keep (fun b _ hlt => hb.block b hlt)).mono hb.size
theorem vs_of_own {w : World} {lo n : Nat} {v : Value} {vs : List (Int × Value)} (h : w.ownsRow lo 47 2 v n (cv vs)) : n = vs.length ∧ ∃ a cap, v = .slice a vs.length cap ∧ VS w.heap.size w a cap vs ∧ (∀ b, blkOf a b → lo ≤ b) ∧ v.ownBlock = a.map Addr.block := by
  have hn : n = vs.length := by have := h.1; rw [cv_len] at this; omega
  subst hn
  refine ⟨rfl, ?_⟩
  rcases h.2 with ⟨rfl, h0⟩ | ⟨g, cap, cur, rfl, hb, hg, hle, hmx, _⟩
  · rw [h0]
    exact ⟨none, 0, rfl, ⟨by omega, by omega, fun _ => rfl, .inl h0⟩, (fun b hb => by obtain ⟨_, hb⟩ := hb; cases hb), rfl⟩
  · refine ⟨_, cap, rfl, ⟨hle, by unfold maxLen at hmx; omega, (fun h => by cases h), .inr ⟨g, 0, rfl, (Array.getElem?_eq_some_iff.1 hg).1, fun k hk => ?_⟩⟩, (fun b hb' => by obtain ⟨_, hb'⟩ := hb'; cases hb'; exact hb), rfl⟩
    have hl := cv_len vs
    have hg2 := cv_get vs k hk
    rw [Nat.zero_add, h.cellAt (k * 2) (by omega), h.cellAt (k * 2 + 1) (by omega)]
    exact hg2
/-- The cells of the first changes, for an append of them. -/
theorem vscells_at {w : World} {b off : Nat} {vs : List (Int × Value)} (h : ∀ k, k < vs.length → w.cell? ⟨b, off + k * 2, none⟩ = some (.int .i64 (cG vs k).1) ∧ w.cell? ⟨b, off + k * 2 + 1, none⟩ = some (cG vs k).2) : ∀ j u, (cv vs)[j]? = some u → w.cell? ((⟨b, off, none⟩ : Addr).add j) = some u := by
  intro j u hj
  have hlt : j < vs.length * 2 := by
    have := (List.getElem?_eq_some_iff.1 hj).1
    rwa [cv_len] at this
  obtain ⟨k, i, rfl, hi, hk⟩ := div_ex (by omega) hlt
  have h1 := cv_get vs k hk
  have h2 := h k hk
  rw [addr_add]
  have h3 : i = 0 ∨ i = 1 := by omega
  rcases h3 with rfl | rfl
  · rw [Nat.add_zero] at hj ⊢
    rw [h1.1] at hj; rw [h2.1, hj]
  · rw [h1.2] at hj; rw [← Nat.add_assoc, h2.2, hj]
/-- What changes hold: versions from 1 on, and their edits, in blocks of G. -/
def Held1 (G : Nat → Prop) (w : World) (vs : List (Int × Value)) (cs : List (List PE)) : Prop := vs.length = cs.length ∧ ∀ k, k < cs.length → (cG vs k).1 = (k : Int) + 1 ∧ PsG G w (cG vs k).2 (cs[k]?.getD [])
theorem Held1.keep {G G' : Nat → Prop} {w w' : World} {vs : List (Int × Value)} {cs : List (List PE)} (h : Held1 G w vs cs) (hz : w.heap.size ≤ w'.heap.size) (hG : ∀ b, G b → b < w.heap.size → w'.heap[b]? = w.heap[b]?) (hg : ∀ b, G b → b < w.heap.size → G' b) : Held1 G' w' vs cs := by
  refine ⟨h.1, fun k hk => ⟨(h.2 k hk).1, ?_⟩⟩
  obtain ⟨a, cap, h1, h2, h3, h5⟩ := (h.2 k hk).2
  refine ⟨a, cap, h1, h2, h3, ?_⟩
  rcases h5 with h5 | ⟨b, off, k1, k2, k3, k4⟩
  · exact .inl h5
  · refine .inr ⟨b, off, k1, hg b k2 k3, by omega, fun k hk i hi => ?_⟩
    rw [← k4 k hk i hi]
    simp only [World.cell?, hG b k2 k3]
theorem Held1.ok {G : Nat → Prop} {w : World} {vs : List (Int × Value)} {cs : List (List PE)} (h : Held1 G w vs cs) : VOk vs := by
  intro x hx
  obtain ⟨k, hk, rfl⟩ := List.getElem_of_mem hx
  obtain ⟨a, cap, h1, _⟩ := (h.2 k (by have := h.1; omega)).2
  have : cG vs k = vs[k] := by unfold cG; rw [List.getElem?_eq_getElem hk]; rfl
  exact ⟨a, _, cap, by rw [← this, h1]⟩
theorem Held1.snoc {G : Nat → Prop} {w : World} {vs : List (Int × Value)} {cs : List (List PE)} {p : List PE} {u : Value} (h : Held1 G w vs cs) (hu : PsG G w u p) : Held1 G w (vs ++ [((cs.length : Int) + 1, u)]) (cs ++ [p]) := by
  have hl := h.1
  refine ⟨by simp [hl], fun k hk => ?_⟩
  by_cases hk2 : k < cs.length
  · rw [cG_app1 (by omega), List.getElem?_append_left hk2]
    exact h.2 k hk2
  · obtain rfl : k = cs.length := by simp at hk; omega
    have : cG (vs ++ [((cs.length : Int) + 1, u)]) cs.length = ((cs.length : Int) + 1, u) := by rw [← hl]; exact cG_app2 _ _
    rw [this]
    simp
    exact hu

end Go.Proofs.YtkehgoailhpenaaGreat

/- What a list of changes in memory holds. It has no conditions. -/
namespace Go.Proofs.YtkehgoailhpenaaGreat
open Go.RowKit Go.Shelf Go.Maps
set_option linter.unusedVariables false

/-- What changes hold. -/
def HeldA (G : Nat → Prop) (w : World) (vs : List (Int × Value)) (As : List (Int × List PE)) : Prop := vs.length = As.length ∧ ∀ k x, As[k]? = some x → (cG vs k).1 = x.1 ∧ PsG G w (cG vs k).2 x.2
theorem HeldA.keep {G G' : Nat → Prop} {w w' : World} {vs : List (Int × Value)} {As : List (Int × List PE)} (h : HeldA G w vs As) (hz : w.heap.size ≤ w'.heap.size) (hb : ∀ b, G b → b < w.heap.size → w'.heap[b]? = w.heap[b]?) (hg : ∀ b, G b → G' b) : HeldA G' w' vs As :=
  ⟨h.1, fun k x hk => ⟨(h.2 k x hk).1, (h.2 k x hk).2.keep hz hb hg⟩⟩
theorem HeldA.on {G : Nat → Prop} {w w' : World} {vs : List (Int × Value)} {As : List (Int × List PE)} (h : HeldA G w vs As) (hb : Below w.heap.size w w') : HeldA G w' vs As :=
  ⟨h.1, fun k x hk => ⟨(h.2 k x hk).1, (h.2 k x hk).2.keep hb.size (fun b _ hlt => hb.block b hlt) (fun _ h => h)⟩⟩
theorem HeldA.ok {G : Nat → Prop} {w : World} {vs : List (Int × Value)} {As : List (Int × List PE)} (h : HeldA G w vs As) : VOk vs := by
  intro x hx
  obtain ⟨k, hk, rfl⟩ := List.getElem_of_mem hx
  obtain ⟨_, h2⟩ := h.2 k _ (List.getElem?_eq_getElem (by have := h.1; omega))
  obtain ⟨a, cap, h1, _⟩ := h2
  have : cG vs k = vs[k] := by unfold cG; rw [List.getElem?_eq_getElem hk]; rfl
  exact ⟨a, _, cap, by rw [← this, h1]⟩
/-- One change is replaced. -/
theorem HeldA.set {G : Nat → Prop} {w : World} {vs : List (Int × Value)} {As : List (Int × List PE)} (h : HeldA G w vs As) {i : Nat} (hi : i < As.length) {x : Int} {u : Value} {ps : List PE} (hu : PsG G w u ps) : HeldA G w (vs.set i (x, u)) (As.set i (x, ps)) := by
  have hl := h.1
  refine ⟨by simp [hl], fun k y hk => ?_⟩
  by_cases e : i = k
  · subst e
    rw [List.getElem?_set_self hi] at hk
    cases hk
    have : cG (vs.set i (x, u)) i = (x, u) := by unfold cG; rw [List.getElem?_set_self (by omega)]; rfl
    rw [this]
    exact ⟨rfl, hu⟩
  · rw [List.getElem?_set_ne e] at hk
    have : cG (vs.set i (x, u)) k = cG vs k := by unfold cG; rw [List.getElem?_set_ne e]
    rw [this]
    exact h.2 k y hk
/-- Changes that a document takes or refuses. -/
def ChOk (As : List (Int × List PE)) : Prop := ∀ x ∈ As, (-9223372036854775808 ≤ x.1 ∧ x.1 ≤ 9223372036854775807) ∧ x.2.length ≤ 64 ∧ ∀ q ∈ x.2, q.fit ∧ q.t.size ≤ 100000
theorem ChOk.set {As : List (Int × List PE)} (h : ChOk As) {i : Nat} {x : Int × List PE} (hx : (-9223372036854775808 ≤ x.1 ∧ x.1 ≤ 9223372036854775807) ∧ x.2.length ≤ 64 ∧ ∀ q ∈ x.2, q.fit ∧ q.t.size ≤ 100000) : ChOk (As.set i x) := by
  intro y hy
  rcases List.mem_or_eq_of_mem_set hy with h1 | rfl
  · exact h y h1
  · exact hx
/-- Changes as they come out of an order. -/
def ChSm (As : List (Int × List PE)) : Prop := ∀ x ∈ As, (1 ≤ x.1 ∧ x.1 ≤ 100) ∧ x.2.length ≤ 5 ∧ ∀ q ∈ x.2, q.fit ∧ q.t.size ≤ 100000
theorem ChSm.ok {As : List (Int × List PE)} (h : ChSm As) : ChOk As := fun x hx => by
  obtain ⟨h1, h2, h3⟩ := h x hx
  exact ⟨by omega, by omega, h3⟩

end Go.Proofs.YtkehgoailhpenaaGreat

/- The reference's document: its state, and how it lies in memory. It has no conditions. -/
namespace Go.Proofs.YtkehgoailhpenaaGreat
open Go.RowKit Go.Shelf Go.Maps
set_option linter.unusedVariables false

/-- The state of the reference's document: its first version, the texts of all versions with the edits that led to each, what it holds. -/
structure RS where
  f : Int
  h : List (ByteArray × List Er)
  hs : List (Int × List PE)
def RS.v (r : RS) : Int := r.f + r.h.length - 1
def RS.text (r : RS) : ByteArray := (r.h.getLast?.getD (⟨#[]⟩, [])).1
structure RsOk (r : RS) : Prop where
  f0 : 0 ≤ r.f
  f1 : r.f ≤ 1099511627776
  ne : r.h ≠ []
  len : r.h.length ≤ 1000
  text : ∀ x ∈ r.h, x.1.size ≤ 4096
  eds : ∀ x ∈ r.h, x.2.length ≤ 64 ∧ ∀ e ∈ x.2, e.Fit
  hlen : r.hs.length ≤ 16
  held : ∀ x ∈ r.hs, x.2.length ≤ 64 ∧ ∀ p ∈ x.2, p.fit ∧ p.t.size ≤ 100000
  hk : ∀ x ∈ r.hs, 1 ≤ x.1 ∧ x.1 ≤ 1099511627776
def strs (h : List (ByteArray × List Er)) : List Value := h.map (fun x => .string x.1)
theorem strs_len (h : List (ByteArray × List Er)) : (strs h).length = h.length := by simp [strs]
theorem strs_get (h : List (ByteArray × List Er)) (k : Nat) (hk : k < h.length) : (strs h)[k]? = some (.string (h[k]).1) := by simp [strs, hk]
/-- The reference's document lies at block p: T are the blocks that a call on it writes, G those of its lists of edits. -/
structure RDocI (T G : Nat → Prop) (w : World) (p : Nat) (r : RS) : Prop where
  ok : RsOk r
  mem : ∃ vT vE vH us hv, Blk w p 76 #[.int .i64 r.f, vT, vE, vH] ∧ w.ownsRow 0 9 1 vT r.h.length (strs r.h) ∧ w.ownsRow 0 38 1 vE r.h.length us ∧ All2 (fun u x => EsG G w u x.2) us r.h ∧
    w.ownsRow 0 47 2 vH r.hs.length (cv hv) ∧ HeldA G w hv r.hs ∧ ∀ b, vT.ownBlock = some b ∨ vE.ownBlock = some b ∨ vH.ownBlock = some b → T b
  tp : T p
  lt : ∀ b, T b → b < w.heap.size
  glt : ∀ b, G b → b < w.heap.size
  apart : ∀ b, T b → ¬ G b
theorem RDocI.keep {T G : Nat → Prop} {w w' : World} {p : Nat} {r : RS} (h : RDocI T G w p r) (hz : w.heap.size ≤ w'.heap.size) (hb : ∀ b, T b ∨ G b → w'.heap[b]? = w.heap[b]?) : RDocI T G w' p r := by
  obtain ⟨vT, vE, vH, us, hv, h1, h2, h3, h4, h5, h6, h7⟩ := h.mem
  refine ⟨h.ok, ⟨vT, vE, vH, us, hv, h1.same (hb p (.inl h.tp)), own_same h2 (fun g hg => hb g (.inl (h7 g (.inl hg)))), own_same h3 (fun g hg => hb g (.inl (h7 g (.inr (.inl hg))))), ?_, own_same h5 (fun g hg => hb g (.inl (h7 g (.inr (.inr hg))))), h6.keep hz (fun b hG _ => hb b (.inr hG)) (fun _ h => h), h7⟩, h.tp, fun b hb' => by have := h.lt b hb'; omega, fun b hb' => by have := h.glt b hb'; omega, h.apart⟩
  exact h4.mono (fun u x hux => hux.keep hz (fun b hG _ => hb b (.inr hG)) (fun _ h => h))
theorem RDocI.below {T G : Nat → Prop} {w w' : World} {p : Nat} {r : RS} (h : RDocI T G w p r) (hb : Below w.heap.size w w') : RDocI T G w' p r :=
  h.keep hb.size (fun b hT => hb.block b (hT.elim (h.lt b) (h.glt b)))
theorem RDocI.apartFrom {T G T1 G1 T1' G1' : Nat → Prop} {w w' : World} {p : Nat} {r : RS} (h : RDocI T G w p r) (k : Stp T1 G1 T1' G1' w w') (h1 : ∀ b, T b ∨ G b → ¬ T1 b) : RDocI T G w' p r :=
  h.keep k.only.size (fun b hb => k.only.block b (hb.elim (h.lt b) (h.glt b)) (h1 b hb))
/-- The cells of the reference's document, in a form that a walk reads. -/
theorem RDocI.cells {T G : Nat → Prop} {w : World} {p : Nat} {r : RS} (h : RDocI T G w p r) : ∃ g cap n vE vH, n + 1 = r.h.length ∧ n + 1 ≤ cap ∧ w.cell? ⟨p, 0, none⟩ = some (.int .i64 r.f) ∧ w.cell? ⟨p, 1, none⟩ = some (.slice (some ⟨g, 0, none⟩) (n + 1) cap) ∧ w.cell? ⟨p, 2, none⟩ = some vE ∧ w.cell? ⟨p, 3, none⟩ = some vH ∧ (∀ k (hk : k < r.h.length), w.cell? ⟨g, k, none⟩ = some (.string (r.h[k]).1)) ∧ p < w.heap.size ∧ g < w.heap.size := by
  obtain ⟨vT, vE, vH, us, hv, h1, h2, h3, h4, h5, h6, h7⟩ := h.mem
  have hpos : 0 < r.h.length := List.length_pos_iff.2 h.ok.ne
  obtain ⟨n, hn⟩ : ∃ n, n + 1 = r.h.length := ⟨r.h.length - 1, by omega⟩
  have c0 := h1.cell 0
  have c1 := h1.cell 1
  have c2 := h1.cell 2
  have c3 := h1.cell 3
  simp only [List.getElem?_toArray, List.getElem?_cons_zero, List.getElem?_cons_succ] at c0 c1 c2 c3
  rw [← hn] at h2
  obtain ⟨g, cap, rfl⟩ := ownsRow_succ h2
  have hcap : n + 1 ≤ cap := by
    rcases h2.2 with ⟨hv, _⟩ | ⟨g', cp, cur, hv, _, _, h1, _⟩
    · simp at hv
    · simp only [Value.slice.injEq] at hv; omega
  refine ⟨g, cap, n, vE, vH, hn, hcap, c0, c1, c2, c3, fun k hk => ?_, h1.lt, (h2.lt g rfl).2⟩
  rw [h2.cellAt k (by omega), strs_get r.h k hk]
theorem RS.text_at {r : RS} {n : Nat} (hn : n + 1 = r.h.length) : r.text = (r.h[n]'(by omega)).1 := by
  unfold RS.text
  rw [List.getLast?_eq_getElem?, show r.h.length - 1 = n by omega, List.getElem?_eq_getElem (by omega)]
  rfl

set_option maxRecDepth 100000 in
set_option maxHeartbeats 1000000 in
theorem rversion_any (T G : Nat → Prop) (p : Nat) (r : RS) (w : World) (h : RDocI T G w p r) :
    Calls Tryz.prog 39 #[.pointer (some ⟨p, 0, none⟩)] w fun e w' => e = .returned (.int .i64 r.v) ∧ Below w.heap.size w w' := by
  have hl := h.ok.len
  have hf0 := h.ok.f0
  have hf1 := h.ok.f1
  obtain ⟨g, cap, n, vE, vH, h1, h2, c0, c1, _, _, _, _, _⟩ := h.cells
  have hv : r.v = r.f + (n : Int) := by unfold RS.v; omega
  rw [hv]
  obtain ⟨N, hN⟩ : ∃ N, n + 1 = N := ⟨_, rfl⟩
  rw [hN] at c1 h1 h2
  obtain ⟨f, hf⟩ : ∃ f, r.f = f := ⟨_, rfl⟩
  rw [hf] at c0 hf0 hf1 ⊢
  have hj1 : IntKind.i64.wrap (f + (N : Int)) = f + (N : Int) := by simp [IntKind.wrap, IntKind.signed, IntKind.bits]; omega
  have hj2 : IntKind.i64.wrap (f + (N : Int) - 1) = f + (n : Int) := by simp [IntKind.wrap, IntKind.signed, IntKind.bits]; omega
  clear h h1 hN hv hf
  go_enter Tryz.func39, Tryz.ntmps39
  go_wp2_with fail
  go_quiet (fail)
  go_wp2
  go_ret
  exact ⟨rfl, below_drewN (Below.refl _ _) _⟩

set_option maxRecDepth 100000 in
set_option maxHeartbeats 1000000 in
theorem rtxt_any (T G : Nat → Prop) (p : Nat) (r : RS) (w : World) (h : RDocI T G w p r) :
    Calls Tryz.prog 41 #[.pointer (some ⟨p, 0, none⟩)] w fun e w' => e = .returned (.string r.text) ∧ Below w.heap.size w w' := by
  have hl := h.ok.len
  obtain ⟨g, cap, n, vE, vH, h1, h2, c0, c1, _, _, c4, _, _⟩ := h.cells
  have c3 := c4 n (by omega)
  rw [← RS.text_at h1] at c3
  obtain ⟨N, hN⟩ : ∃ N, n + 1 = N := ⟨_, rfl⟩
  rw [hN] at c1 h1 h2
  obtain ⟨t, ht⟩ : ∃ t, r.text = t := ⟨_, rfl⟩
  rw [ht] at c3 ⊢
  have hj1 : IntKind.i64.wrap ((N : Int) - 1) = (n : Int) := by simp [IntKind.wrap, IntKind.signed, IntKind.bits]; omega
  have hj2 : (n : Int) < (N : Int) := by omega
  clear h ht h1 hN c0 c4
  go_enter Tryz.func41, Tryz.ntmps41
  go_wp2_with fail
  go_quiet (fail)
  go_wp2
  go_ret
  exact ⟨rfl, below_drewN (Below.refl _ _) _⟩

end Go.Proofs.YtkehgoailhpenaaGreat

/- The contracts of the reference's New, and of find. It has no conditions. -/
namespace Go.Proofs.YtkehgoailhpenaaGreat
open Go.RowKit Go.Shelf Go.Maps
set_option linter.unusedVariables false

def rnewS (t : ByteArray) (v : Int) : RS := ⟨v, [(t, [])], []⟩
set_option maxRecDepth 100000 in
set_option maxHeartbeats 2000000 in
theorem rnew_any (t : ByteArray) (v : Int) (w : World) :
    Calls Tryz.prog 8 #[.string t, .int .i64 v] w fun e w' =>
      (newE t v ≠ 0 ∧ e = .returned (.tuple #[.pointer none, .int .i64 (newE t v)]) ∧ Below w.heap.size w w') ∨
      (newE t v = 0 ∧ ∃ p, e = .returned (.tuple #[.pointer (some ⟨p, 0, none⟩), .int .i64 0]) ∧ RDocI (newB w w') (fun _ => False) w' p (rnewS t v) ∧ Below w.heap.size w w') := by
  by_cases h1 : 4096 < t.size
  · have hE : newE t v = 4 := by unfold newE; rw [if_pos h1]
    rw [hE]
    have h2 : (4096 : Int) < (t.size : Int) := by omega
    clear hE
    go_enter Tryz.func8, Tryz.ntmps8
    go_wp2
    go_ret2
    first | exact .inl ⟨by decide, rfl, Below.refl _ _⟩ | exact ⟨rfl, Below.refl _ _⟩
  have h2 : ¬ (4096 : Int) < (t.size : Int) := by omega
  by_cases h3 : v < 0
  · have hE : newE t v = 1 := by unfold newE; rw [if_neg h1, if_pos (.inl h3)]
    rw [hE]
    clear hE
    go_enter Tryz.func8, Tryz.ntmps8
    go_wp2
    go_ret2
    first | exact .inl ⟨by decide, rfl, Below.refl _ _⟩ | exact ⟨rfl, Below.refl _ _⟩
  by_cases h4 : 1099511627776 < v
  · have hE : newE t v = 1 := by unfold newE; rw [if_neg h1, if_pos (.inr h4)]
    rw [hE]
    clear hE
    go_enter Tryz.func8, Tryz.ntmps8
    go_wp2
    go_ret2
    first | exact .inl ⟨by decide, rfl, Below.refl _ _⟩ | exact ⟨rfl, Below.refl _ _⟩
  have hE : newE t v = 0 := by unfold newE; rw [if_neg h1, if_neg (by omega)]
  rw [hE]
  obtain ⟨q, hq⟩ : ∃ q, w.heap.size = q := ⟨_, rfl⟩
  obtain ⟨W1, hW1⟩ : ∃ W, w.alloc (.cells #[.string t] 9) = W := ⟨_, rfl⟩
  obtain ⟨W2, hW2⟩ : ∃ W, W1.alloc (.cells #[.slice none 0 0] 38) = W := ⟨_, rfl⟩
  obtain ⟨W3, hW3⟩ : ∃ W, W2.alloc (.cells #[.int .i64 v, .slice (some ⟨q, 0, none⟩) 1 1, .slice (some ⟨q + 1, 0, none⟩) 1 1, .slice none 0 0] 76) = W := ⟨_, rfl⟩
  have z1 : W1.heap.size = q + 1 := by rw [← hW1, ← hq]; simp
  have z2 : W2.heap.size = q + 2 := by rw [← hW2]; simp [z1]
  have z3 : W3.heap.size = q + 3 := by rw [← hW3]; simp [z2]
  have o1 : W1.ownsRow 0 9 1 (.slice (some ⟨q, 0, none⟩) 1 1) 1 [.string t] := by rw [← hW1, ← hq]; exact World.ownsRow_lit w #[.string t] 1 (Nat.zero_le _) (by unfold maxLen; omega) rfl
  have o2 : W2.ownsRow 0 38 1 (.slice (some ⟨q + 1, 0, none⟩) 1 1) 1 [.slice none 0 0] := by rw [← hW2, ← z1]; exact World.ownsRow_lit W1 #[.slice none 0 0] 1 (Nat.zero_le _) (by unfold maxLen; omega) rfl
  have k3 : Blk W3 (q + 2) 76 #[.int .i64 v, .slice (some ⟨q, 0, none⟩) 1 1, .slice (some ⟨q + 1, 0, none⟩) 1 1, .slice none 0 0] := by rw [← hW3, ← z2]; exact Blk.new _ _ _
  have p1 : W3.ownsRow 0 9 1 (.slice (some ⟨q, 0, none⟩) 1 1) 1 [.string t] := by rw [← hW3, ← hW2]; exact (o1.alloc _).alloc _
  have p2 : W3.ownsRow 0 38 1 (.slice (some ⟨q + 1, 0, none⟩) 1 1) 1 [.slice none 0 0] := by rw [← hW3]; exact o2.alloc _
  have hb : Below w.heap.size w W3 := by
    rw [← hW3, ← hW2, ← hW1]
    exact (((Below.refl _ _).alloc (Nat.le_refl _) _).alloc (by simp) _).alloc (by simp; omega) _
  have hd : RDocI (newB w W3) (fun _ => False) W3 (q + 2) (rnewS t v) := by
    refine ⟨⟨by show 0 ≤ v; omega, by show v ≤ _; omega, by simp [rnewS], by simp [rnewS], fun x hx => by simp [rnewS] at hx; subst hx; show t.size ≤ 4096; omega, fun x hx => by simp [rnewS] at hx; subst hx; exact ⟨by simp, by simp⟩, by simp [rnewS], by simp [rnewS], by simp [rnewS]⟩,
      ⟨_, _, _, [.slice none 0 0], [], k3, p1, p2, .cons ⟨none, 0, rfl, by simp, by omega, fun _ => rfl, .inl rfl⟩ .nil, World.ownsRow_nil _ _ _ _, ⟨rfl, fun k x hk => by simp [rnewS] at hk⟩, fun b hb => ?_⟩, ?_, fun b hb => hb.2, fun b hb => hb.elim, fun b _ hb => hb⟩
    · rcases hb with hb | hb | hb
      · cases hb; exact ⟨by show w.heap.size ≤ q; omega, by show q < W3.heap.size; omega⟩
      · cases hb; exact ⟨by show w.heap.size ≤ q + 1; omega, by show q + 1 < W3.heap.size; omega⟩
      · cases hb
    · exact ⟨by omega, by omega⟩
  have HD := Lib.hid hd; have HB := Lib.hid hb
  have HW : Hid (((w.alloc (.cells #[.string t] 9)).alloc (.cells #[.slice none 0 0] 38)).alloc (.cells #[.int .i64 v, .slice (some ⟨q, 0, none⟩) 1 1, .slice (some ⟨q + 1, 0, none⟩) 1 1, .slice none 0 0] 76) = W3) := by rw [hW1, hW2]; exact hW3
  clear hE hW1 hW2 hW3 z1 z2 z3 o1 o2 k3 p1 p2 hb hd
  go_enter Tryz.func8, Tryz.ntmps8
  go_wp2
  rw [HW.out]
  go_ret2
  have hb := HB.out
  first | exact ⟨q + 2, rfl, HD.out, hb⟩ | exact ⟨q + 2, rfl, HD.out, by rw [← hq]; exact hb⟩

/-- The place of a held change, or -1. -/
def findI : List (Int × List PE) → Int → Nat → Int
  | [], _, _ => -1
  | x :: l, k, i => if x.1 = k then (i : Int) else findI l k (i + 1)
theorem findI_drop (hs : List (Int × List PE)) (k : Int) : ∀ i, i ≤ hs.length → (∀ j (hj : j < i) (h : j < hs.length), (hs[j]).1 ≠ k) → findI hs k 0 = findI (hs.drop i) k i := by
  intro i
  induction i with
  | zero => intro _ _; rfl
  | succ i ih =>
    intro h1 h2
    rw [ih (by omega) (fun j hj h => h2 j (by omega) h), List.drop_eq_getElem_cons (by omega)]
    simp only [findI]
    rw [if_neg (h2 i (by omega) (by omega))]
theorem findI_end (hs : List (Int × List PE)) (k : Int) (h : ∀ j (h : j < hs.length), (hs[j]).1 ≠ k) : findI hs k 0 = -1 := by
  rw [findI_drop hs k hs.length (Nat.le_refl _) (fun j _ h' => h j h'), List.drop_length]; rfl
theorem findI_at (hs : List (Int × List PE)) (k : Int) (i : Nat) (hi : i < hs.length) (h : ∀ j (hj : j < i) (h : j < hs.length), (hs[j]).1 ≠ k) (he : (hs[i]).1 = k) : findI hs k 0 = (i : Int) := by
  rw [findI_drop hs k i (by omega) h, List.drop_eq_getElem_cons hi]
  simp only [findI]
  rw [if_pos he]

set_option maxRecDepth 100000 in
set_option maxHeartbeats 2000000 in
theorem rfind_any (T G : Nat → Prop) (p : Nat) (r : RS) (k : Int) (w : World) (h : RDocI T G w p r) :
    Calls Tryz.prog 48 #[.pointer (some ⟨p, 0, none⟩), .int .i64 k] w fun e w' => e = .returned (.int .i64 (findI r.hs k 0)) ∧ Below w.heap.size w w' := by
  have hl := h.ok.hlen
  obtain ⟨vT, vE, vH, us, hv, h1, h2, h3, h4, h5, h6, h7⟩ := h.mem
  have c3 := h1.cell 3
  simp only [List.getElem?_toArray, List.getElem?_cons_zero, List.getElem?_cons_succ] at c3
  obtain ⟨n, hn⟩ : ∃ n, r.hs.length = n := ⟨_, rfl⟩
  have hvl : hv.length = n := by rw [h6.1, hn]
  rw [hn] at h5 hl
  obtain ⟨_, av, cv9, rfl, hVS, _, _⟩ := vs_of_own h5
  rw [hvl] at c3
  have hplt := h1.lt
  have HC : Hid (∀ i, i < n → ∃ b off, av = some ⟨b, off, none⟩ ∧ b < w.heap.size ∧ w.cell? ⟨b, off + i * 2, none⟩ = some (.int .i64 ((r.hs[i]?.getD (0, [])).1))) := fun i hi => by
    obtain ⟨b, off, q1, q2, q3⟩ := hVS.cells.resolve_left (by omega)
    have h8 := (q3 i (by omega)).1
    have hi' : i < r.hs.length := by omega
    rw [(h6.2 i _ (List.getElem?_eq_getElem hi')).1] at h8
    refine ⟨b, off, q1, q2, ?_⟩
    rw [h8, List.getElem?_eq_getElem hi']; rfl
  obtain ⟨R, hR⟩ : ∃ x, findI r.hs k 0 = x := ⟨_, rfl⟩
  rw [hR]
  have HR := Lib.hid hR; have HN := Lib.hid hn; have HCC : Hid (∀ W, Below w.heap.size w W → W.cell? ⟨p, 3, none⟩ = some (.slice av n cv9)) := fun W hW => (hW.cell (p := ⟨p, 3, none⟩) hplt).trans c3
  clear h h1 h2 h3 h4 h5 h6 h7 hR hn hvl hVS c3
  go_enter Tryz.func48, Tryz.ntmps48
  go_wp2_with fail
  go_loopw [5] (fun q wr => ∃ (i : Nat), q = .int .i64 (i : Int) ∧ i ≤ n ∧ Hid (∀ j, j < i → (r.hs[j]?.getD (0, [])).1 ≠ k) ∧ Hid (Below w.heap.size w wr)) (fun q _ => n - (intOf q).toNat)
  case atStart => exact ⟨0, rfl, by omega, Lib.hid (fun j h => by omega), Lib.hid (Below.refl _ _)⟩
  case round =>
    obtain ⟨i, rfl, hi, HJ, HB⟩ := hrel
    have c3 := HCC.out wr HB.out
    have m1 : IntKind.i64.wrap ((i : Int) + 1) = (i : Int) + 1 := by simp [IntKind.wrap, IntKind.signed, IntKind.bits]; omega
    by_cases hin : i < n
    · have hin2 : (i : Int) < (n : Int) := by omega
      obtain ⟨b, off, rfl, q2, q3⟩ := HC.out i hin
      have c4 := (HB.out.cell (p := ⟨b, off + i * 2, none⟩) q2).trans q3
      obtain ⟨x, hx⟩ : ∃ x, (r.hs[i]?.getD (0, [])).1 = x := ⟨_, rfl⟩
      rw [hx] at c4
      have HX := Lib.hid hx
      clear q3 hx
      by_cases hk : x = k
      · have hkb : (x == k) = true := by simp [hk]
        have hfin : R = (i : Int) := by
          have hi' : i < r.hs.length := by have := HN.out; omega
          rw [← HR.out]
          refine findI_at r.hs k i hi' (fun j hj h => ?_) ?_
          · have := HJ.out j hj
            rwa [List.getElem?_eq_getElem h] at this
          · have := HX.out
            rw [List.getElem?_eq_getElem hi'] at this
            exact this.trans hk
        subst hfin
        clear hk
        go_wp2_with fail
        go_ret
        exact ⟨rfl, HB.out⟩
      · have hkb : (x == k) = false := by simp [hk]
        have HJ2 : Hid (∀ j, j < i + 1 → (r.hs[j]?.getD (0, [])).1 ≠ k) := fun j hj => by
          by_cases e : j = i
          · subst e; rw [HX.out]; exact hk
          · exact HJ.out j (by omega)
        clear hk
        go_wp2
        go_roundw
        case rel => exact ⟨i + 1, by go_num, by omega, HJ2, HB⟩
        case measure => simp [intOf]; omega
    · have hin2 : ¬ ((i : Int) < (n : Int)) := by omega
      have hfin : R = -1 := by
        rw [← HR.out]
        refine findI_end r.hs k (fun j h => ?_)
        have := HJ.out j (by have := HN.out; omega)
        rwa [List.getElem?_eq_getElem h] at this
      subst hfin
      go_wp2_with fail
      go_ret
      exact ⟨rfl, HB.out⟩

end Go.Proofs.YtkehgoailhpenaaGreat
