/- The program's Number. Conditions: trees of at most 100000 nodes and 1000000000 bytes, first IDs of at most 1000000000. -/
import Derived.Test.YtfecajeenmnoeaaSKa
namespace Go.Proofs.Ytfecajeenmnoeaa
open Go.RowKit Go.Shelf
set_option linter.unusedVariables false
attribute [local go_sem] Oper.semAt_some

mutual
theorem num_cnt : ∀ (t : Nd) (f : Int), (t.num f).cnt = t.cnt
  | .mk _ k x ks, f => by rw [Nd.num, Nd.cnt, Nd.cnt, nums_cnt ks]
theorem nums_cnt : ∀ (l : List Nd) (f : Int), cnts (nums l f) = cnts l
  | [], f => by rw [nums]
  | x :: l, f => by rw [nums, cnts, cnts, num_cnt x, nums_cnt l]
end
mutual
theorem num_dep : ∀ (t : Nd) (f : Int), (t.num f).dep = t.dep
  | .mk _ k x ks, f => by rw [Nd.num, Nd.dep, Nd.dep, nums_dep ks]
theorem nums_dep : ∀ (l : List Nd) (f : Int), deps (nums l f) = deps l
  | [], f => by rw [nums]
  | x :: l, f => by rw [nums, deps, deps, num_dep x, nums_dep l]
end
theorem nums_get (l : List Nd) (f : Int) (i : Nat) (h : i < l.length) : (nums l f)[i]'(by rw [nums_len]; exact h) = (l[i]).num (f + (cnts (l.take i) : Int)) := by
  have h1 := nums_take l i f h
  have h2 : (nums (l.take (i + 1)) f)[i]? = some ((l[i]).num (f + (cnts (l.take i) : Int))) := by
    rw [h1, List.getElem?_append_right (by rw [nums_len, List.length_take]; omega), nums_len, List.length_take, show i - min i l.length = 0 by omega]; rfl
  have h3 : nums l f = nums (l.take (i + 1)) f ++ nums (l.drop (i + 1)) (f + (cnts (l.take (i + 1)) : Int)) := by rw [← nums_app, List.take_append_drop]
  have h4 : (nums l f)[i]? = some ((l[i]).num (f + (cnts (l.take i) : Int))) := by
    rw [h3, List.getElem?_append_left (by rw [nums_len, List.length_take]; omega)]; exact h2
  exact (List.getElem?_eq_some_iff.1 h4).2
/-- The shape of a tree in memory, kids in blocks in G; each node at a multiple of four. The IDs are not looked at. -/
inductive SQ (G : Nat → Prop) (w : World) (ad : List Nat → Nat × Nat) : Nd → List Nat → Prop
  | mk {t : Nd} {p : List Nat} {a : Option Addr} {cap : Nat} (hb : (ad p).1 < w.heap.size) (hm : ∃ m, (ad p).2 = m * 4)
      (h1 : w.cell? ⟨(ad p).1, (ad p).2 + 1, none⟩ = some (.int .i64 t.kind)) (h2 : w.cell? ⟨(ad p).1, (ad p).2 + 2, none⟩ = some (.string t.text)) (h3 : w.cell? ⟨(ad p).1, (ad p).2 + 3, none⟩ = some (.slice a t.kids.length cap))
      (hle : t.kids.length ≤ cap) (hmx : cap ≤ 9223372036854775807) (hnil : a = none → cap = 0) (ha : ∀ i, i < t.kids.length → G (ad (p ++ [i])).1 ∧ ∃ o, a = some ⟨(ad (p ++ [i])).1, o, none⟩ ∧ (ad (p ++ [i])).2 = o + i * 4)
      (hk : ∀ i (hi : i < t.kids.length), SQ G w ad t.kids[i] (p ++ [i])) : SQ G w ad t p
theorem SQ.sh {G : Nat → Prop} {w : World} {ad : List Nat → Nat × Nat} {t : Nd} {p : List Nat} (h : SQ G w ad t p) : SH w ad t p := by
  induction h with
  | mk hb hm h1 h2 h3 hle hmx hnil ha hk ih => exact .mk hb h1 h2 h3 hle hmx (fun i hi => (ha i hi).2) ih
theorem SQ.on {G : Nat → Prop} {w w' : World} {ad : List Nat → Nat × Nat} {t : Nd} {p : List Nat} (h : SQ G w ad t p) (hb : Below w.heap.size w w') : SQ G w' ad t p := by
  induction h with
  | mk hb' hm h1 h2 h3 hle hmx hnil ha hk ih =>
    have e := hb.block _ hb'
    refine .mk (by have := hb.size; omega) hm ?_ ?_ ?_ hle hmx hnil ha (fun i hi => ih i hi)
    · simp only [World.cell?, e] at h1 ⊢; exact h1
    · simp only [World.cell?, e] at h2 ⊢; exact h2
    · simp only [World.cell?, e] at h3 ⊢; exact h3
theorem cell_set_ne {w : World} {b o : Nat} {v : Value} {b' o' : Nat} (h : ¬ (b' = b ∧ o' = o)) : (w.setCell ⟨b, o, none⟩ v).cell? ⟨b', o', none⟩ = w.cell? ⟨b', o', none⟩ :=
  World.cell?_setCell_other _ _ _ _ (fun e => h (by simp only [Addr.mk.injEq] at e; exact ⟨e.1.symm, e.2.1.symm⟩))
theorem SQ.set {G : Nat → Prop} {w : World} {ad : List Nat → Nat × Nat} {t : Nd} {p : List Nat} (h : SQ G w ad t p) (B M : Nat) (v : Value) : SQ G (w.setCell ⟨B, M * 4, none⟩ v) ad t p := by
  induction h with
  | mk hb' hm h1 h2 h3 hle hmx hnil ha hk ih =>
    obtain ⟨m, hm'⟩ := hm
    exact .mk (by simpa [World.setCell] using hb') ⟨m, hm'⟩ ((cell_set_ne (by omega)).trans h1) ((cell_set_ne (by omega)).trans h2) ((cell_set_ne (by omega)).trans h3) hle hmx hnil ha (fun i hi => ih i hi)
theorem SQ.num {G : Nat → Prop} {w : World} {ad : List Nat → Nat × Nat} : ∀ (d : Nat) (t : Nd) (p : List Nat) (f : Int), t.dep ≤ d → SQ G w ad t p → SQ G w ad (t.num f) p
  | 0, t, p, f, hd, _ => by have := t.dep_eq; omega
  | d + 1, t, p, f, hd, h => by
    cases h with
    | @mk _ _ a cap hb hm h1 h2 h3 hle hmx hnil ha hk =>
      have hn := t.num_eq f
      have hkids : (t.num f).kids = nums t.kids (f + 1) := by rw [hn]; rfl
      have hl : (t.num f).kids.length = t.kids.length := by rw [hkids, nums_len]
      refine .mk (a := a) (cap := cap) hb hm (by rw [hn]; exact h1) (by rw [hn]; exact h2) (by rw [hl]; exact h3) (by rw [hl]; exact hle) hmx hnil (fun i hi => ha i (by rw [← hl]; exact hi)) (fun i hi => ?_)
      have hi' : i < t.kids.length := by rw [← hl]; exact hi
      have e : (t.num f).kids[i] = (t.kids[i]).num (f + 1 + (cnts (t.kids.take i) : Int)) := by
        have := nums_get t.kids (f + 1) i hi'
        simp only [hkids]
        exact this
      rw [e]
      exact SQ.num d _ _ _ (by have := t.kid_dep (List.getElem_mem hi'); omega) (hk i hi')
/-- Out of a tree whose places lie so. -/
theorem TA.sq {G : Nat → Prop} {w : World} {ad : List Nat → Nat × Nat} : ∀ (d : Nat) (t : Nd) (p : List Nat) (o : Nat), t.dep ≤ d → TA w ad t p → (∀ s ∈ spots t p o, ∃ m, (ad s.path).2 = m * 4) → (∀ s ∈ spotsL t.kids p 0 (o + if t.leaf then t.text.size else 0), G (ad s.path).1) → SQ G w ad t p
  | 0, t, p, o, hd, _, _, _ => by have := t.dep_eq; omega
  | d + 1, t, p, o, hd, h, hm, hlo => by
    cases h with
    | mk hb h0 h1 h2 h3 hkv ha hk =>
      have hsp := spots_eq t p o
      have hget : ∀ i (hi : i < t.kids.length), ∃ o', ∀ s ∈ spots t.kids[i] (p ++ [i]) o', s ∈ spotsL t.kids p 0 (o + if t.leaf then t.text.size else 0) := fun i hi => by
        obtain ⟨pre, post, e1, _⟩ := spotsL_get t.kids p 0 (o + if t.leaf then t.text.size else 0) i hi
        rw [Nat.zero_add] at e1
        exact ⟨_, fun s hs => by rw [e1]; exact List.mem_append_left _ (List.mem_append_right _ hs)⟩
      refine .mk hb (hm ⟨p, t, o⟩ (by rw [hsp]; simp)) h1 h2 h3 hkv.len.2.1 hkv.len.2.2 (fun e => (hkv.nil_ e).2) (fun i hi => ⟨?_, ha i hi⟩) (fun i hi => ?_)
      · obtain ⟨o', ho'⟩ := hget i hi
        have := hlo ⟨p ++ [i], t.kids[i], o'⟩ (ho' _ (by rw [spots_eq]; simp))
        exact this
      · obtain ⟨o', ho'⟩ := hget i hi
        refine TA.sq d _ _ o' (by have := t.kid_dep (List.getElem_mem hi); omega) (hk i hi) (fun s hs => hm s (by rw [hsp]; exact List.mem_cons_of_mem _ (ho' s hs))) (fun s hs => hlo s (ho' s (by rw [spots_eq]; exact List.mem_cons_of_mem _ hs)))
/-- The IDs of a numbered tree, out of the cells at its places. -/
theorem SI.num {w : World} {ad : List Nat → Nat × Nat} : ∀ (d : Nat) (t : Nd) (p : List Nat) (o : Nat) (f : Int), t.dep ≤ d → (∀ (j : Nat) (s : Spot), (spots t p o)[j]? = some s → w.cell? ⟨(ad s.path).1, (ad s.path).2, none⟩ = some (.int .i64 (f + (j : Int))) ∧ (ad s.path).1 < w.heap.size) → SI w ad (t.num f) p
  | 0, t, p, o, f, hd, _ => by have := t.dep_eq; omega
  | d + 1, t, p, o, f, hd, h => by
    have hn := t.num_eq f
    have hkids : (t.num f).kids = nums t.kids (f + 1) := by rw [hn]; rfl
    have hsp := spots_eq t p o
    obtain ⟨h0, hb⟩ := h 0 ⟨p, t, o⟩ (by rw [hsp]; rfl)
    refine .mk (by rw [hn]; simpa [Nd.id] using h0) hb (fun i hi => ?_)
    have hi' : i < t.kids.length := by rw [hkids, nums_len] at hi; exact hi
    have e : (t.num f).kids[i] = (t.kids[i]).num (f + 1 + (cnts (t.kids.take i) : Int)) := by
      have := nums_get t.kids (f + 1) i hi'
      simp only [hkids]
      exact this
    rw [e]
    obtain ⟨pre, post, h1, h2⟩ := spotsL_get t.kids p 0 (o + if t.leaf then t.text.size else 0) i hi'
    rw [Nat.zero_add] at h1
    refine SI.num d _ _ (o + (if t.leaf then t.text.size else 0) + pws (t.kids.take i)) _ (by have := t.kid_dep (List.getElem_mem hi'); omega) (fun j s hj => ?_)
    have hj' := (List.getElem?_eq_some_iff.1 hj).1
    have := h (1 + cnts (t.kids.take i) + j) s (by
      rw [hsp, h1, show 1 + cnts (t.kids.take i) + j = (cnts (t.kids.take i) + j) + 1 by omega, List.getElem?_cons_succ, List.append_assoc, List.getElem?_append_right (by omega), h2, show cnts (t.kids.take i) + j - cnts (t.kids.take i) = j by omega, List.getElem?_append_left hj', hj])
    rw [show f + 1 + (cnts (t.kids.take i) : Int) + (j : Int) = f + ((1 + cnts (t.kids.take i) + j : Nat) : Int) by omega]
    exact this
def slOf : Option Value → Option Addr × Nat × Nat
  | some (.slice a n c) => (a, n, c)
  | _ => (none, 0, 0)
/-- Kids in memory, out of the shape and the IDs. -/
theorem kv_of_sq {G : Nat → Prop} {w : World} {ad : List Nat → Nat × Nat} : ∀ (d : Nat) (t : Nd) (p : List Nat), t.dep ≤ d → SQ G w ad t p → SI w ad t p → ∀ (a : Option Addr) (n cap : Nat), w.cell? ⟨(ad p).1, (ad p).2 + 3, none⟩ = some (.slice a n cap) → KV G w a n cap t.kids
  | 0, t, p, hd, _, _, _, _, _, _ => by have := t.dep_eq; omega
  | d + 1, t, p, hd, h, h', a, n, cap, hc => by
    cases h with
    | @mk _ _ a' cap' hb hm h1 h2 h3 hle hmx hnil ha hk =>
      rw [hc] at h3
      simp only [Option.some.injEq, Value.slice.injEq] at h3
      obtain ⟨rfl, rfl, rfl⟩ := h3
      by_cases h0 : t.kids.length = 0
      · have hn : t.kids = [] := List.eq_nil_of_length_eq_zero h0
        rw [hn]
        exact .nil hnil hmx
      · obtain ⟨hlo0, o0, ho0, ho1⟩ := ha 0 (by omega)
        have hall : ∀ i (hi : i < t.kids.length), ad (p ++ [i]) = ((ad (p ++ [0])).1, o0 + i * 4) := fun i hi => by
          obtain ⟨_, o, e1, e2⟩ := ha i hi
          rw [ho0] at e1
          simp only [Option.some.injEq, Addr.mk.injEq, and_true] at e1
          exact Prod.ext e1.1.symm (by rw [e2, ← e1.2])
        subst ho0
        have hk0 := hk 0 (by omega)
        have hb0 : (ad (p ++ [0])).1 < w.heap.size := by cases hk0 with | mk hb => exact hb
        refine .cons (fun k => (slOf (w.cell? ⟨(ad (p ++ [k])).1, (ad (p ++ [k])).2 + 3, none⟩)).1) (fun k => (slOf (w.cell? ⟨(ad (p ++ [k])).1, (ad (p ++ [k])).2 + 3, none⟩)).2.1) (fun k => (slOf (w.cell? ⟨(ad (p ++ [k])).1, (ad (p ++ [k])).2 + 3, none⟩)).2.2) rfl h0 hle hmx hb0 hlo0 (fun k hk' => ?_) (fun k hk' => ?_)
        · have hkk := hk k hk'
          have hid := (h'.kid hk').id
          rw [hall k hk'] at hid ⊢
          cases hkk with
          | mk g0 gm g1 g2 g3 =>
            rw [hall k hk'] at g1 g2 g3
            refine ⟨hid, g1, g2, ?_⟩
            simp only [g3, slOf]
        · have hkk := hk k hk'
          have hrec := kv_of_sq d _ _ (by have := t.kid_dep (List.getElem_mem hk'); omega) hkk (h'.kid hk')
          cases hkk with
          | mk g0 gm g1 g2 g3 =>
            simp only [g3, slOf]
            exact hrec _ _ _ g3

end Go.Proofs.Ytfecajeenmnoeaa
