/- The shape of a tree in memory, with the addresses of its nodes; its places in preorder; the program's isLeaf. Conditions: the kids' slices are whole. -/
import Derived.Test.YtfecajeenmnoeaaSNd
import Derived.Test.YtfecajeenmnoeaaGiv
namespace Go.Proofs.Ytfecajeenmnoeaa
open Go.RowKit Go.Shelf
set_option linter.unusedVariables false

/-- A node and what hangs on it lie in memory: the node at a path at the block and the place that ad names. The IDs are not looked at. -/
inductive SH (w : World) (ad : List Nat → Nat × Nat) : Nd → List Nat → Prop
  | mk {t : Nd} {p : List Nat} {a : Option Addr} {cap : Nat} (hb : (ad p).1 < w.heap.size)
      (h1 : w.cell? ⟨(ad p).1, (ad p).2 + 1, none⟩ = some (.int .i64 t.kind)) (h2 : w.cell? ⟨(ad p).1, (ad p).2 + 2, none⟩ = some (.string t.text)) (h3 : w.cell? ⟨(ad p).1, (ad p).2 + 3, none⟩ = some (.slice a t.kids.length cap))
      (hle : t.kids.length ≤ cap) (hmx : cap ≤ 9223372036854775807) (ha : ∀ i, i < t.kids.length → ∃ o, a = some ⟨(ad (p ++ [i])).1, o, none⟩ ∧ (ad (p ++ [i])).2 = o + i * 4)
      (hk : ∀ i (hi : i < t.kids.length), SH w ad t.kids[i] (p ++ [i])) : SH w ad t p
theorem SH.kid {w : World} {ad : List Nat → Nat × Nat} {t : Nd} {p : List Nat} (h : SH w ad t p) {i : Nat} (hi : i < t.kids.length) : SH w ad t.kids[i] (p ++ [i]) := by
  cases h with
  | mk hb h1 h2 h3 hle hmx ha hk => exact hk i hi
/-- A node's cells, wherever its block lies as it lay. -/
theorem SH.cells {w : World} {ad : List Nat → Nat × Nat} {t : Nd} {p : List Nat} (h : SH w ad t p) : ∃ b o a cap, ad p = (b, o) ∧ b < w.heap.size ∧ t.kids.length ≤ cap ∧ cap ≤ 9223372036854775807 ∧
    (∀ i, i < t.kids.length → ∃ b' o', a = some ⟨b', o', none⟩ ∧ ad (p ++ [i]) = (b', o' + i * 4)) ∧
    ∀ V : World, V.heap[b]? = w.heap[b]? → V.cell? ⟨b, o + 1, none⟩ = some (.int .i64 t.kind) ∧ V.cell? ⟨b, o + 2, none⟩ = some (.string t.text) ∧ V.cell? ⟨b, o + 3, none⟩ = some (.slice a t.kids.length cap) := by
  cases h with
  | @mk _ _ a cap hb h1 h2 h3 hle hmx ha hk =>
    refine ⟨(ad p).1, (ad p).2, a, cap, rfl, hb, hle, hmx, fun i hi => ?_, fun V hV => ?_⟩
    · obtain ⟨o, h4, h5⟩ := ha i hi
      exact ⟨_, o, h4, Prod.ext rfl h5⟩
    · simp only [World.cell?, hV] at h1 h2 h3 ⊢
      exact ⟨h1, h2, h3⟩

mutual
/-- How far the program's offset goes over a node: its own text if it is a leaf, and its kids'. -/
def Nd.pw : Nd → Nat
  | .mk _ k t ks => (if 0 ≤ k ∧ k ≤ 8 then t.size else 0) + pws ks
def pws : List Nd → Nat
  | [] => 0
  | x :: l => x.pw + pws l
end
theorem Nd.pw_eq (t : Nd) : t.pw = (if t.leaf then t.text.size else 0) + pws t.kids := by cases t; rw [Nd.pw]; rfl
theorem pws_app : ∀ (a b : List Nd), pws (a ++ b) = pws a + pws b
  | [], b => by simp [pws]
  | x :: a, b => by rw [List.cons_append, pws, pws, pws_app a b]; omega
theorem pws_take (l : List Nd) (k : Nat) (h : k < l.length) : pws (l.take (k + 1)) = pws (l.take k) + (l[k]).pw := by
  rw [List.take_succ_eq_append_getElem h, pws_app]; simp [pws]
theorem pws_le (l : List Nd) (k : Nat) : pws (l.take k) ≤ pws l := by
  have h : pws l = pws (l.take k) + pws (l.drop k) := by rw [← pws_app, List.take_append_drop]
  omega
theorem cnts_app : ∀ (a b : List Nd), cnts (a ++ b) = cnts a + cnts b
  | [], b => by simp [cnts]
  | x :: a, b => by rw [List.cons_append, cnts, cnts, cnts_app a b]; omega
theorem cnts_take (l : List Nd) (k : Nat) (h : k < l.length) : cnts (l.take (k + 1)) = cnts (l.take k) + (l[k]).cnt := by
  rw [List.take_succ_eq_append_getElem h, cnts_app]; simp [cnts]
theorem cnts_le (l : List Nd) (k : Nat) : cnts (l.take k) ≤ cnts l := by
  have h : cnts l = cnts (l.take k) + cnts (l.drop k) := by rw [← cnts_app, List.take_append_drop]
  omega
/-- A node of a tree, the path that leads to it, its offset. -/
structure Spot where
  path : List Nat
  nd : Nd
  off : Nat
mutual
/-- All nodes in preorder, as the program goes over them. -/
def spots : Nd → List Nat → Nat → List Spot
  | .mk i k t ks, p, o => ⟨p, .mk i k t ks, o⟩ :: spotsL ks p 0 (o + if 0 ≤ k ∧ k ≤ 8 then t.size else 0)
def spotsL : List Nd → List Nat → Nat → Nat → List Spot
  | [], _, _, _ => []
  | x :: l, p, i, o => spots x (p ++ [i]) o ++ spotsL l p (i + 1) (o + x.pw)
end
theorem spots_eq (t : Nd) (p : List Nat) (o : Nat) : spots t p o = ⟨p, t, o⟩ :: spotsL t.kids p 0 (o + if t.leaf then t.text.size else 0) := by cases t; rw [spots]; rfl
mutual
theorem spots_len : ∀ (t : Nd) (p : List Nat) (o : Nat), (spots t p o).length = t.cnt
  | .mk i k t ks, p, o => by rw [spots, List.length_cons, spotsL_len ks, Nd.cnt]
theorem spotsL_len : ∀ (l : List Nd) (p : List Nat) (i o : Nat), (spotsL l p i o).length = cnts l
  | [], p, i, o => by simp [spotsL, cnts]
  | x :: l, p, i, o => by rw [spotsL, List.length_append, spots_len x, spotsL_len l, cnts]
end
theorem spotsL_get : ∀ (l : List Nd) (p : List Nat) (i o k : Nat) (h : k < l.length), ∃ pre post, spotsL l p i o = pre ++ spots l[k] (p ++ [i + k]) (o + pws (l.take k)) ++ post ∧ pre.length = cnts (l.take k)
  | [], p, i, o, k, h => by simp at h
  | x :: l, p, i, o, 0, h => ⟨[], spotsL l p (i + 1) (o + x.pw), by rw [spotsL]; simp [pws], by simp [cnts]⟩
  | x :: l, p, i, o, k + 1, h => by
    obtain ⟨pre, post, h1, h2⟩ := spotsL_get l p (i + 1) (o + x.pw) k (by simpa using h)
    refine ⟨spots x (p ++ [i]) o ++ pre, post, ?_, ?_⟩
    · rw [spotsL, h1]
      simp only [List.getElem_cons_succ, List.take_succ_cons, pws]
      rw [show i + 1 + k = i + (k + 1) by omega, show o + x.pw + pws (l.take k) = o + (x.pw + pws (l.take k)) by omega]
      simp
    · rw [List.length_append, spots_len, h2, List.take_succ_cons, cnts]

set_option maxRecDepth 100000 in
set_option maxHeartbeats 1000000 in
theorem pisleaf_any (t : Nd) (b off : Nat) (w : World) (h1 : w.cell? ⟨b, off + 1, none⟩ = some (.int .i64 t.kind)) :
    Calls Try.prog 67 #[.pointer (some ⟨b, off, none⟩)] w fun e w' => e = .returned (.bool (decide t.leaf)) ∧ w' = w := by
  obtain ⟨k, hk⟩ : ∃ i, t.kind = i := ⟨_, rfl⟩
  have hd : decide t.leaf = decide (0 ≤ k ∧ k ≤ 8) := decide_eq_decide.2 (by unfold Nd.leaf; rw [hk])
  rw [hd]
  rw [hk] at h1
  clear hd hk
  by_cases z1 : 0 ≤ k
  · by_cases z2 : k ≤ 8
    · rw [show decide (0 ≤ k ∧ k ≤ 8) = true by simp; omega]
      go_enter Try.func67, Try.ntmps67
      go_wp2
      go_ret
      exact ⟨rfl, rfl⟩
    · rw [show decide (0 ≤ k ∧ k ≤ 8) = false by simp; omega]
      go_enter Try.func67, Try.ntmps67
      go_wp2
      go_ret
      exact ⟨rfl, rfl⟩
  · rw [show decide (0 ≤ k ∧ k ≤ 8) = false by simp; omega]
    go_enter Try.func67, Try.ntmps67
    go_wp2
    go_ret
    exact ⟨rfl, rfl⟩

end Go.Proofs.Ytfecajeenmnoeaa
