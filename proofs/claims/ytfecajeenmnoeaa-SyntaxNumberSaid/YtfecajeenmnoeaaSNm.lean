/- What numbering leaves: consecutive IDs, an equal tree. -/
import Derived.Test.YtfecajeenmnoeaaSNp
import Derived.Test.YtfecajeenmnoeaaSSa
import Derived.Test.YtfecajeenmnoeaaSPi
namespace Go.Proofs.Ytfecajeenmnoeaa
open Go.RowKit Go.Shelf
set_option linter.unusedVariables false

def seqI : Int → Nat → List Int
  | _, 0 => []
  | f, n + 1 => f :: seqI (f + 1) n
theorem seqI_len : ∀ (f : Int) (n : Nat), (seqI f n).length = n
  | _, 0 => rfl
  | f, n + 1 => by rw [seqI, List.length_cons, seqI_len]
theorem seqI_app : ∀ (a b : Nat) (f : Int), seqI f (a + b) = seqI f a ++ seqI (f + (a : Int)) b
  | 0, b, f => by simp [seqI]
  | a + 1, b, f => by
    rw [show a + 1 + b = (a + b) + 1 by omega, seqI, seqI, seqI_app a b, List.cons_append, show f + 1 + (a : Int) = f + ((a + 1 : Nat) : Int) by omega]
theorem seqI_get : ∀ (n : Nat) (f : Int) (i : Nat), i < n → (seqI f n)[i]? = some (f + (i : Int))
  | 0, f, i, h => by omega
  | n + 1, f, 0, h => by rw [seqI]; simp
  | n + 1, f, i + 1, h => by
    rw [seqI, List.getElem?_cons_succ, seqI_get n (f + 1) i (by omega), show f + 1 + (i : Int) = f + ((i + 1 : Nat) : Int) by omega]
mutual
theorem zid_num : ∀ (t : Nd) (f : Int), (t.num f).all.map Nd.id = seqI f t.cnt
  | .mk _ k x ks, f => by
    rw [Nd.num, Nd.all, List.map_cons, zids_num ks, Nd.cnt, seqI]; rfl
theorem zids_num : ∀ (l : List Nd) (f : Int), (alls (nums l f)).map Nd.id = seqI f (cnts l)
  | [], f => by rw [nums, alls, cnts, seqI]; rfl
  | x :: l, f => by rw [nums, alls, cnts, List.map_append, zid_num x, zids_num l, seqI_app]
end
mutual
theorem num_eqv : ∀ (t : Nd) (f : Int), (t.num f).eqv t = true
  | .mk _ k x ks, f => by rw [Nd.num, Nd.eqv, nums_eqv ks]; simp
theorem nums_eqv : ∀ (l : List Nd) (f : Int), eqvs (nums l f) l = true
  | [], f => by rw [nums, eqvs]
  | x :: l, f => by rw [nums, eqvs, num_eqv x, nums_eqv l]; rfl
end
mutual
theorem spots_zid : ∀ (t : Nd) (p : List Nat) (o : Nat), (spots t p o).map (fun s => s.nd.id) = t.all.map Nd.id
  | .mk i k x ks, p, o => by
    rw [spots, Nd.all, List.map_cons, List.map_cons, spotsL_zid ks]
theorem spotsL_zid : ∀ (l : List Nd) (p : List Nat) (i o : Nat), (spotsL l p i o).map (fun s => s.nd.id) = (alls l).map Nd.id
  | [], p, i, o => by rw [spotsL, alls]; rfl
  | x :: l, p, i, o => by rw [spotsL, alls, List.map_append, List.map_append, spots_zid x, spotsL_zid l]
end
theorem pids_sli (t : Nd) (a : Option Addr) (n cap : Nat) (w : World) (G : Nat → Prop) (hK : KV G w a n cap t.kids) (hc : t.cnt ≤ 100000) (hw : t.pw ≤ 1000000000) :
    Calls Try.prog 25 #[ndv t a n cap] w fun e w' => ∃ u c, e = .returned (.slice u (zid t).length c) ∧ Sli .i64 w' u c (zid t) ∧ Below w.heap.size w w' := by
  refine (pids_any t a n cap w G hK hc hw).mono ?_
  rintro e w' ⟨u, rfl, ho, hb⟩
  have e : sids (spots t [] 0) = (zid t).map (Value.int .i64) := by rw [zid, ← spots_zid t [] 0, List.map_map]; rfl
  rw [e] at ho
  obtain ⟨_, a', c', rfl, hs⟩ := sli_of_own ho
  exact ⟨a', c', rfl, hs, hb⟩
mutual
theorem num_pw : ∀ (t : Nd) (f : Int), (t.num f).pw = t.pw
  | .mk _ k x ks, f => by rw [Nd.num, Nd.pw, Nd.pw, nums_pw ks]
theorem nums_pw : ∀ (l : List Nd) (f : Int), pws (nums l f) = pws l
  | [], f => by rw [nums]
  | x :: l, f => by rw [nums, pws, pws, num_pw x, nums_pw l]
end
end Go.Proofs.Ytfecajeenmnoeaa
