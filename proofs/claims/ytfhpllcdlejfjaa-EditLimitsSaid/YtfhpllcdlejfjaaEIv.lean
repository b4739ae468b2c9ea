/- The contract of the program's Invert. Conditions: texts of at most 10000000 bytes, lists of at most 1000 edits. -/
import Derived.Test.YtfhpllcdlejfjaaEApp
import Derived.Test.YtfhpllcdlejfjaaRegR
import Derived.Maps.AppendAt
namespace Go.Proofs.Ytfhpllcdlejfjaa
open Go.RowKit Go.Shelf
set_option linter.unusedVariables false
attribute [local go_sem] Oper.semAt_some

/-- The edits that lead back, of parts. -/
def ivl (s : ByteArray) : List Pc → List Er
  | [] => []
  | p :: l => if p.k then ivl s l else ⟨p.q, p.q + p.x.size, s.extract p.f.toNat p.t.toNat⟩ :: ivl s l
theorem ivl_add (s : ByteArray) : ∀ (a b : List Pc), ivl s (a ++ b) = ivl s a ++ ivl s b := by
  intro a
  induction a with
  | nil => intro b; rfl
  | cons p a ih =>
    intro b
    simp only [List.cons_append, ivl]
    cases p.k
    · rw [if_neg (by simp), if_neg (by simp), ih]; rfl
    · rw [if_pos rfl, if_pos rfl, ih]
theorem pg_take {l : List Pc} {k : Nat} (h : k < l.length) : l.take (k + 1) = l.take k ++ [pg l k] := by
  unfold pg; rw [List.take_add_one, List.getElem?_eq_getElem h]; rfl
theorem ivl_step {s : ByteArray} {l : List Pc} {k : Nat} (h : k < l.length) : ivl s (l.take (k + 1)) = ivl s (l.take k) ++ (if (pg l k).k then [] else [⟨(pg l k).q, (pg l k).q + (pg l k).x.size, s.extract (pg l k).f.toNat (pg l k).t.toNat⟩]) := by
  rw [pg_take h, ivl_add]
  simp only [ivl]
theorem ivl_prl (s : ByteArray) : ∀ (es : List Er) (f q : Nat), (∀ e ∈ es, 0 ≤ e.f ∧ e.f ≤ e.t) → vE (s.size : Int) (f : Int) es = 0 → ivl s (prl s f q es) = ers (invl (sb s) f q (ees es)) := by
  intro es
  induction es with
  | nil => intro f q _ _; rfl
  | cons e es ih =>
    intro f q h hv
    obtain ⟨h0, h1⟩ := h e (by simp)
    simp only [vE] at hv
    split at hv
    · omega
    · split at hv
      · omega
      · rename_i k1 k2
        have ht : ((e.t.toNat : Nat) : Int) = e.t := by omega
        have hi := ih e.t.toNat (q + (e.f.toNat - f) + e.x.size) (fun x hx => h x (by simp [hx])) (by rw [ht]; exact hv)
        simp only [prl, ivl, ees_cons, invl, ers, List.map_cons]
        rw [if_pos trivial, if_neg (by simp), hi]
        simp only [er, Er.ee, ers, sb_len, bs_cut]
        congr 2
        · omega
        · omega
theorem prl_fit {s : ByteArray} : ∀ {es : List Er} {f q c : Nat}, f ≤ s.size → q ≤ f + 100000 * c → vE (s.size : Int) (f : Int) es = 0 → (∀ e ∈ es, e.x.size ≤ 100000) →
    ∀ p ∈ prl s f q es, 0 ≤ p.f ∧ p.f ≤ p.t ∧ p.t ≤ (s.size : Int) ∧ 0 ≤ p.q ∧ p.q ≤ (s.size : Int) + 100000 * ((c : Int) + es.length) ∧ (p.k = false → p.x.size ≤ 100000) := by
  intro es
  induction es with
  | nil =>
    intro f q c hf hq _ _ p hp
    simp only [prl, List.mem_singleton] at hp
    subst hp
    simp only [List.length_nil]
    exact ⟨by omega, by omega, by omega, by omega, by omega, fun h => by cases h⟩
  | cons e es ih =>
    intro f q c hf hq hv hx p hp
    simp only [vE] at hv
    split at hv
    · omega
    · split at hv
      · omega
      · rename_i k1 k2
        have ht : ((e.t.toNat : Nat) : Int) = e.t := by omega
        have hxe := hx e (by simp)
        simp only [prl, List.mem_cons] at hp
        simp only [List.length_cons]
        push_cast
        rcases hp with rfl | rfl | hp
        · exact ⟨by simp only []; omega, by simp only []; omega, by simp only []; omega, by simp only []; omega, by simp only []; omega, fun h => by cases h⟩
        · exact ⟨by simp only []; omega, by simp only []; omega, by simp only []; omega, by simp only []; omega, by simp only []; omega, fun _ => hxe⟩
        · have := ih (f := e.t.toNat) (q := q + (e.f.toNat - f) + e.x.size) (c := c + 1) (by omega) (by omega) (by rw [ht]; exact hv) (fun x h => hx x (by simp [h])) p hp
          push_cast at this
          refine ⟨this.1, this.2.1, this.2.2.1, this.2.2.2.1, by have := this.2.2.2.2.1; omega, this.2.2.2.2.2⟩

/-- The block b holds a slice of edits of the call's own; T: the blocks that appending may turn. -/
def Iv (b lo : Nat) (T : Nat → Prop) (es : List Er) (w : World) : Prop :=
  ∃ v, Blk w b 22 #[v] ∧ w.ownsRow lo 32 3 v es.length (rv es) ∧ v.ownBlock ≠ some b ∧ ∀ j, T j ↔ (j = b ∨ v.ownBlock = some j)
theorem Iv.lt {b lo : Nat} {T : Nat → Prop} {es : List Er} {w : World} (h : Iv b lo T es w) : ∀ j, T j → j < w.heap.size := by
  obtain ⟨v, hb, ho, _, hT⟩ := h
  intro j hj
  rcases (hT j).1 hj with rfl | h
  · exact hb.lt
  · exact (ho.lt j h).2
theorem Iv.ge {b lo : Nat} {T : Nat → Prop} {es : List Er} {w : World} (h : Iv b lo T es w) (hb : lo ≤ b) : ∀ j, T j → lo ≤ j := by
  obtain ⟨v, _, ho, _, hT⟩ := h
  intro j hj
  rcases (hT j).1 hj with rfl | h
  · exact hb
  · exact (ho.lt j h).1
theorem Iv.keep {b lo : Nat} {T : Nat → Prop} {es : List Er} {w w' : World} (h : Iv b lo T es w) (hb : ∀ j, T j → w'.heap[j]? = w.heap[j]?) : Iv b lo T es w' := by
  obtain ⟨v, hk, ho, hn, hT⟩ := h
  exact ⟨v, hk.same (hb b ((hT b).2 (.inl rfl))), own_same ho (fun g hg => hb g ((hT g).2 (.inr hg))), hn, hT⟩
theorem Iv.oth {b lo n : Nat} {T : Nat → Prop} {es : List Er} {w w' : World} (h : Iv b lo T es w) (ho : Oth T n w w') : Iv b lo T es w' := h.keep (fun j hj => ho.block j (h.lt j hj) (.inr hj))
/-- Appending an edit and storing the slice. -/
theorem Iv.step {b lo : Nat} {T : Nat → Prop} {es : List Er} {w w1 w2 : World} {v v' : Value} {e : Er} (hk : Blk w b 22 #[v]) (hn : v.ownBlock ≠ some b) (hT : ∀ j, T j ↔ (j = b ∨ v.ownBlock = some j)) (ho : w.ownsRow lo 32 3 v es.length (rv es))
    (hb1 : Below w.heap.size w w1) (ho2 : w2.ownsRow lo 32 3 v' (es.length + 1) (rv es ++ e.vals)) (hg : w1.grownBy w2 v.ownBlock) (hat : v'.ownBlock = v.ownBlock ∨ v'.ownBlock = some w1.heap.size) :
    ∃ T', Iv b lo T' (es ++ [e]) (w2.setCell ⟨b, 0, none⟩ v') ∧ Rnd T T' w (w2.setCell ⟨b, 0, none⟩ v') := by
  have hbl : b < w.heap.size := hk.lt
  have hs1 := hb1.size
  have hk2 : Blk w2 b 22 #[v] := (hk.same (hb1.block b hbl)).same (hg.block b (by omega) (fun e => hn e.symm))
  have hn' : v'.ownBlock ≠ some b := by
    rcases hat with h | h
    · rw [h]; exact hn
    · rw [h]; intro e; simp at e; omega
  refine ⟨fun j => j = b ∨ v'.ownBlock = some j, ⟨v', by simpa using hk2.set 0 v', ?_, hn', fun j => Iff.rfl⟩, ?_⟩
  · rw [List.length_append, rv_snoc]
    exact own_same ho2 (fun g hg' => Below.heap_setCell w2 _ _ g (fun e => hn' (by simp at e; rw [hg', e])))
  · refine ⟨by simp [World.setCell]; have := hg.size; omega, fun k hk0 hkT => ?_, fun k hk0 => ?_⟩
    · rw [Below.heap_setCell w2 _ _ k (fun e => hkT (by simp at e; exact (hT k).2 (.inl e))), hg.block k (by omega) (fun e => hkT ((hT k).2 (.inr e.symm))), hb1.block k hk0]
    · rcases hk0 with h | h
      · exact .inl ((hT k).2 (.inl h))
      · rcases hat with h1 | h1
        · rw [h1] at h; exact .inl ((hT k).2 (.inr h))
        · rw [h1] at h; simp at h; exact .inr (by omega)

theorem wp_append_at {P : Program} {w : World} {o : Oper} {a : Act} {K : Act → World → Prop} {Q : Exit → Act → World → Prop} (sl x : Operand) (t : TypeId)
    (ho : o.op = .call { callee := .builtin .append, args := #[sl, x], argTypes := #[t, t] })
    (base : Nat) (e : TypeId) (i : TypeInfo) (z : Value) (size bytes : Nat) (ht : P.underlying t = some (.slice e)) (hi : P.info? e = some i) (hz : i.zero = some z)
    (hsize : i.size = size) (hby : i.bytes = bytes) (hzs : z.cells.size = size) (hsz : 0 < size)
    (v : Value) (n : Nat) (xs : List Value) (hs : a.eval sl = v) (hown : w.ownsRow base e size v n xs)
    (ad : Addr) (m c : Nat) (news : List Value) (hx : a.eval x = .slice (some ad) m c) (hl : news.length = m * size) (hnews : ∀ j u, news[j]? = some u → w.cell? (ad.add j) = some u) (h1 : ∀ u ∈ news, u.oneCell' = true)
    (h63 : n + m ≤ maxLen) (hbytes : (n + m) * bytes ≤ 140737488355328) (hbase : base ≤ w.heap.size)
    (h : ∀ v' w', w'.ownsRow base e size v' (n + m) (xs ++ news) → w.grownBy w' v.ownBlock → (v'.ownBlock = v.ownBlock ∨ v'.ownBlock = some w.heap.size) → K (a.put o.dst v') w') :
    o.wp P a w K Q := by
  obtain ⟨v', w', hr, h2, h3, h4, h5⟩ := run_append_own_at (P := P) w base t o.type e i z size bytes ht hi hz hsize hby hzs hsz v n xs hown ad m c news hl hnews h1 h63 hbytes hbase
  unfold Oper.wp execOp
  simp only [ho, resolve, invoke, builtin, Sem.run_bind, Sem.run_pure, Result.andThen_ok, List.map_toArray, List.map_cons, List.map_nil, hs, hx, hr]
  exact h v' w' h2 h3 h5

end Go.Proofs.Ytfhpllcdlejfjaa
