/- Texts of one claim, put together: EJn, ENr, ERd, ERc, EBd, EGw, DBy, DSt, DDoc, DCl, DChk, DRem. Each part says what it proves and under which conditions. -/
import Derived.Test.YtkehgoailhpenaaGreatRn06
import Derived.BigQuiet
import Derived.BigRegion
import Derived.Deep.QuietTactic
import Derived.Maps.OwnSet
import Derived.Maps.OwnOps
import Derived.OwnWalk
import Derived.Lib.SliceRun
import Derived.Maps.AppendAt

/- The contract of the reference's joined. Conditions: lists of at most 20000 edits, with offsets from 0 to 10000000 and texts of at most 100000 bytes. -/
namespace Go.Proofs.YtkehgoailhpenaaGreat
open Go.RowKit Go.Shelf
set_option linter.unusedVariables false

/-- The edits with neighbors joined; c is the last one so far. -/
def jnE (c : Er) : List Er → List Er
  | [] => [c]
  | e :: l => if c.t = e.f then jnE ⟨c.f, e.t, c.x ++ e.x⟩ l else c :: jnE e l
def jnS : List Er → List Er
  | [] => []
  | e :: l => jnE e l
theorem jnE_ees : ∀ (l : List Er) (c : Er), 0 ≤ c.f → 0 ≤ c.t → (∀ e ∈ l, 0 ≤ e.f ∧ 0 ≤ e.t) → ees (jnE c l) = jn (c.ee sb) (ees l) ∧ ∀ e ∈ jnE c l, 0 ≤ e.f ∧ 0 ≤ e.t := by
  intro l
  induction l with
  | nil => intro c h1 h2 _; refine ⟨rfl, fun e he => ?_⟩; simp only [jnE, List.mem_singleton] at he; subst he; exact ⟨h1, h2⟩
  | cons e l ih =>
    intro c h1 h2 h
    have h0 := h e (by simp)
    have hl := fun x (hx : x ∈ l) => h x (by simp [hx])
    rw [ees_cons]
    simp only [jnE, jn]
    by_cases hc : c.t = e.f
    · rw [if_pos hc, if_pos (by show c.t.toNat = e.f.toNat; rw [hc])]
      have := ih ⟨c.f, e.t, c.x ++ e.x⟩ h1 h0.2 hl
      refine ⟨this.1.trans ?_, this.2⟩
      simp only [Er.ee, sb_add]
    · rw [if_neg hc, if_neg (by show ¬ c.t.toNat = e.f.toNat; omega)]
      have := ih e h0.1 h0.2 hl
      refine ⟨by rw [ees_cons, this.1], fun x hx => ?_⟩
      rcases List.mem_cons.1 hx with rfl | hx
      · exact ⟨h1, h2⟩
      · exact this.2 x hx
theorem jnS_eq {l : List Er} (h : ∀ e ∈ l, 0 ≤ e.f ∧ 0 ≤ e.t) : jnS l = ers (joinl (ees l)) := by
  cases l with
  | nil => rfl
  | cons e l =>
    have h0 := h e (by simp)
    have := jnE_ees l e h0.1 h0.2 (fun x hx => h x (by simp [hx]))
    rw [ees_cons]
    simp only [jnS, joinl]
    rw [← this.1, ers_ees this.2]
theorem rvs_t (fs : List Er) (c : Er) (y : Int) : (rv (fs ++ [c])).set (fs.length * 3 + 1) (.int .i64 y) = rv (fs ++ [⟨c.f, y, c.x⟩]) := by
  rw [rv_snoc, rv_snoc, ← rv_len, List.set_append_right _ _ (Nat.le_add_right _ _), Nat.add_sub_cancel_left]; rfl
theorem rvs_x (fs : List Er) (c : Er) (z : ByteArray) : (rv (fs ++ [c])).set (fs.length * 3 + 2) (.string z) = rv (fs ++ [⟨c.f, c.t, z⟩]) := by
  rw [rv_snoc, rv_snoc, ← rv_len, List.set_append_right _ _ (Nat.le_add_right _ _), Nat.add_sub_cancel_left]; rfl
theorem rvs_at (fs : List Er) (c : Er) (i : Nat) (hi : i < 3) : (rv (fs ++ [c]))[fs.length * 3 + i]? = c.vals[i]? := by
  rw [rv_snoc, ← rv_len, List.getElem?_append_right (Nat.le_add_right _ _), Nat.add_sub_cancel_left]
/-- The list so far: the first k edits are joined. -/
def Jst (R es : List Er) (k : Nat) (acc : List Er) : Prop :=
  (k = 0 ∧ acc = []) ∨ ∃ pre c, acc = pre ++ [c] ∧ R = pre ++ jnE c (es.drop k) ∧ pre.length < k ∧ c.x.size ≤ 100000 * k ∧ 0 ≤ c.t ∧ c.t ≤ 10000000

end Go.Proofs.YtkehgoailhpenaaGreat

/- The contracts of the reference's normal and Normal. Conditions: texts of at most 10000000 bytes, lists of at most 20000 edits (Normal: 1000). -/
namespace Go.Proofs.YtkehgoailhpenaaGreat
open Go.RowKit Go.Shelf
set_option linter.unusedVariables false

/-- The edit changes something. -/
def chE (s : ByteArray) (e : Er) : Bool := (s.extract e.f.toNat e.t.toNat).toList != e.x.toList
def nrS (s : ByteArray) (es : List Er) : List Er := (jnS es).filter (chE s)
theorem chE_eq (s : ByteArray) (e : Er) : chE s e = Chg (sb s) (e.ee sb) := by
  unfold chE Chg Er.ee
  rw [← sb_cut]
  by_cases h : s.extract e.f.toNat e.t.toNat = e.x
  · simp [h]
  · have h1 : sb (s.extract e.f.toNat e.t.toNat) ≠ sb e.x := fun k => h (sb_inj k)
    have h2 := str_ne h
    simp only [bne, h2, Bool.not_false]
    exact (decide_eq_true h1).symm
theorem filt_ers {s : ByteArray} : ∀ {l : List Er}, (∀ e ∈ l, 0 ≤ e.f ∧ 0 ≤ e.t) → l.filter (chE s) = ers ((ees l).filter (Chg (sb s))) := by
  intro l
  induction l with
  | nil => intro _; rfl
  | cons e l ih =>
    intro h
    have hl := ih (fun x hx => h x (by simp [hx]))
    have h0 := ers_ees (l := [e]) (by intro x hx; simp only [List.mem_singleton] at hx; subst hx; exact h x (by simp))
    rw [ees_cons, List.filter_cons, List.filter_cons, chE_eq, hl]
    split
    · have : er (e.ee sb) = e := by simpa [ers, ees] using h0
      simp only [ers, List.map_cons, this]
    · rfl
theorem jnS_pos {l : List Er} (h : ∀ e ∈ l, 0 ≤ e.f ∧ 0 ≤ e.t) : ∀ e ∈ jnS l, 0 ≤ e.f ∧ 0 ≤ e.t := by
  cases l with
  | nil => intro e he; simp [jnS] at he
  | cons e l => exact (jnE_ees l e (h e (by simp)).1 (h e (by simp)).2 (fun x hx => h x (by simp [hx]))).2
theorem jnS_ees {l : List Er} (h : ∀ e ∈ l, 0 ≤ e.f ∧ 0 ≤ e.t) : ees (jnS l) = joinl (ees l) := by
  cases l with
  | nil => rfl
  | cons e l => exact (jnE_ees l e (h e (by simp)).1 (h e (by simp)).2 (fun x hx => h x (by simp [hx]))).1
theorem nrS_eq {s : ByteArray} {l : List Er} (h : ∀ e ∈ l, 0 ≤ e.f ∧ 0 ≤ e.t) : nrS s l = ers (norml (sb s) (ees l)) := by
  unfold nrS norml
  rw [filt_ers (jnS_pos h), jnS_ees h]
theorem jnE_len : ∀ (l : List Er) (c : Er), (jnE c l).length ≤ l.length + 1 := by
  intro l
  induction l with
  | nil => intro c; exact Nat.le_refl _
  | cons e l ih =>
    intro c
    simp only [jnE]
    split
    · have := ih ⟨c.f, e.t, c.x ++ e.x⟩; simp only [List.length_cons]; omega
    · have := ih e; simp only [List.length_cons]; omega
theorem jnS_len (l : List Er) : (jnS l).length ≤ l.length := by
  cases l with
  | nil => exact Nat.le_refl _
  | cons e l => exact jnE_len l e
theorem filter_take {f : Er → Bool} {l : List Er} {k : Nat} (h : k < l.length) : (l.take (k + 1)).filter f = (l.take k).filter f ++ (if f (eg l k) then [eg l k] else []) := by
  rw [take_eg h, List.filter_append, List.filter_cons]
  rfl

end Go.Proofs.YtkehgoailhpenaaGreat

/- The mathematics of the reference's Compose: what its loop reads, and what its list is. It has no conditions. -/
namespace Go.Proofs.YtkehgoailhpenaaGreat
open Go.RowKit Go.Shelf
set_option linter.unusedVariables false

theorem canon_len {n : Nat} : ∀ {r : List (Int × Option Nat)} {a : Nat} {x : List Int}, (canon n a x r).length ≤ r.length + 1 := by
  intro r
  induction r with
  | nil => intro a x; simp only [canon]; split <;> simp
  | cons z r ih =>
    intro a x
    obtain ⟨c, k⟩ := z
    cases k with
    | none => have := ih (a := a) (x := x ++ [c]); simp only [canon, List.length_cons]; omega
    | some k =>
      have := ih (a := k + 1) (x := [])
      simp only [canon]
      split
      · simp only [List.length_cons]; omega
      · simp only [List.length_cons]; omega
theorem canon_byt {n : Nat} : ∀ {r : List (Int × Option Nat)} {a : Nat} {x : List Int}, Byt x → Byt (r.map Prod.fst) → ∀ e ∈ canon n a x r, Byt e.x ∧ e.x.length ≤ x.length + r.length := by
  intro r
  induction r with
  | nil =>
    intro a x hx _ e he
    simp only [canon] at he
    split at he
    · simp only [List.mem_singleton] at he; subst he; exact ⟨hx, by simp⟩
    · simp at he
  | cons z r ih =>
    intro a x hx hr e he
    obtain ⟨c, k⟩ := z
    have hr2 : Byt (r.map Prod.fst) := fun y hy => hr y (by simp only [List.map_cons, List.mem_cons]; exact .inr hy)
    cases k with
    | none =>
      have := ih (a := a) (x := x ++ [c]) (byt_snoc hx (hr c (by simp))) hr2 e he
      exact ⟨this.1, by have := this.2; simp only [List.length_append, List.length_cons, List.length_nil] at this ⊢; omega⟩
    | some k =>
      simp only [canon] at he
      have hn : Byt ([] : List Int) := fun y hy => by simp at hy
      split at he
      · rcases List.mem_cons.1 he with rfl | he
        · exact ⟨hx, by simp only; omega⟩
        · have := ih (a := k + 1) (x := []) hn hr2 e he
          exact ⟨this.1, by have := this.2; simp only [List.length_nil, List.length_cons] at this ⊢; omega⟩
      · have := ih (a := k + 1) (x := []) hn hr2 e he
        exact ⟨this.1, by have := this.2; simp only [List.length_nil, List.length_cons] at this ⊢; omega⟩
/-- The list of the reference's loop, with sources. -/
def rcZ (s : ByteArray) (es1 es2 : List Er) : List (Int × Option Nat) := thru (srcl (sb s) 0 (ees es1)) (srcl (sb (apS s es1)) 0 (ees es2))
def rcC (s : ByteArray) (es1 es2 : List Er) : List Ee := canon s.size 0 [] (rcZ s es1 es2)
theorem rc_fst {s : ByteArray} {es1 es2 : List Er} (h1 : vErr (s.size : Int) es1 = 0) (h2 : vErr ((apS s es1).size : Int) es2 = 0) : (rcZ s es1 es2).map Prod.fst = sb (apS (apS s es1) es2) := by
  unfold rcZ
  rw [thru_fst, srcl_fst, apS_sb h2]
theorem rc_src {s : ByteArray} {es1 es2 : List Er} (h1 : vErr (s.size : Int) es1 = 0) (h2 : vErr ((apS s es1).size : Int) es2 = 0) : Src (sb s) 0 (rcZ s es1 es2) := by
  have v1 := (vErr_ok h1).2.1
  have v2 := (vErr_ok h2).2.1
  refine thru_src (t := sb (apS s es1)) (srcl_src (by rw [sb_len]; exact v1)) ?_ (srcl_src (by rw [sb_len]; exact v2))
  rw [srcl_fst, apS_sb h1]
theorem rc_ok {s : ByteArray} {es1 es2 : List Er} (h1 : vErr (s.size : Int) es1 = 0) (h2 : vErr ((apS s es1).size : Int) es2 = 0) :
    (rcZ s es1 es2).length = (apS (apS s es1) es2).size ∧ Vld s.size 0 (ees (ers (rcC s es1 es2))) ∧ (∀ e ∈ ers (rcC s es1 es2), 0 ≤ e.f ∧ 0 ≤ e.t) ∧ (∀ e ∈ ers (rcC s es1 es2), e.x.size ≤ (apS (apS s es1) es2).size) ∧
      (ers (rcC s es1 es2)).length ≤ (apS (apS s es1) es2).size + 1 ∧ nrS s (ers (rcC s es1 es2)) = ers (cmpl (sb s) (ees es1) (ees es2)) := by
  have hf := rc_fst h1 h2
  have hl : (rcZ s es1 es2).length = (apS (apS s es1) es2).size := by
    have := congrArg List.length hf
    rwa [List.length_map, sb_len] at this
  have hb := canon_byt (n := s.size) (a := 0) (x := []) (r := rcZ s es1 es2) (fun y hy => by simp at hy) (by rw [hf]; exact sb_byt _)
  have hee : ees (ers (rcC s es1 es2)) = rcC s es1 es2 := ees_ers (fun e he => (hb e he).1)
  have hp : ∀ e ∈ ers (rcC s es1 es2), 0 ≤ e.f ∧ 0 ≤ e.t := by
    intro e he
    obtain ⟨x, hx, rfl⟩ := List.mem_map.1 he
    exact ⟨by show (0 : Int) ≤ (x.f : Int); omega, by show (0 : Int) ≤ (x.t : Int); omega⟩
  refine ⟨hl, ?_, hp, ?_, ?_, ?_⟩
  · rw [hee]
    have := canon_vld (x := []) (rc_src h1 h2)
    rwa [sb_len] at this
  · intro e he
    obtain ⟨x, hx, rfl⟩ := List.mem_map.1 he
    show (bs x.x).size ≤ _
    have := (hb x hx).2
    rw [bs_size]
    simp only [List.length_nil] at this
    omega
  · rw [ers_len]
    have := canon_len (n := s.size) (a := 0) (x := []) (r := rcZ s es1 es2)
    unfold rcC
    omega
  · rw [nrS_eq hp, hee]
    unfold cmpl rcC rcZ
    rw [apS_sb h1, sb_len]
/-- What the loop reads at a byte of the last text. -/
theorem rc_at {s : ByteArray} {es1 es2 : List Er} (h1 : vErr (s.size : Int) es1 = 0) (h2 : vErr ((apS s es1).size : Int) es2 = 0) {k : Nat} (hk : k < (apS (apS s es1) es2).size) :
    (srN (apS s es1).size 0 es2)[k]? = some (-1) ∧ (rcZ s es1 es2)[k]? = some (((sb (apS (apS s es1) es2))[k]?).getD 0, none) ∨
    ∃ m2 : Nat, (srN (apS s es1).size 0 es2)[k]? = some (m2 : Int) ∧ m2 < (srN s.size 0 es1).length ∧
      ((srN s.size 0 es1)[m2]? = some (-1) ∧ (rcZ s es1 es2)[k]? = some (((sb (apS (apS s es1) es2))[k]?).getD 0, none) ∨
       ∃ m : Nat, (srN s.size 0 es1)[m2]? = some (m : Int) ∧ m < s.size ∧ (rcZ s es1 es2)[k]? = some (((sb (apS (apS s es1) es2))[k]?).getD 0, some m)) := by
  have v1 := (vErr_ok h1).2.1
  have v2 := (vErr_ok h2).2.1
  obtain ⟨z1, hz1⟩ : ∃ z, srcl (sb s) 0 (ees es1) = z := ⟨_, rfl⟩
  obtain ⟨z2, hz2⟩ : ∃ z, srcl (sb (apS s es1)) 0 (ees es2) = z := ⟨_, rfl⟩
  have e1 : srN s.size 0 es1 = z1.map enc := by rw [← enc_srcl v1, hz1]
  have e2 : srN (apS s es1).size 0 es2 = z2.map enc := by rw [← enc_srcl v2, hz2]
  have eZ : rcZ s es1 es2 = thru z1 z2 := by unfold rcZ; rw [hz1, hz2]
  have f1 : z1.map Prod.fst = sb (apS s es1) := by rw [← hz1, srcl_fst, apS_sb h1]
  have f2 : z2.map Prod.fst = sb (apS (apS s es1) es2) := by rw [← hz2, srcl_fst, apS_sb h2]
  have s1 : Src (sb s) 0 z1 := by rw [← hz1]; exact srcl_src (by rw [sb_len]; exact v1)
  have s2 : Src (sb (apS s es1)) 0 z2 := by rw [← hz2]; exact srcl_src (by rw [sb_len]; exact v2)
  obtain ⟨_, g1, _⟩ := src_iff.1 s1
  obtain ⟨_, g2, _⟩ := src_iff.1 s2
  have l1 : z1.length = (apS s es1).size := by have := congrArg List.length f1; rwa [List.length_map, sb_len] at this
  have l2 : z2.length = (apS (apS s es1) es2).size := by have := congrArg List.length f2; rwa [List.length_map, sb_len] at this
  obtain ⟨⟨c, o⟩, hz⟩ : ∃ y, z2[k]? = some y := ⟨_, List.getElem?_eq_getElem (by omega)⟩
  have hc : ((sb (apS (apS s es1) es2))[k]?).getD 0 = c := by rw [← f2, List.getElem?_map, hz]; rfl
  rw [e1, e2, eZ, hc]
  unfold thru
  simp only [List.getElem?_map, hz, Option.map_some]
  cases o with
  | none => exact .inl ⟨rfl, rfl⟩
  | some m2 =>
    have hm2 := (g2 k m2 c hz).2
    have hlt : m2 < z1.length := by have := (List.getElem?_eq_some_iff.1 hm2).1; rw [sb_len] at this; omega
    refine .inr ⟨m2, rfl, by rw [List.length_map]; exact hlt, ?_⟩
    obtain ⟨⟨c1, o1⟩, hy⟩ : ∃ y, z1[m2]? = some y := ⟨_, List.getElem?_eq_getElem hlt⟩
    simp only [hy, Option.map_some, Option.bind_some]
    cases o1 with
    | none => exact .inl ⟨rfl, rfl⟩
    | some m =>
      have hm := (g1 m2 m c1 hy).2
      have := (List.getElem?_eq_some_iff.1 hm).1
      rw [sb_len] at this
      exact .inr ⟨m, rfl, this, rfl⟩

end Go.Proofs.YtkehgoailhpenaaGreat

/- The contract of the reference's Compose. Conditions: texts of at most 5000 bytes, lists of at most 1000 edits. -/
namespace Go.Proofs.YtkehgoailhpenaaGreat
open Go.RowKit Go.Shelf
set_option linter.unusedVariables false

/-- A slice of integers in memory, in a form that a walk reads. -/
theorem row_core {w w' : World} {xs : List Int} {e : Ending} (h : NewRow .i64 3 w xs e w') : ∃ (a : Option Addr) (cap b off : Nat), e = .returned (.slice a xs.length cap) ∧ xs.length ≤ cap ∧ (xs.length = 0 ∨ (a = some ⟨b, off, none⟩ ∧ b < w'.heap.size)) ∧
    (∀ k, k < xs.length → ∀ W : World, W.heap[b]? = w'.heap[b]? → W.cell? ⟨b, off + k, none⟩ = some (.int .i64 (xs[k]?.getD 0))) ∧ Below w.heap.size w w' := by
  obtain ⟨A, cap, rfl, hr, hb⟩ := row_of_new h
  have hs := hr.sli
  have hle := hs.le
  rcases hs.cells with h0 | ⟨b, off, rfl, hlt, hc⟩
  · exact ⟨A, cap, 0, 0, rfl, hle, .inl (by simp [h0]), fun k hk => by simp [h0] at hk, hb⟩
  · refine ⟨_, cap, b, off, rfl, hle, .inr ⟨rfl, hlt⟩, fun k hk W hW => ?_, hb⟩
    rw [← hc k hk]
    simp only [World.cell?, hW]

theorem srN_len {s : ByteArray} {es : List Er} (h : vErr (s.size : Int) es = 0) : (srN s.size 0 es).length = (apS s es).size := by
  rw [← enc_srcl (vErr_ok h).2.1, List.length_map, ← List.length_map (f := Prod.fst), srcl_fst, ← apS_sb h, sb_len]
theorem bnil : (⟨#[]⟩ : ByteArray).toList = [] := by kernel_rfl
theorem ers_cons (e : Ee) (l : List Ee) : ers (e :: l) = er e :: ers l := rfl
theorem er_sb (f t : Nat) (x : ByteArray) : er ⟨f, t, sb x⟩ = ⟨(f : Int), (t : Int), x⟩ := by simp only [er, bs_sb]
/-- The loop's state: the edits so far, and what is pending. -/
def RcI (C : List Er) (n : Nat) (Z : List (Int × Option Nat)) (M k at_ : Nat) (x : ByteArray) (acc : List Er) : Prop :=
  (k ≤ M → C = acc ++ ers (canon n at_ (sb x) (Z.drop k))) ∧ (k = M + 1 → C = acc)

end Go.Proofs.YtkehgoailhpenaaGreat

/- Boundaries of characters in whole texts, and positions that a common beginning decides; Boundary, and edits at boundaries. Conditions: texts of at most 1000000 bytes. -/
namespace Go.Proofs.YtkehgoailhpenaaGreat
open Go.RowKit Go.Shelf
set_option linter.unusedVariables false

theorem whl_drop {Z : List Int} {i u : Nat} (h : Bord Z i u) (w : Whl Z) : Whl (Z.drop i) := by
  induction h with
  | zero Z => simpa using w
  | @step Z i u hz _ ih =>
    cases w with
    | nil => exact absurd rfl hz
    | cons _ _ hr => rw [← List.drop_drop]; exact ih hr
theorem whl_take {Z : List Int} {i u : Nat} (h : Bord Z i u) (w : Whl Z) : Whl (Z.take i) := by
  induction h with
  | zero Z => rw [List.take_zero]; exact Whl.nil
  | @step Z i u hz _ ih =>
    cases w with
    | nil => exact absurd rfl hz
    | cons _ hw hr =>
      have hp := chr_pos Z
      have hne : Z.take ((chr Z).1 + i) ≠ [] := take_ne hz (by omega)
      have hc : chr (Z.take ((chr Z).1 + i)) = chr Z := chr_take (by omega)
      refine Whl.cons hne ?_ ?_
      · rw [hc]
        have e : ab (Z.take ((chr Z).1 + i)) 0 = ab Z 0 := by unfold ab; rw [List.getElem?_take, if_pos (by omega)]
        rw [e]; exact hw
      · rw [hc, List.drop_take, Nat.add_sub_cancel_left]; exact ih hr
/-- Offset m is not within a character, by its looks. -/
def Bd (Z : List Int) (m : Nat) : Prop := m = 0 ∨ Z.length ≤ m ∨ ¬ (128 ≤ ab Z m ∧ ab Z m < 192)
theorem chr_cont {Z : List Int} (j : Nat) (h1 : 1 ≤ j) (hj : j < (chr Z).1) : 128 ≤ ab Z j ∧ ab Z j < 192 := by
  have key : ∀ i, bt Z i 128 191 = true → 128 ≤ ab Z i ∧ ab Z i < 192 := fun i h => by have := bt_true h; omega
  rcases chr_ways Z with h0 | ⟨h0, _, a1⟩ | ⟨h0, _, a1, a2⟩ | ⟨h0, _, a1, a2, a3⟩ <;> rw [h0] at hj <;> simp only at hj
  · omega
  · obtain rfl : j = 1 := by omega
    exact key _ a1
  · have : j = 1 ∨ j = 2 := by omega
    rcases this with rfl | rfl
    · exact key _ a1
    · exact key _ a2
  · have : j = 1 ∨ j = 2 ∨ j = 3 := by omega
    rcases this with rfl | rfl | rfl
    · exact key _ a1
    · exact key _ a2
    · exact key _ a3
theorem bord_of_bd {Z : List Int} (w : Whl Z) : ∀ {m : Nat}, m ≤ Z.length → Bd Z m → ∃ U, Bord Z m U := by
  induction w with
  | nil => intro m hm _; obtain rfl : m = 0 := by simpa using hm
           exact ⟨0, Bord.zero _⟩
  | @cons Z hz hw hr ih =>
    intro m hm hb
    have hp := chr_pos Z
    by_cases h0 : m = 0
    · subst h0; exact ⟨0, Bord.zero _⟩
    by_cases hlt : m < (chr Z).1
    · have hl := chr_le hz
      have hc := chr_cont (Z := Z) m (by omega) hlt
      rcases hb with h | h | h
      · exact absurd h h0
      · omega
      · exact absurd hc h
    · obtain ⟨i, rfl⟩ : ∃ i, m = (chr Z).1 + i := ⟨m - (chr Z).1, by omega⟩
      have hl := chr_le hz
      obtain ⟨U, hU⟩ := ih (m := i) (by rw [List.length_drop]; omega) (by
        rcases hb with h | h | h
        · omega
        · exact .inr (.inl (by rw [List.length_drop]; omega))
        · refine .inr (.inr ?_)
          have e : ab (Z.drop (chr Z).1) i = ab Z ((chr Z).1 + i) := by unfold ab; rw [List.getElem?_drop]
          rw [e]; exact h)
      exact ⟨_, Bord.step hz hU⟩
/-- A position is decided by what stands before it, in whole texts. -/
theorem pos_prefix {A B1 B2 : List Int} {l u : Nat} (w : Whl (A ++ B1)) (h : Pos (A ++ B1) A.length l u) : Pos (A ++ B2) A.length l u := by
  obtain ⟨⟨U, hU⟩, hl, hb⟩ := h
  have hA : Bord A A.length U := by
    have := hU.of_take (Nat.le_refl _)
    rwa [List.take_left] at this
  have wA : Whl A := by
    have := whl_take hU w
    rwa [List.take_left] at this
  rw [lf_left A B1 _ (Nat.le_refl _)] at hl hb
  have hle := (lf_le A A.length).1
  refine ⟨⟨U, hA.append wA⟩, by rw [lf_left A B2 _ (Nat.le_refl _)]; exact hl, ?_⟩
  rw [lf_left A B2 _ (Nat.le_refl _)]
  rw [List.drop_append_of_le_length hle] at hb ⊢
  have hb2 := hb.of_take (m := (A.drop (lf A A.length).2).length) (by rw [List.length_drop]; omega)
  rw [List.take_left] at hb2
  obtain ⟨V, hV⟩ := lf_bord (Z := A) (i := A.length) (Nat.le_refl _)
  exact hb2.append (whl_drop hV wA)

/-- The last boundary up to an offset. -/
def bdy (Z : List Int) : Nat → Nat
  | 0 => 0
  | k + 1 => if k + 1 < Z.length ∧ 128 ≤ ab Z (k + 1) ∧ ab Z (k + 1) < 192 then bdy Z k else k + 1
theorem bdy_le (Z : List Int) : ∀ k, bdy Z k ≤ k := by
  intro k
  induction k with
  | zero => exact Nat.le_refl _
  | succ k ih => simp only [bdy]; split <;> omega
theorem bdy_ok (Z : List Int) : ∀ k, Bd Z (bdy Z k) := by
  intro k
  induction k with
  | zero => exact .inl rfl
  | succ k ih =>
    simp only [bdy]
    split
    · exact ih
    · rename_i h
      by_cases hl : k + 1 < Z.length
      · exact .inr (.inr (fun x => h ⟨hl, x⟩))
      · exact .inr (.inl (by omega))
theorem bdy_ge {Z : List Int} {m : Nat} (hm : Bd Z m) : ∀ {k}, m ≤ k → m ≤ bdy Z k := by
  intro k
  induction k with
  | zero => intro h; simp only [bdy]; exact h
  | succ k ih =>
    intro h
    simp only [bdy]
    split
    · rename_i hc
      by_cases e : m = k + 1
      · subst e
        rcases hm with h1 | h1 | h1
        · omega
        · omega
        · exact absurd hc.2 h1
      · exact ih (by omega)
    · exact h

set_option maxRecDepth 100000 in
set_option maxHeartbeats 2000000 in
theorem boundary_any (s : ByteArray) (k0 : Nat) (w : World) (hs : s.size ≤ 1000000) (hk0 : k0 ≤ s.size) :
    Calls Tryz.prog 63 #[.string s, .int .i64 (k0 : Int)] w fun e w' => e = .returned (.int .i64 ((bdy (sb s) k0 : Nat) : Int)) ∧ w' = w := by
  obtain ⟨R, hR⟩ : ∃ R, bdy (sb s) k0 = R := ⟨_, rfl⟩
  rw [hR]
  have H0 : Hid (bdy (sb s) k0 = R) := hR
  clear hR
  go_enter Tryz.func63, Tryz.ntmps63
  go_wp2_with fail
  go_loopw [1] (fun q wr => ∃ (k : Nat), k ≤ s.size ∧ q = .int .i64 (k : Int) ∧ Hid (bdy (sb s) k = R) ∧ wr = w) (fun q _ => (intOf q).toNat)
  case atStart => exact ⟨k0, hk0, rfl, H0, rfl⟩
  case round =>
    obtain ⟨k, hk, rfl, HI, rfl⟩ := hrel
    have stop : bdy (sb s) k = k → Hid (k = R) := fun h => Lib.hid (by rw [← HI.out, h])
    by_cases h0 : k = 0
    · subst h0
      have HK := stop rfl
      clear stop
      go_wp2
      go_ret
      exact ⟨by rw [← HK.out]; rfl, rfl⟩
    · have f0 : (0 : Int) < (k : Int) := by omega
      obtain ⟨j, hj⟩ : ∃ j, k = j + 1 := ⟨k - 1, by omega⟩
      by_cases h1 : k < s.size
      · have f1 : (k : Int) < (s.size : Int) := by omega
        have hab : ab (sb s) k = (((s[k]'h1).toNat : Nat) : Int) := by unfold ab; rw [sb_get s k h1]; rfl
        obtain ⟨c, hc⟩ : ∃ c : Nat, (s[k]'h1).toNat = c := ⟨_, rfl⟩
        rw [hc] at hab
        by_cases h2 : 128 ≤ c ∧ c < 192
        · have f2 : (128 : Int) ≤ (c : Int) := by omega
          have f3 : (c : Int) < 192 := by omega
          have HI2 : Hid (bdy (sb s) j = R) := Lib.hid (by
            have := HI.out
            subst hj
            simp only [bdy] at this
            rwa [if_pos ⟨by rw [sb_len]; exact h1, by rw [hab]; omega, by rw [hab]; omega⟩] at this)
          have hkj : (k : Int) - 1 = (j : Int) := by omega
          clear hj hab stop
          go_wp2
          go_roundw
          case rel => exact ⟨j, by omega, rfl, HI2, by trivial⟩
          case measure => simp [intOf]; omega
        · have HK := stop (by
            subst hj
            simp only [bdy]
            rw [if_neg (fun h => h2 (by rw [hab] at h; omega))])
          clear hj hab stop
          by_cases h3 : 128 ≤ c
          · have f2 : (128 : Int) ≤ (c : Int) := by omega
            have f3 : ¬ (c : Int) < 192 := by omega
            go_wp2
            go_ret
            exact ⟨by rw [← HK.out]; rfl, rfl⟩
          · have f2 : ¬ (128 : Int) ≤ (c : Int) := by omega
            go_wp2
            go_ret
            exact ⟨by rw [← HK.out]; rfl, rfl⟩
      · have f1 : ¬ (k : Int) < (s.size : Int) := by omega
        have HK := stop (by
          subst hj
          simp only [bdy]
          rw [if_neg (fun h => by have := h.1; rw [sb_len] at this; exact h1 this)])
        clear hj stop
        go_wp2
        go_ret
        exact ⟨by rw [← HK.out]; rfl, rfl⟩

end Go.Proofs.YtkehgoailhpenaaGreat

/- The contract of Edits: edits at boundaries of characters. Conditions: texts of at most 1000000 bytes. -/
namespace Go.Proofs.YtkehgoailhpenaaGreat
open Go.RowKit Go.Shelf
set_option linter.unusedVariables false

/-- A call hands back a slice of its own with valid edits of the text, at boundaries. -/
def MadeB (s : ByteArray) (w : World) (e : Ending) (w' : World) : Prop :=
  ∃ es v, e = .returned v ∧ es.length ≤ 5 ∧ vErr (s.size : Int) es = 0 ∧ (∀ x ∈ es, x.x.size ≤ s.size + 7 ∧ Bd (sb s) x.f.toNat ∧ Bd (sb s) x.t.toNat) ∧ w'.ownsRow w.heap.size 84 3 v es.length (rv es) ∧ Below w.heap.size w w'

set_option maxRecDepth 100000 in
set_option maxHeartbeats 4000000 in
theorem some_whole (s : ByteArray) (a : Option Addr) (nl cap : Nat) (w : World) (hs : s.size ≤ 1000000) (h : SlI w.heap.size w a nl) (hcap : nl ≤ cap) (hcap2 : cap ≤ 9223372036854775807) :
    Calls Tryz.prog 36 #[.string s, .slice a nl cap, .bool true] w (MadeB s w) := by
  obtain ⟨i3, hi3, jy0, jy1, jy2⟩ := info_parts infoEd2
  obtain ⟨B, hB⟩ : ∃ B, w.heap.size = B := ⟨_, rfl⟩
  rw [hB] at h
  obtain ⟨W1, hW1⟩ : ∃ W, w.alloc (.cells (wrds.map Value.string).toArray 9) = W := ⟨_, rfl⟩
  have hb1 : Below B w W1 := by rw [← hW1, ← hB]; exact (Below.refl _ _).alloc (Nat.le_refl _) _
  have hs1 : W1.heap.size = B + 1 := by rw [← hW1, ← hB]; simp
  have hblk : ∀ q, q < 13 → ∀ W, Below (B + 1) W1 W → ∃ p, W.cell? ⟨B, q, none⟩ = some (.string p) ∧ p.size ≤ 5 := by
    intro q hq W hW
    have hq2 : q < wrds.length := hq
    refine ⟨wrds[q], ?_, wrds_ok _ (List.getElem_mem hq2)⟩
    rw [hW.cell (p := ⟨B, q, none⟩) (by show B < B + 1; omega), ← hW1, ← hB]
    have bk : Blk (w.alloc (.cells (wrds.map Value.string).toArray 9)) w.heap.size 9 (wrds.map Value.string).toArray := Blk.new _ _ _
    rw [bk.cell q]
    simp [hq2]
  have HP : Hid (∀ z y : Int, 0 ≤ z → z ≤ 1000 → 1 ≤ y → y ≤ 1000000 → ∀ W, Below (B + 1) W1 W → Calls Tryz.prog 35 #[.slice a nl cap, .int .i64 z, .int .i64 y] W fun e w' => ∃ k : Nat, (k : Int) < y ∧ e = .returned (.int .i64 (k : Int)) ∧ w' = W) := by
    intro z y h1 h2 h3 h4 W hW
    obtain ⟨j, rfl⟩ : ∃ j : Nat, z = (j : Int) := ⟨z.toNat, by omega⟩
    obtain ⟨m, rfl⟩ : ∃ m : Nat, y = (m : Int) := ⟨y.toNat, by omega⟩
    refine (pick_any B a nl cap j m W (h.below (hb1.trans (hW.mono (by omega)))) hcap hcap2 (by omega) (by omega) (by omega)).mono ?_
    rintro e w' ⟨k, hk, rfl, rfl⟩
    exact ⟨k, by omega, rfl, rfl⟩
  have HB := Lib.hid hB; have HBLK := Lib.hid hblk; have HB1 := Lib.hid hb1; have HW := Lib.hid hW1; have HS1 := Lib.hid hs1
  have H0 : Hid (W1.ownsRow (B + 1) 84 3 (.slice none 0 0) ([] : List Er).length (rv [])) := World.ownsRow_nil _ _ _ _
  clear h hB hblk hb1 hW1 hs1
  go_enter Tryz.func36, Tryz.ntmps36
  go_wp2_with fail
  rw [show w.alloc (.cells #[.string ⟨#[]⟩, .string ⟨#[120]⟩, .string ⟨#[97, 98]⟩, .string ⟨#[32]⟩, .string ⟨#[10]⟩, .string ⟨#[108, 101, 116]⟩, .string ⟨#[48]⟩, .string ⟨#[43]⟩, .string ⟨#[195, 169]⟩, .string ⟨#[240, 157, 132, 158, 121]⟩, .string ⟨#[40]⟩, .string ⟨#[34]⟩, .string ⟨#[97, 95, 49]⟩] 9) = W1 from HW.out, HB.out]
  go_loopw [8, 9, 10] (fun v p q wr => ∃ (i : Nat) (f : Nat) (es : List Er), i ≤ 5 ∧ f ≤ s.size ∧ p = .int .i64 (f : Int) ∧ q = .int .i64 (i : Int) ∧ Hid (es.length = i) ∧ Hid (vE (s.size : Int) 0 es = 0 ∧ lastT 0 es = (f : Int) ∧ Bd (sb s) f) ∧ Hid (∀ x ∈ es, x.x.size ≤ s.size + 7 ∧ Bd (sb s) x.f.toNat ∧ Bd (sb s) x.t.toNat) ∧ Hid (wr.ownsRow (B + 1) 84 3 v es.length (rv es)) ∧ Hid (Below (B + 1) W1 wr)) (fun _ _ q _ => 5 - (intOf q).toNat)
  case atStart => exact ⟨0, 0, [], by omega, by omega, rfl, rfl, rfl, ⟨rfl, rfl, .inl rfl⟩, Lib.hid (fun x hx => by simp at hx), H0, Below.refl _ _⟩
  case round =>
    obtain ⟨i, f, es, hi, hf, rfl, rfl, HL, HV, HX, HO, HR⟩ := hrel
    have hcz : B + 1 ≤ wr.heap.size := by have := HR.out.size; have := HS1.out; omega
    go_wp2_with fail
    refine (HP.out 0 6 (by omega) (by omega) (by omega) (by omega) _ HR.out).mono ?_
    rintro e w' ⟨m0, hm0, rfl, rfl⟩
    by_cases hlt : (i : Int) < (m0 : Int)
    · go_wp2_with fail
      refine (HP.out _ _ (by omega) (by omega) (by omega) (by omega) _ HR.out).mono ?_
      rintro e w' ⟨n, hn, rfl, rfl⟩
      obtain ⟨D, hD⟩ : ∃ D : Nat, (s.size : Int) - (f : Int) + 1 = (D : Int) := ⟨s.size - f + 1, by omega⟩
      have hD1 : ¬ (D : Int) = 0 := by omega
      have hnn : 0 ≤ (n : Int) := by omega
      obtain ⟨x, hx⟩ : ∃ x : Nat, (f : Int) + (n : Int) % (D : Int) = (x : Int) := ⟨((f : Int) + (n : Int) % (D : Int)).toNat, by have := Int.emod_nonneg (n : Int) hD1; omega⟩
      have hxs : x ≤ s.size := by have := Int.emod_lt_of_pos (n : Int) (show (0 : Int) < D by omega); omega
      have hxf : f ≤ x := by have := Int.emod_nonneg (n : Int) hD1; omega
      obtain ⟨D2, hD2⟩ : ∃ D : Nat, min ((s.size : Int) - (f : Int)) 6 + 1 = (D : Int) := ⟨(min ((s.size : Int) - (f : Int)) 6 + 1).toNat, by omega⟩
      have hD3 : ¬ (D2 : Int) = 0 := by omega
      obtain ⟨x2, hx2⟩ : ∃ x : Nat, (f : Int) + (n : Int) % (D2 : Int) = (x : Int) := ⟨((f : Int) + (n : Int) % (D2 : Int)).toNat, by have := Int.emod_nonneg (n : Int) hD3; omega⟩
      have hxs2 : x2 ≤ s.size := by have := Int.emod_lt_of_pos (n : Int) (show (0 : Int) < D2 by omega); omega
      have hxf2 : f ≤ x2 := by have := Int.emod_nonneg (n : Int) hD3; omega
      obtain ⟨r1, hr1⟩ : ∃ r : Nat, (n : Int) / 8 = (r : Int) := ⟨n / 8, by omega⟩
      obtain ⟨r2, hr2⟩ : ∃ r : Nat, (n : Int) / 16 = (r : Int) := ⟨n / 16, by omega⟩
      obtain ⟨q1, hq1⟩ : ∃ q : Bool, ((r1 : Int) % 2 == 0) = q := ⟨_, rfl⟩
      obtain ⟨q2, hq2⟩ : ∃ q : Bool, ((r2 : Int) % 5 == 0) = q := ⟨_, rfl⟩
      obtain ⟨y, hy1, hy2, hy3, hy4⟩ : ∃ y : Nat, f ≤ y ∧ y ≤ s.size ∧ (q1 = false → y = x) ∧ (q1 = true → y = x2) := by
        cases q1
        · exact ⟨x, hxf, hxs, fun _ => rfl, (fun h => by cases h)⟩
        · exact ⟨x2, hxf2, hxs2, (fun h => by cases h), fun _ => rfl⟩
      obtain ⟨E, hE⟩ : ∃ D : Nat, min ((s.size : Int) - (y : Int)) 7 + 1 = (D : Int) := ⟨(min ((s.size : Int) - (y : Int)) 7 + 1).toNat, by omega⟩
      have hE1 : (1 : Int) ≤ (E : Int) := by omega
      have hE2 : (E : Int) ≤ 1000000 := by omega
      have hE3 : ∀ k : Nat, (k : Int) < (E : Int) → y + k ≤ s.size ∧ k ≤ 7 := fun k hk => by omega
      have HE3 := Lib.hid hE3
      clear hxf hxs hxf2 hxs2 hE3
      cases q1
      case' false =>
        have hyx := hy3 rfl
        clear hy3 hy4
        subst hyx
      case' true =>
        have hyx := hy4 rfl
        clear hy3 hy4
        subst hyx
      all_goals
        go_wp2_with fail
        refine (HP.out _ _ (by omega) (by omega) hE1 hE2 _ HR.out).mono ?_
        rintro e w' ⟨k, hk, rfl, rfl⟩
        obtain ⟨hk1, hk2⟩ := HE3.out k hk
        obtain ⟨z, hz⟩ : ∃ z : Nat, (y : Int) + (k : Int) = (z : Int) := ⟨y + k, by omega⟩
        have hz1' : z ≤ s.size := by omega
        obtain ⟨y2, hy2'⟩ : ∃ y2, bdy (sb s) y = y2 := ⟨_, rfl⟩
        obtain ⟨z2, hz2'⟩ : ∃ y2, bdy (sb s) z = y2 := ⟨_, rfl⟩
        have hyb : y2 ≤ y := by rw [← hy2']; exact bdy_le _ _
        have hzb : z2 ≤ z := by rw [← hz2']; exact bdy_le _ _
        have hBY : Bd (sb s) y2 := by rw [← hy2']; exact bdy_ok _ _
        have hBZ : Bd (sb s) z2 := by rw [← hz2']; exact bdy_ok _ _
        have hfy : f ≤ y2 := by rw [← hy2']; exact bdy_ge HV.out.2.2 hy1
        have hyz2 : y2 ≤ z2 := by rw [← hz2']; exact bdy_ge hBY (by omega)
        have CB1 := Lib.hid (fun W => boundary_any s y W hs hy2)
        have CB2 := Lib.hid (fun W => boundary_any s z W hs hz1')
        have HBYZ := Lib.hid (And.intro hBY hBZ)
        rw [hy2'] at CB1
        rw [hz2'] at CB2
        clear hy2' hz2' hBY hBZ
        go_wp2_with fail
        refine (CB1.out _).mono ?_
        rintro e w' ⟨rfl, rfl⟩
        go_wp2_with fail
        refine (CB2.out _).mono ?_
        rintro e w' ⟨rfl, rfl⟩
        have hz1 : z2 ≤ s.size := by omega
        go_wp2_with fail
        refine (HP.out _ _ (by omega) (by omega) (by omega) (by omega) _ HR.out).mono ?_
        rintro e w' ⟨m, hm, rfl, rfl⟩
        obtain ⟨t, ct, htl⟩ := HBLK.out m (by omega) _ HR.out
        have hzz : (y2 : Int) ≤ (z2 : Int) := by omega
        have hze : (z2 : Int) ≤ (s.size : Int) := by omega
        have hxl : (s.extract y2 z2).size ≤ s.size + 7 := by rw [ByteArray.size_extract]; omega
        clear hx hD hD1 hx2 hD2 hD3 hE hE1 hE2
        have hes : es.length ≤ 5 := by rw [HL.out]; exact hi
        obtain ⟨T, hT1, hT2, hT3⟩ : ∃ T : ByteArray, T.size ≤ s.size + 7 ∧ (q2 = false → T = t) ∧ (q2 = true → T = s.extract y2 z2) := by
          cases q2
          · exact ⟨t, by omega, fun _ => rfl, (fun h => by cases h)⟩
          · exact ⟨s.extract y2 z2, hxl, (fun h => by cases h), fun _ => rfl⟩
        have HV2 : Hid (vE (s.size : Int) 0 (es ++ [(⟨(y2 : Int), (z2 : Int), T⟩ : Er)]) = 0 ∧ lastT 0 (es ++ [(⟨(y2 : Int), (z2 : Int), T⟩ : Er)]) = (z2 : Int) ∧ Bd (sb s) z2) :=
          ⟨vE_snoc HV.out.1 (by show (0 : Int) ≤ (y2 : Int); omega) (by rw [HV.out.2.1]; show (f : Int) ≤ (y2 : Int); omega) (by show (y2 : Int) ≤ (z2 : Int); omega) (by show (z2 : Int) ≤ (s.size : Int); omega), lastT_snoc _ _ _, HBYZ.out.2⟩
        have HX2 : Hid (∀ x ∈ es ++ [(⟨(y2 : Int), (z2 : Int), T⟩ : Er)], x.x.size ≤ s.size + 7 ∧ Bd (sb s) x.f.toNat ∧ Bd (sb s) x.t.toNat) := Lib.hid (by
          intro x hx
          rcases List.mem_append.1 hx with h | h
          · exact HX.out x h
          · rw [List.mem_singleton] at h; subst h; exact ⟨hT1, HBYZ.out.1, HBYZ.out.2⟩)
        have HL2 : Hid ((es ++ [(⟨(y2 : Int), (z2 : Int), T⟩ : Er)]).length = i + 1) := Lib.hid (by rw [List.length_append, HL.out]; rfl)
        have HRV : Hid (rv (es ++ [(⟨(y2 : Int), (z2 : Int), T⟩ : Er)]) = rv es ++ [.int .i64 (y2 : Int), .int .i64 (z2 : Int), .string T]) := rv_snoc _ _
        have HT1 := Lib.hid hT1
        clear hT1 hxl
        cases q2
        case' false =>
          have hTT := hT2 rfl
          clear hT2 hT3
          subst hTT
        case' true =>
          have hTT : s.extract y2 z2 = T := (hT3 rfl).symm
          clear hT2 hT3
        all_goals
          go_wp2_with (at_builtin; (refine wpList_append_own _ rfl _ _ 38 rfl (B + 1) 84 i3 (.agg #[.int .i64 0, .int .i64 0, .string ⟨#[]⟩]) 3 32 Tryz.underlying38 hi3 jy0 jy1 jy2 rfl (by decide) u8 es.length (rv es) rfl (HO.out.alloc _) ⟨w'.heap.size, 0, none⟩ 1 1 [.int .i64 (y2 : Int), .int .i64 (z2 : Int), .string T] rfl rfl (cells_news _ [.int .i64 (y2 : Int), .int .i64 (z2 : Int), .string T] _) (fun x hx => by simp at hx; rcases hx with rfl | rfl | rfl <;> rfl) (by unfold maxLen; omega) (by omega) (by simp; omega) ?_; intro v' w6 hown6 hgrow6 _))
          have HO6 : Hid (w6.ownsRow (B + 1) 84 3 v' (es ++ [(⟨(y2 : Int), (z2 : Int), T⟩ : Er)]).length (rv (es ++ [(⟨(y2 : Int), (z2 : Int), T⟩ : Er)]))) := by rw [HRV.out, List.length_append]; exact hown6
          have H6 : Hid (Below (B + 1) W1 w6) := HR.out.trans (((Below.refl _ _).alloc hcz _).grown hgrow6 (by simp; omega) (fun g eg => (HO.out.lt g eg).1))
          clear hown6 hgrow6
          go_wp2
          go_roundw
          case rel => exact ⟨i + 1, z2, _, by omega, hz1, rfl, by go_num, HL2, HV2, HX2, HO6, H6⟩
          case measure => simp [intOf]; omega
    · go_wp2
      go_ret
      refine ⟨es, _, rfl, by rw [HL.out]; exact hi, ?_, HX.out, ?_, ?_⟩
      · unfold vErr
        rw [if_neg (by rw [HL.out]; omega)]
        exact HV.out.1
      · have h1 := HO.out
        rw [HB.out]
        exact own_base h1 (by omega)
      · rw [HB.out]
        exact HB1.out.trans (HR.out.mono (by omega))

set_option maxRecDepth 100000 in
theorem edits_any (s : ByteArray) (a : Option Addr) (nl cap : Nat) (w : World) (hs : s.size ≤ 1000000) (h : SlI w.heap.size w a nl) (hcap : nl ≤ cap) (hcap2 : cap ≤ 9223372036854775807) :
    Calls Tryz.prog 31 #[.string s, .slice a nl cap] w (MadeB s w) := by
  have C := Lib.hid (some_whole s a nl cap w hs h hcap hcap2)
  clear h
  go_enter Tryz.func31, Tryz.ntmps31
  go_wp2_with fail
  refine C.out.mono ?_
  rintro e w2 ⟨es, v, rfl, h1, h2, h3, h4, h5⟩
  have H := Lib.hid (And.intro h1 (And.intro h2 (And.intro h3 (And.intro h4 h5))))
  clear h1 h2 h3 h4 h5
  go_wp2
  go_ret
  obtain ⟨h1, h2, h3, h4, h5⟩ := H.out
  exact ⟨es, v, rfl, h1, h2, h3, h4, h5⟩

end Go.Proofs.YtkehgoailhpenaaGreat

/- Bytes as a function: the edits by offsets that edits by positions become, and the error. Conditions: texts of at most 100000 bytes, lists of at most 1000 edits. -/
namespace Go.Proofs.YtkehgoailhpenaaGreat
open Go.RowKit Go.Shelf
set_option linter.unusedVariables false

theorem ed_ex (Z : List Int) (p : PE) : ∃ x : Ed × Int, EdS Z p x.1 x.2 := by
  obtain ⟨d, er, h⟩ := ed_total Z p
  exact ⟨(d, er), h⟩
/-- What an edit by positions becomes, and its error. -/
noncomputable def edD (Z : List Int) (p : PE) : Ed × Int := Classical.choose (ed_ex Z p)
theorem edD_ok (Z : List Int) (p : PE) : EdS Z p (edD Z p).1 (edD Z p).2 := Classical.choose_spec (ed_ex Z p)
theorem edD_eq {Z : List Int} {p : PE} {d : Ed} {er : Int} (h : EdS Z p d er) : edD Z p = (d, er) := by
  obtain ⟨h1, h2⟩ := (edD_ok Z p).det h
  exact Prod.ext h1 h2
def Ed.er (d : Ed) : Er := ⟨(d.f : Int), (d.o : Int), d.t⟩
/-- The first error. -/
noncomputable def pE0 (Z : List Int) : List PE → Int
  | [] => 0
  | p :: l => if (edD Z p).2 = 0 then pE0 Z l else (edD Z p).2
noncomputable def pE (s : ByteArray) (l : List PE) : Int := if 64 < l.length then 4 else pE0 (sb s) l
noncomputable def pL (s : ByteArray) (l : List PE) : List Er := if pE s l = 0 then l.map (fun p => (edD (sb s) p).1.er) else []
def dPE : PE := ⟨0, 0, 0, 0, ⟨#[]⟩⟩
def pG (ps : List PE) (k : Nat) : PE := ps[k]?.getD dPE
theorem pG_eq {ps : List PE} {k : Nat} (h : k < ps.length) : ps[k]? = some (pG ps k) := by simp [pG, List.getElem?_eq_getElem h]
theorem pG_mem {ps : List PE} {k : Nat} (h : k < ps.length) : pG ps k ∈ ps := List.mem_of_getElem? (pG_eq h)
theorem pG_drop {ps : List PE} {k : Nat} (h : k < ps.length) : ps.drop k = pG ps k :: ps.drop (k + 1) := by
  rw [List.drop_eq_getElem_cons h]; simp [pG, List.getElem?_eq_getElem h]
theorem pE0_drop (Z : List Int) (ps : List PE) : ∀ k, k ≤ ps.length → (∀ j, j < k → (edD Z (pG ps j)).2 = 0) → pE0 Z ps = pE0 Z (ps.drop k) := by
  intro k
  induction k with
  | zero => intro _ _; rfl
  | succ k ih =>
    intro hk h
    rw [ih (by omega) (fun j hj => h j (by omega)), pG_drop (by omega)]
    simp only [pE0]
    rw [if_pos (h k (by omega))]
theorem pE0_zero {Z : List Int} {ps : List PE} (h : ∀ j, j < ps.length → (edD Z (pG ps j)).2 = 0) : pE0 Z ps = 0 := by
  rw [pE0_drop Z ps ps.length (Nat.le_refl _) h, List.drop_length]; rfl
theorem pE0_first {Z : List Int} {ps : List PE} {er : Int} (h : FirstE ps.length (fun k => (edD Z (pG ps k)).2) er) : pE0 Z ps = er := by
  obtain ⟨k, h1, h2, h3, h4⟩ := h
  rw [pE0_drop Z ps k (by omega) h4, pG_drop h1]
  simp only [pE0]
  simp only at h2
  rw [if_neg (by rw [h2]; exact h3), h2]
theorem pE_det {s : ByteArray} {ps : List PE} {m : Nat} {er : Int} (h : Det ps.length (fun k => (edD (sb s) (pG ps k)).2) m er) : er = pE s ps ∧ m = (pL s ps).length := by
  unfold pL
  rcases h with ⟨h1, rfl, rfl⟩ | ⟨h1, h2, rfl⟩ | ⟨h1, h2, rfl, rfl⟩
  · have : pE s ps = 4 := by unfold pE; rw [if_pos h1]
    rw [this]; exact ⟨rfl, rfl⟩
  · have h3 : pE s ps = er := by unfold pE; rw [if_neg (by omega), pE0_first h2]
    obtain ⟨_, _, _, h4, _⟩ := h2
    rw [h3, if_neg h4]; exact ⟨rfl, rfl⟩
  · have h3 : pE s ps = 0 := by unfold pE; rw [if_neg (by omega), pE0_zero h2]
    rw [h3, if_pos rfl, List.length_map]; exact ⟨rfl, rfl⟩
theorem pL_get {s : ByteArray} {ps : List PE} {k : Nat} (h : k < (pL s ps).length) : eg (pL s ps) k = (edD (sb s) (pG ps k)).1.er := by
  unfold pL at h ⊢
  split at h
  · rename_i h0
    rw [if_pos h0]
    rw [List.length_map] at h
    simp [eg, pG, List.getElem?_eq_getElem h]
  · simp at h
theorem pL_len (s : ByteArray) (ps : List PE) : (pL s ps).length ≤ ps.length ∧ (pL s ps).length ≤ 64 := by
  unfold pL
  split
  · rename_i h
    rw [List.length_map]
    unfold pE at h
    split at h
    · omega
    · exact ⟨Nat.le_refl _, by omega⟩
  · exact ⟨Nat.zero_le _, Nat.zero_le _⟩
/-- A slice of edits by positions lies in memory, below block B. -/
structure PS (B : Nat) (w : World) (a : Option Addr) (cap : Nat) (ps : List PE) : Prop where
  le : ps.length ≤ cap
  mx : cap ≤ 9223372036854775807
  cells : PCells B w a ps.length (pG ps)
theorem PS.below {B : Nat} {w w' : World} {a : Option Addr} {cap : Nat} {ps : List PE} (h : PS B w a cap ps) (hb : Below B w w') : PS B w' a cap ps := ⟨h.le, h.mx, h.cells.below hb⟩
theorem PS.mono {B B' : Nat} {w : World} {a : Option Addr} {cap : Nat} {ps : List PE} (h : PS B w a cap ps) (hb : B ≤ B') : PS B' w a cap ps := ⟨h.le, h.mx, h.cells.mono hb⟩
theorem PS.on {w w' : World} {a : Option Addr} {cap : Nat} {ps : List PE} (h : PS w.heap.size w a cap ps) (hb : Below w.heap.size w w') : PS w'.heap.size w' a cap ps := (h.below hb).mono hb.size
theorem edD_fit {Z : List Int} {p : PE} (hZ : Z.length ≤ 100000) (hp : p.t.size ≤ 100000) : ((edD Z p).1.er).Fit := by
  obtain ⟨o1, e1, o2, e2, a1, a2, h⟩ := edD_ok Z p
  have l1 := off_le a1
  have l2 := off_le a2
  rcases h with ⟨_, _, h⟩ | ⟨_, _, _, h⟩ | ⟨_, _, _, _, h⟩ | ⟨_, _, _, _, h⟩
  all_goals (rw [h]; refine ⟨?_, ?_, ?_, ?_, ?_⟩)
  all_goals simp only [Ed.er, Ed.zero]
  all_goals first | omega | exact hp | exact Nat.zero_le _
theorem pL_fit {s : ByteArray} {ps : List PE} (hs : s.size ≤ 100000) (hp : ∀ p ∈ ps, p.t.size ≤ 100000) : ∀ e ∈ pL s ps, e.Fit := by
  unfold pL
  split
  · intro e he
    obtain ⟨p, hpm, rfl⟩ := List.mem_map.1 he
    exact edD_fit (by rw [sb_len]; exact hs) (hp p hpm)
  · intro e he; simp at he

/-- The block of a slice. -/
def blkOf (a : Option Addr) (b : Nat) : Prop := ∃ off, a = some ⟨b, off, none⟩
def BytesPostF (n : Nat) (ds : Nat → Ed) (ers : Nat → Int) (w : World) (e : Ending) (w' : World) : Prop :=
  (64 < n ∧ Below w.heap.size w w' ∧ e = .returned (.tuple #[.slice none 0 0, .int .i64 4])) ∨ (n ≤ 64 ∧ EdsPostF n ds ers w e w')
set_option maxRecDepth 100000 in
set_option maxHeartbeats 1000000 in
theorem pbytesF_any (s : ByteArray) (a : Option Addr) (n cap : Nat) (es : Nat → PE) (ds : Nat → Ed) (ers : Nat → Int) (w : World) (hs : s.size ≤ 100000) (hn : n ≤ 1000) (hcap : n ≤ cap) (hfit : ∀ k, k < n → (es k).fit) (hc : PCells w.heap.size w a n es) (h : ∀ k, k < n → EdS (sb s) (es k) (ds k) (ers k)) :
    Calls Tryz.prog 65 #[.string s, .slice a n cap] w (BytesPostF n ds ers w) := by
  obtain ⟨W1, hW1⟩ : ∃ W, w.alloc (.cells #[.string s] 9) = W := ⟨_, rfl⟩
  have hb1 : Below w.heap.size w W1 := by rw [← hW1]; exact (Below.refl _ _).alloc (Nat.le_refl _) _
  have hx1 : Boxed W1 w.heap.size 9 (.string s) := by rw [← hW1]; exact Boxed.new _ _ _
  have HB1 := Lib.hid hb1; have HW1 := Lib.hid hW1
  by_cases hlim : 64 < n
  · have hl2 : (64 : Int) < (n : Int) := by omega
    clear hW1 hx1 hb1 h hc hfit
    go_enter Tryz.func65, Tryz.ntmps65
    go_wp2
    go_ret2
    exact .inl ⟨hlim, by rw [show w.alloc (.cells #[.string s] 9) = W1 from HW1.out]; exact HB1.out, rfl⟩
  · have hl2 : ¬ (64 : Int) < (n : Int) := by omega
    have C := Lib.hid (conv_edsF s w.heap.size a n cap es ds ers W1 hs (by omega) hcap hfit ((hc.below hb1).mono hb1.size) hx1 h)
    clear hW1 hx1 hb1 h hc hfit
    go_enter Tryz.func65, Tryz.ntmps65
    go_wp2_with fail
    rw [show w.alloc (.cells #[.string s] 9) = W1 from HW1.out]
    refine C.out.mono ?_
    rintro e w2 ⟨hb, hway⟩
    have H2 := Lib.hid (HB1.out.trans (hb.mono HB1.out.size))
    clear hb
    rcases hway with ⟨er, hf, rfl⟩ | ⟨hz, a2, c2, rfl, hc2⟩
    · have HF := Lib.hid hf
      clear hf
      go_wp2
      go_ret2
      exact .inr ⟨by omega, H2.out, .inl ⟨er, HF.out, rfl⟩⟩
    · have HF := Lib.hid (And.intro hz hc2)
      have HZ1 : Hid (w.heap.size ≤ W1.heap.size) := HB1.out.size
      clear hz hc2
      go_wp2
      go_ret2
      exact .inr ⟨by omega, H2.out, .inr ⟨HF.out.1, a2, c2, rfl, HF.out.2.1, HF.out.2.2.1, HF.out.2.2.2.1, fun b off hb => Nat.le_trans HZ1.out (HF.out.2.2.2.2 b off hb)⟩⟩

theorem bytesF_one {n : Nat} {ds : Nat → Ed} {ers : Nat → Int} {w : World} {e : Ending} {w' : World} (h : BytesPostF n ds ers w e w') :
    ∃ m er a cap, e = .returned (.tuple #[.slice a m cap, .int .i64 er]) ∧ m ≤ cap ∧ cap ≤ 9223372036854775807 ∧ ECells w'.heap.size w' a m ds ∧ Det n ers m er ∧ Below w.heap.size w w' ∧ ∀ b, blkOf a b → w.heap.size ≤ b := by
  have hno : ∀ b, blkOf none b → w.heap.size ≤ b := fun b ⟨_, hb⟩ => by cases hb
  rcases h with ⟨h1, hb, rfl⟩ | ⟨h1, hb, ⟨er, hf, rfl⟩ | ⟨hz, a, cap, rfl, h2, h3, h4, h5⟩⟩
  · exact ⟨0, 4, none, 0, rfl, Nat.le_refl _, by omega, .inl rfl, .inl ⟨h1, rfl, rfl⟩, hb, hno⟩
  · exact ⟨0, er, none, 0, rfl, Nat.le_refl _, by omega, .inl rfl, .inr (.inl ⟨h1, hf, rfl⟩), hb, hno⟩
  · exact ⟨n, 0, a, cap, rfl, h2, h3, h4, .inr (.inr ⟨h1, hz, rfl, rfl⟩), hb, fun b ⟨off, ha⟩ => h5 b off ha⟩
/-- A call hands back a new slice of these edits, and an error. -/
def NewESF (w : World) (es : List Er) (er : Int) (e : Ending) (w' : World) : Prop :=
  ∃ a cap, e = .returned (.tuple #[.slice a es.length cap, .int .i64 er]) ∧ ES w'.heap.size w' a cap es ∧ (∀ b, blkOf a b → w.heap.size ≤ b) ∧ Below w.heap.size w w'

theorem dbytes_any (s : ByteArray) (a : Option Addr) (cap : Nat) (ps : List PE) (w : World) (hs : s.size ≤ 100000) (hn : ps.length ≤ 1000) (hfit : ∀ p ∈ ps, p.fit) (hS : PS w.heap.size w a cap ps) :
    Calls Tryz.prog 65 #[.string s, .slice a ps.length cap] w (NewESF w (pL s ps) (pE s ps)) := by
  refine (pbytesF_any s a ps.length cap (pG ps) (fun k => (edD (sb s) (pG ps k)).1) (fun k => (edD (sb s) (pG ps k)).2) w hs hn hS.le (fun k hk => hfit _ (pG_mem hk)) hS.cells (fun k hk => edD_ok _ _)).mono ?_
  intro e w' h
  obtain ⟨m, er, a', cap', rfl, h1, h2, h3, h4, h5, h6⟩ := bytesF_one h
  obtain ⟨rfl, rfl⟩ := pE_det h4
  refine ⟨a', cap', rfl, ⟨h1, h2, ?_, ?_⟩, h6, h5⟩
  · rintro rfl
    rcases h3 with h3 | ⟨g, hg, _⟩
    · exact h3
    · cases hg
  · rcases h3 with h3 | ⟨g, rfl, hg, hc⟩
    · exact .inl h3
    · refine .inr ⟨g, 0, rfl, hg, fun k hk i hi => ?_⟩
      rw [Nat.zero_add, pL_get hk]
      exact hc k hk i hi

end Go.Proofs.YtkehgoailhpenaaGreat

/- The state of a document, and how it lies in memory. It has no conditions. -/
namespace Go.Proofs.YtkehgoailhpenaaGreat
open Go.RowKit Go.Shelf Go.Maps
set_option linter.unusedVariables false

/-- The state of a document: its version, the texts that it remembers with the edits behind each, what it holds. -/
structure DS where
  v : Int
  ss : List (ByteArray × List Er)
  hs : List (Int × List PE)
def DS.text (s : DS) : ByteArray := (s.ss.getLast?.getD (⟨#[]⟩, [])).1

/-! Lists in memory that no call writes: their blocks are in G. -/
def EsG (G : Nat → Prop) (w : World) (v : Value) (es : List Er) : Prop :=
  ∃ a cap, v = .slice a es.length cap ∧ es.length ≤ cap ∧ cap ≤ 9223372036854775807 ∧ (a = none → es.length = 0) ∧
    (es.length = 0 ∨ ∃ b off, a = some ⟨b, off, none⟩ ∧ G b ∧ b < w.heap.size ∧ ∀ k, k < es.length → ∀ i, i < 3 → w.cell? ⟨b, off + k * 3 + i, none⟩ = (eg es k).vals[i]?)
def PsG (G : Nat → Prop) (w : World) (v : Value) (ps : List PE) : Prop :=
  ∃ a cap, v = .slice a ps.length cap ∧ ps.length ≤ cap ∧ cap ≤ 9223372036854775807 ∧
    (ps.length = 0 ∨ ∃ b off, a = some ⟨b, off, none⟩ ∧ G b ∧ b < w.heap.size ∧ ∀ k, k < ps.length → ∀ i, i < 5 → w.cell? ⟨b, off + k * 5 + i, none⟩ = (pG ps k).vals[i]?)
theorem EsG.keep {G G' : Nat → Prop} {w w' : World} {v : Value} {es : List Er} (h : EsG G w v es) (hz : w.heap.size ≤ w'.heap.size) (hG : ∀ b, G b → b < w.heap.size → w'.heap[b]? = w.heap[b]?) (hg : ∀ b, G b → G' b) : EsG G' w' v es := by
  obtain ⟨a, cap, h1, h2, h3, h4, h5⟩ := h
  refine ⟨a, cap, h1, h2, h3, h4, ?_⟩
  rcases h5 with h5 | ⟨b, off, k1, k2, k3, k4⟩
  · exact .inl h5
  · refine .inr ⟨b, off, k1, hg b k2, by omega, fun k hk i hi => ?_⟩
    rw [← k4 k hk i hi]
    simp only [World.cell?, hG b k2 k3]
theorem PsG.keep {G G' : Nat → Prop} {w w' : World} {v : Value} {ps : List PE} (h : PsG G w v ps) (hz : w.heap.size ≤ w'.heap.size) (hG : ∀ b, G b → b < w.heap.size → w'.heap[b]? = w.heap[b]?) (hg : ∀ b, G b → G' b) : PsG G' w' v ps := by
  obtain ⟨a, cap, h1, h2, h3, h5⟩ := h
  refine ⟨a, cap, h1, h2, h3, ?_⟩
  rcases h5 with h5 | ⟨b, off, k1, k2, k3, k4⟩
  · exact .inl h5
  · refine .inr ⟨b, off, k1, hg b k2, by omega, fun k hk i hi => ?_⟩
    rw [← k4 k hk i hi]
    simp only [World.cell?, hG b k2 k3]
theorem EsG.es {G : Nat → Prop} {w : World} {v : Value} {es : List Er} (h : EsG G w v es) : ∃ a cap, v = .slice a es.length cap ∧ ES w.heap.size w a cap es := by
  obtain ⟨a, cap, h1, h2, h3, h4, h5⟩ := h
  refine ⟨a, cap, h1, h2, h3, h4, ?_⟩
  rcases h5 with h5 | ⟨b, off, k1, _, k3, k4⟩
  · exact .inl h5
  · exact .inr ⟨b, off, k1, k3, k4⟩
theorem PsG.ps {G : Nat → Prop} {w : World} {v : Value} {ps : List PE} (h : PsG G w v ps) : ∃ a cap, v = .slice a ps.length cap ∧ PS w.heap.size w a cap ps := by
  obtain ⟨a, cap, h1, h2, h3, h5⟩ := h
  refine ⟨a, cap, h1, h2, h3, ?_⟩
  rcases h5 with h5 | ⟨b, off, k1, _, k3, k4⟩
  · exact .inl h5
  · exact .inr ⟨b, off, k1, k3, k4⟩
theorem EsG.of {w : World} {a : Option Addr} {cap : Nat} {es : List Er} {G : Nat → Prop} (h : ES w.heap.size w a cap es) (hG : es.length ≠ 0 → ∀ b, blkOf a b → G b) : EsG G w (.slice a es.length cap) es := by
  refine ⟨a, cap, rfl, h.le, h.mx, h.nil, ?_⟩
  rcases h.cells with h5 | ⟨b, off, k1, k3, k4⟩
  · exact .inl h5
  · by_cases h0 : es.length = 0
    · exact .inl h0
    · exact .inr ⟨b, off, k1, hG h0 b ⟨off, k1⟩, k3, k4⟩
theorem PsG.of {w : World} {a : Option Addr} {cap : Nat} {ps : List PE} {G : Nat → Prop} (h : PS w.heap.size w a cap ps) (hG : ps.length ≠ 0 → ∀ b, blkOf a b → G b) : PsG G w (.slice a ps.length cap) ps := by
  refine ⟨a, cap, rfl, h.le, h.mx, ?_⟩
  rcases h.cells with h5 | ⟨b, off, k1, k3, k4⟩
  · exact .inl h5
  · by_cases h0 : ps.length = 0
    · exact .inl h0
    · exact .inr ⟨b, off, k1, hG h0 b ⟨off, k1⟩, k3, k4⟩

theorem es_lt {w : World} {a : Option Addr} {cap : Nat} {es : List Er} (h : ES w.heap.size w a cap es) (h0 : es.length ≠ 0) {b : Nat} (hb : blkOf a b) : b < w.heap.size := by
  obtain ⟨b', off, k1, k3, _⟩ := h.cells.resolve_left h0
  obtain ⟨off', k2⟩ := hb
  rw [k1] at k2
  cases k2
  exact k3
theorem ps_lt {w : World} {a : Option Addr} {cap : Nat} {ps : List PE} (h : PS w.heap.size w a cap ps) (h0 : ps.length ≠ 0) {b : Nat} (hb : blkOf a b) : b < w.heap.size := by
  obtain ⟨b', off, k1, k3, _⟩ := h.cells.resolve_left h0
  obtain ⟨off', k2⟩ := hb
  rw [k1] at k2
  cases k2
  exact k3

/-! The held changes. -/
def RH (v : Value) : Option (DataW Value × List MemPlace) := some (.held v, [])
def kI (k : Int) : Lit := .int .i64 k
theorem kI_ne {a b : Int} (h : a ≠ b) : kI a ≠ kI b := fun e => h (by cases e; rfl)
theorem kI_key (k : Int) : WideAt.IsKeyLit (kI k) := trivial
structure HeldOk (G : Nat → Prop) (w : World) (D : DataW Value) (hs : List (Int × List PE)) : Prop where
  nodup : (hs.map Prod.fst).Nodup
  keys : ∀ k : Int, Maps.has D (kI k) = decide (k ∈ hs.map Prod.fst)
  elem : ∀ x ∈ hs, ∃ v, D.atKey (kI x.1) (.held (.slice none 0 0)) = .held v ∧ PsG G w v x.2
  size : Maps.size D = hs.length
theorem HeldOk.keep {G G' : Nat → Prop} {w w' : World} {D : DataW Value} {hs : List (Int × List PE)} (h : HeldOk G w D hs) (hz : w.heap.size ≤ w'.heap.size) (hG : ∀ b, G b → b < w.heap.size → w'.heap[b]? = w.heap[b]?) (hg : ∀ b, G b → G' b) : HeldOk G' w' D hs :=
  ⟨h.nodup, h.keys, fun x hx => by obtain ⟨v, h1, h2⟩ := h.elem x hx; exact ⟨v, h1, h2.keep hz hG hg⟩, h.size⟩
theorem HeldOk.empty (G : Nat → Prop) (w : World) : HeldOk G w (.map []) [] := ⟨by simp, fun k => by simp [Maps.has], fun x hx => by simp at hx, rfl⟩
theorem HeldOk.put {G : Nat → Prop} {w : World} {D : DataW Value} {hs : List (Int × List PE)} (h : HeldOk G w D hs) (hT : Tidy D) {k : Int} (hk : k ∉ hs.map Prod.fst) {v : Value} {l : List PE} (hv : PsG G w v l) : HeldOk G w (D.put (kI k) (.held v)) (hs ++ [(k, l)]) := by
  have hM := hT.isMap
  refine ⟨?_, fun j => ?_, fun x hx => ?_, ?_⟩
  · rw [List.map_append, List.map_singleton]
    exact List.nodup_append.2 ⟨h.nodup, by simp, fun a ha b hb => by simp only [List.mem_singleton] at hb; subst hb; exact fun e => hk (e ▸ ha)⟩
  · by_cases hj : j = k
    · subst hj
      rw [has_put_same hM (kI_key _)]
      simp
    · rw [has_put_other (kI_ne hj), h.keys]
      simp [hj]
  · rcases List.mem_append.1 hx with hx | hx
    · have hne : x.1 ≠ k := fun e => hk (e ▸ List.mem_map.2 ⟨x, hx, rfl⟩)
      obtain ⟨u, h1, h2⟩ := h.elem x hx
      exact ⟨u, by rw [atKey_put_other (kI_ne hne)]; exact h1, h2⟩
    · simp only [List.mem_singleton] at hx
      subst hx
      exact ⟨v, atKey_put_same hM (kI_key _) _ _, hv⟩
  · rw [size_put hT, h.keys, if_neg (by simpa using hk), h.size, List.length_append]; rfl
def delH (hs : List (Int × List PE)) (k : Int) : List (Int × List PE) := hs.filter (fun x => decide (x.1 ≠ k))
theorem delH_len {hs : List (Int × List PE)} {k : Int} (hn : (hs.map Prod.fst).Nodup) (hk : k ∈ hs.map Prod.fst) : (delH hs k).length + 1 = hs.length := by
  induction hs with
  | nil => simp at hk
  | cons x hs ih =>
    rw [List.map_cons, List.nodup_cons] at hn
    unfold delH at ih ⊢
    by_cases hx : x.1 = k
    · have hall : hs.filter (fun x => decide (x.1 ≠ k)) = hs := List.filter_eq_self.2 (fun y hy => by
        simp only [decide_eq_true_eq]
        exact fun e => hn.1 (by rw [hx, ← e]; exact List.mem_map.2 ⟨y, hy, rfl⟩))
      rw [List.filter_cons, if_neg (by simp [hx]), hall, List.length_cons]
    · have hk2 : k ∈ hs.map Prod.fst := by
        rw [List.map_cons] at hk
        exact (List.mem_cons.1 hk).resolve_left (fun e => hx e.symm)
      rw [List.filter_cons, if_pos (by simp [hx]), List.length_cons, List.length_cons, ih hn.2 hk2]
theorem HeldOk.del {G : Nat → Prop} {w : World} {D : DataW Value} {hs : List (Int × List PE)} (h : HeldOk G w D hs) (hT : Tidy D) {k : Int} (hk : k ∈ hs.map Prod.fst) : HeldOk G w (D.del (kI k)) (delH hs k) := by
  refine ⟨?_, fun j => ?_, fun x hx => ?_, ?_⟩
  · exact (h.nodup).sublist (List.Sublist.map _ List.filter_sublist)
  · by_cases hj : j = k
    · subst hj
      rw [has_del_same]
      symm
      simp only [decide_eq_false_iff_not]
      rintro hm
      obtain ⟨x, hx, hxj⟩ := List.mem_map.1 hm
      have := (List.mem_filter.1 hx).2
      simp [hxj] at this
    · rw [has_del_other (kI_ne hj), h.keys]
      congr 1
      apply propext
      constructor
      · intro hm
        obtain ⟨x, hx, hxj⟩ := List.mem_map.1 hm
        exact List.mem_map.2 ⟨x, List.mem_filter.2 ⟨hx, by simp [hxj, hj]⟩, hxj⟩
      · intro hm
        obtain ⟨x, hx, hxj⟩ := List.mem_map.1 hm
        exact List.mem_map.2 ⟨x, (List.mem_filter.1 hx).1, hxj⟩
  · obtain ⟨hx1, hx2⟩ := List.mem_filter.1 hx
    have hne : x.1 ≠ k := by simpa using hx2
    obtain ⟨u, h1, h2⟩ := h.elem x hx1
    exact ⟨u, by rw [atKey_del_other (kI_ne hne)]; exact h1, h2⟩
  · have h1 := size_del (k := kI k) hT
    have h2 := delH_len h.nodup hk
    rw [h.keys, if_pos (by simpa using hk), h.size] at h1
    omega

end Go.Proofs.YtkehgoailhpenaaGreat

/- A document in memory, and what a call on it may turn. It has no conditions. -/
namespace Go.Proofs.YtkehgoailhpenaaGreat
open Go.RowKit Go.Shelf Go.Maps
set_option linter.unusedVariables false

/-- The cells of states, one after the other. -/
def svals (vs : List (ByteArray × Value)) : List Value := vs.flatMap fun x => [.string x.1, x.2]
theorem svals_len (vs : List (ByteArray × Value)) : (svals vs).length = vs.length * 2 := by
  induction vs with
  | nil => rfl
  | cons x vs ih => simp only [svals, List.flatMap_cons, List.length_append] at ih ⊢; rw [ih]; simp; omega
theorem svals_app (a b : List (ByteArray × Value)) : svals (a ++ b) = svals a ++ svals b := by simp [svals]
theorem svals_get : ∀ (vs : List (ByteArray × Value)) (k : Nat) (h : k < vs.length), (svals vs)[k * 2]? = some (.string (vs[k]).1) ∧ (svals vs)[k * 2 + 1]? = some (vs[k]).2 := by
  intro vs
  induction vs with
  | nil => intro k h; simp at h
  | cons x vs ih =>
    intro k h
    have e : svals (x :: vs) = Value.string x.1 :: x.2 :: svals vs := rfl
    rw [e]
    cases k with
    | zero => exact ⟨rfl, rfl⟩
    | succ k =>
      have := ih k (by simpa using h)
      rw [show (k + 1) * 2 = k * 2 + 1 + 1 by omega]
      exact this
theorem svals_set1 : ∀ (vs : List (ByteArray × Value)) (k : Nat) (h : k < vs.length) (u : Value), (svals vs).set (k * 2 + 1) u = svals (vs.set k ((vs[k]).1, u)) := by
  intro vs
  induction vs with
  | nil => intro k h; simp at h
  | cons x vs ih =>
    intro k h u
    have e : svals (x :: vs) = Value.string x.1 :: x.2 :: svals vs := rfl
    rw [e]
    cases k with
    | zero => rfl
    | succ k =>
      have := ih k (by simpa using h) u
      rw [show (k + 1) * 2 + 1 = (k * 2 + 1) + 1 + 1 by omega, List.set_cons_succ, List.set_cons_succ, this]
      rfl

/-- What the parts of a document are. -/
structure DsOk (s : DS) : Prop where
  v0 : 0 ≤ s.v
  v1 : s.v ≤ 1099511627776
  ne : s.ss ≠ []
  len : s.ss.length ≤ 17
  text : ∀ x ∈ s.ss, x.1.size ≤ 4096
  eds : ∀ x ∈ s.ss, x.2.length ≤ 64 ∧ ∀ e ∈ x.2, e.Fit
  hlen : s.hs.length ≤ 16
  held : ∀ x ∈ s.hs, x.2.length ≤ 64 ∧ ∀ p ∈ x.2, p.fit ∧ p.t.size ≤ 100000
  hk : ∀ x ∈ s.hs, 1 ≤ x.1 ∧ x.1 ≤ 1099511627776
/-- A state in memory. -/
def StOk (G : Nat → Prop) (w : World) (x : ByteArray × Value) (y : ByteArray × List Er) : Prop := x.1 = y.1 ∧ EsG G w x.2 y.2
inductive All2 {α β : Type} (R : α → β → Prop) : List α → List β → Prop
  | nil : All2 R [] []
  | cons {a : α} {b : β} {l : List α} {m : List β} : R a b → All2 R l m → All2 R (a :: l) (b :: m)
theorem All2.len {α β : Type} {R : α → β → Prop} {l : List α} {m : List β} (h : All2 R l m) : l.length = m.length := by
  induction h with
  | nil => rfl
  | cons _ _ ih => simp [ih]
theorem All2.mono {α β : Type} {R R' : α → β → Prop} {l : List α} {m : List β} (h : All2 R l m) (hR : ∀ a b, R a b → R' a b) : All2 R' l m := by
  induction h with
  | nil => exact .nil
  | cons h _ ih => exact .cons (hR _ _ h) ih
theorem All2.app {α β : Type} {R : α → β → Prop} {l l' : List α} {m m' : List β} (h : All2 R l m) (h' : All2 R l' m') : All2 R (l ++ l') (m ++ m') := by
  induction h with
  | nil => exact h'
  | cons h _ ih => exact .cons h ih
theorem All2.at_ {α β : Type} {R : α → β → Prop} {l : List α} {m : List β} (h : All2 R l m) : ∀ (k : Nat) (h1 : k < l.length) (h2 : k < m.length), R l[k] m[k] := by
  induction h with
  | nil => intro k h1; simp at h1
  | cons h _ ih =>
    intro k h1 h2
    cases k with
    | zero => exact h
    | succ k => exact ih k (by simpa using h1) (by simpa using h2)
theorem All2.drop {α β : Type} {R : α → β → Prop} {l : List α} {m : List β} (h : All2 R l m) : ∀ k, All2 R (l.drop k) (m.drop k) := by
  induction h with
  | nil => intro k; simp only [List.drop_nil]; exact .nil
  | cons h t ih =>
    intro k
    cases k with
    | zero => exact .cons h t
    | succ k => exact ih k
theorem All2.set {α β : Type} {R : α → β → Prop} {l : List α} {m : List β} (h : All2 R l m) {a : α} {b : β} (hab : R a b) : ∀ k, All2 R (l.set k a) (m.set k b) := by
  induction h with
  | nil => intro k; exact .nil
  | cons h t ih =>
    intro k
    cases k with
    | zero => exact .cons hab t
    | succ k => exact .cons h (ih k)

/-- A document lies at block p: T are the blocks that a call on it writes, G those of its lists. -/
structure DocI (T G : Nat → Prop) (w : World) (p : Nat) (s : DS) : Prop where
  ok : DsOk s
  mem : ∃ g cap m D vs, Blk w p 72 #[.int .i64 s.v, .slice (some ⟨g, 0, none⟩) vs.length cap, .map (some m)] ∧
    w.ownsRow 0 68 2 (.slice (some ⟨g, 0, none⟩) vs.length cap) vs.length (svals vs) ∧ All2 (StOk G w) vs s.ss ∧
    w.ownsMap Tryz.prog 3 RH m (Maps.size D) D ∧ HeldOk G w D s.hs ∧ T g ∧ T m
  tp : T p
  lt : ∀ b, T b → b < w.heap.size
  glt : ∀ b, G b → b < w.heap.size
  apart : ∀ b, T b → ¬ G b
theorem ownsMap_same {w w' : World} {m n : Nat} {D : DataW Value} (h : w.ownsMap Tryz.prog 3 RH m n D) (hb : w'.heap[m]? = w.heap[m]?) : w'.ownsMap Tryz.prog 3 RH m n D := by
  obtain ⟨es, clock, h1, h2⟩ := h
  exact ⟨es, clock, hb.trans h1, h2⟩
theorem ownsMap_tight {w : World} {m n : Nat} {D : DataW Value} (h : w.ownsMap Tryz.prog 3 RH m n D) : w.ownsMap Tryz.prog 3 RH m (Maps.size D) D := by
  obtain ⟨es, clock, h1, h2, h3, h4⟩ := h
  refine ⟨es, clock, h1, h2, ?_, h4⟩
  rw [h4]
  exact Nat.le_of_eq (length_read (P := Tryz.prog) (k := 3) (R0 := RH) es).symm
/-- A document stays what it is while its blocks lie as they lay. -/
theorem DocI.keep {T G : Nat → Prop} {w w' : World} {p : Nat} {s : DS} (h : DocI T G w p s) (hz : w.heap.size ≤ w'.heap.size) (hb : ∀ b, T b ∨ G b → w'.heap[b]? = w.heap[b]?) : DocI T G w' p s := by
  obtain ⟨g, cap, m, D, vs, h1, h2, h3, h4, h5, h6, h7⟩ := h.mem
  refine ⟨h.ok, ⟨g, cap, m, D, vs, h1.same (hb p (.inl h.tp)), own_same h2 (fun j hj => by cases hj; exact hb g (.inl h6)), ?_, ownsMap_same h4 (hb m (.inl h7)), h5.keep hz (fun b hg _ => hb b (.inr hg)) (fun _ h => h), h6, h7⟩, h.tp, fun b hb' => by have := h.lt b hb'; omega, fun b hb' => by have := h.glt b hb'; omega, h.apart⟩
  exact h3.mono (fun x y hxy => ⟨hxy.1, hxy.2.keep hz (fun b hg _ => hb b (.inr hg)) (fun _ h => h)⟩)
theorem DocI.below {T G : Nat → Prop} {w w' : World} {p : Nat} {s : DS} (h : DocI T G w p s) (hb : Below w.heap.size w w') : DocI T G w' p s :=
  h.keep hb.size (fun b hT => hb.block b (hT.elim (h.lt b) (h.glt b)))

/-- What a call on a document turns. -/
structure Stp (T G T' G' : Nat → Prop) (w w' : World) : Prop where
  only : Only T w w'
  t : ∀ b, T' b → T b ∨ w.heap.size ≤ b
  g : ∀ b, G' b → G b ∨ w.heap.size ≤ b
theorem Stp.of_below {T G : Nat → Prop} {w w' : World} (h : Below w.heap.size w w') : Stp T G T G w w' := ⟨Only.of_below h, fun _ h => .inl h, fun _ h => .inl h⟩
theorem Stp.refl (T G : Nat → Prop) (w : World) : Stp T G T G w w := Stp.of_below (Below.refl _ _)
theorem Stp.trans {T G T1 G1 T2 G2 : Nat → Prop} {a b c : World} (h : Stp T G T1 G1 a b) (k : Stp T1 G1 T2 G2 b c) (hG : True) : Stp T G T2 G2 a c := by
  have hz := h.only.size
  refine ⟨⟨k.only.os.trans h.only.os, k.only.tape.trans h.only.tape, k.only.output.trans h.only.output, Nat.le_trans h.only.size k.only.size, fun i hi hT => ?_⟩, fun b hb => ?_, fun b hb => ?_⟩
  · rw [k.only.block i (by omega) (fun h1 => (h.t i h1).elim hT (fun e => by omega)), h.only.block i hi hT]
  · rcases k.t b hb with h1 | h1
    · exact h.t b h1
    · exact .inr (by omega)
  · rcases k.g b hb with h1 | h1
    · exact h.g b h1
    · exact .inr (by omega)
theorem Stp.below {T G T' G' : Nat → Prop} {a b : World} (h : Stp T G T' G' a b) {B : Nat} (hB : B ≤ a.heap.size) (hT : ∀ k, T k → B ≤ k) : Below B a b := h.only.below hB hT
/-- Another document stays as it is. -/
theorem DocI.apartFrom {T G T1 G1 T1' G1' : Nat → Prop} {w w' : World} {p : Nat} {s : DS} (h : DocI T G w p s) (k : Stp T1 G1 T1' G1' w w') (h1 : ∀ b, T b ∨ G b → ¬ T1 b) : DocI T G w' p s :=
  h.keep k.only.size (fun b hb => k.only.block b (hb.elim (h.lt b) (h.glt b)) (h1 b hb))

/-- The cells of a document, in a form that a walk reads. -/
theorem DocI.cells {T G : Nat → Prop} {w : World} {p : Nat} {s : DS} (h : DocI T G w p s) : ∃ g cap m n, n + 1 = s.ss.length ∧ n + 1 ≤ cap ∧ w.cell? ⟨p, 0, none⟩ = some (.int .i64 s.v) ∧ w.cell? ⟨p, 1, none⟩ = some (.slice (some ⟨g, 0, none⟩) (n + 1) cap) ∧ w.cell? ⟨p, 2, none⟩ = some (.map (some m)) ∧ w.cell? ⟨g, n * 2, none⟩ = some (.string s.text) := by
  obtain ⟨g, cap, m, D, vs, h1, h2, h3, h4, h5, h6, h7⟩ := h.mem
  have hl := h3.len
  have hne := h.ok.ne
  have hpos : 0 < s.ss.length := List.length_pos_iff.2 hne
  obtain ⟨n, hn⟩ : ∃ n, n + 1 = s.ss.length := ⟨s.ss.length - 1, by omega⟩
  have c0 := h1.cell 0
  have c1 := h1.cell 1
  have c2 := h1.cell 2
  simp only [List.getElem?_toArray, List.getElem?_cons_zero, List.getElem?_cons_succ] at c0 c1 c2
  rw [show vs.length = n + 1 by omega] at c1 h2
  have hcap : n + 1 ≤ cap := by
    rcases h2.2 with ⟨hv, _⟩ | ⟨g', cp, cur, hv, _, _, h1, _⟩
    · simp at hv
    · simp only [Value.slice.injEq] at hv; omega
  refine ⟨g, cap, m, n, hn, hcap, c0, c1, c2, ?_⟩
  rw [h2.cellAt (n * 2) (by omega), (svals_get vs n (by omega)).1]
  have := (h3.at_ n (by omega) (by omega)).1
  rw [this]
  unfold DS.text
  rw [List.getLast?_eq_getElem?, show s.ss.length - 1 = n by omega, List.getElem?_eq_getElem (by omega)]
  rfl

set_option maxRecDepth 100000 in
set_option maxHeartbeats 1000000 in
theorem text_any (T G : Nat → Prop) (p : Nat) (s : DS) (w : World) (h : DocI T G w p s) :
    Calls Tryz.prog 13 #[.pointer (some ⟨p, 0, none⟩)] w fun e w' => e = .returned (.string s.text) ∧ Below w.heap.size w w' := by
  have hl := h.ok.len
  obtain ⟨g, cap, m, n, h1, h2, c0, c1, c2, c3⟩ := h.cells
  obtain ⟨N, hN⟩ : ∃ N, n + 1 = N := ⟨_, rfl⟩
  rw [hN] at c1 h1 h2
  obtain ⟨t, ht⟩ : ∃ t, s.text = t := ⟨_, rfl⟩
  rw [ht] at c3 ⊢
  have hj1 : IntKind.i64.wrap ((N : Int) - 1) = (n : Int) := by simp [IntKind.wrap, IntKind.signed, IntKind.bits]; omega
  have hj2 : (n : Int) < (N : Int) := by omega
  clear h ht h1 hN c0 c2
  go_enter Tryz.func13, Tryz.ntmps13
  go_wp2_with fail
  go_quiet (fail)
  go_wp2
  go_ret
  exact ⟨rfl, below_drewN (Below.refl _ _) _⟩

set_option maxRecDepth 100000 in
set_option maxHeartbeats 1000000 in
theorem version_any (T G : Nat → Prop) (p : Nat) (s : DS) (w : World) (h : DocI T G w p s) :
    Calls Tryz.prog 20 #[.pointer (some ⟨p, 0, none⟩)] w fun e w' => e = .returned (.int .i64 s.v) ∧ w = w' := by
  obtain ⟨g, cap, m, n, h1, h2, c0, c1, c2, c3⟩ := h.cells
  obtain ⟨v, hv⟩ : ∃ t, s.v = t := ⟨_, rfl⟩
  rw [hv] at c0 ⊢
  clear h hv h1 h2 c1 c2 c3
  go_enter Tryz.func20, Tryz.ntmps20
  go_wp2
  go_ret
  exact ⟨rfl, rfl⟩

end Go.Proofs.YtkehgoailhpenaaGreat

/- The contracts of slices.Clone at edits by positions and at edits by offsets. Conditions: at most 100000 of them. -/
namespace Go.Proofs.YtkehgoailhpenaaGreat
open Go.RowKit Go.Shelf Go.Maps
set_option linter.unusedVariables false

theorem infoPE : (Tryz.prog.info? 78).map (fun i => (i.zero, i.size, i.bytes)) = some (some (.agg #[.int .i64 0, .int .i64 0, .int .i64 0, .int .i64 0, .string ⟨#[]⟩]), 5, 48) := by kernel_rfl
theorem infoEE : (Tryz.prog.info? 84).map (fun i => (i.zero, i.size, i.bytes)) = some (some (.agg #[.int .i64 0, .int .i64 0, .string ⟨#[]⟩]), 3, 32) := by kernel_rfl
theorem own_empty (w : World) (e : TypeId) (size : Nat) : (w.alloc (.cells #[] e)).ownsRow w.heap.size e size (.slice (some ⟨w.heap.size, 0, none⟩) 0 0) 0 [] :=
  ⟨by simp, .inr ⟨w.heap.size, 0, #[], rfl, Nat.le_refl _, World.alloc_heap_new w _, Nat.le_refl _, by unfold maxLen; omega, by simp, by simp⟩⟩
/-- The cells of edits by positions. -/
def pv (ps : List PE) : List Value := ps.flatMap PE.vals
theorem pv_len (ps : List PE) : (pv ps).length = ps.length * 5 := by
  induction ps with
  | nil => rfl
  | cons p ps ih => simp only [pv, List.flatMap_cons, List.length_append] at ih ⊢; rw [ih]; simp [PE.vals]; omega
theorem pv_get : ∀ (ps : List PE) (k i : Nat), k < ps.length → i < 5 → (pv ps)[k * 5 + i]? = (pG ps k).vals[i]? := by
  intro ps
  induction ps with
  | nil => intro k i h; simp at h
  | cons p ps ih =>
    intro k i hk hi
    have e : pv (p :: ps) = p.vals ++ pv ps := rfl
    rw [e]
    cases k with
    | zero => rw [List.getElem?_append_left (by simp [PE.vals]; omega)]; simp [pG]
    | succ k =>
      rw [List.getElem?_append_right (by simp [PE.vals]; omega), show (k + 1) * 5 + i - p.vals.length = k * 5 + i by simp [PE.vals]; omega, ih k i (by simpa using hk) hi]
      simp [pG]
theorem div_ex {k n c : Nat} (hc : 0 < c) (h : k < n * c) : ∃ a b, k = a * c + b ∧ b < c ∧ a < n := by
  refine ⟨k / c, k % c, ?_, Nat.mod_lt _ hc, ?_⟩
  · have := Nat.div_add_mod k c; rw [Nat.mul_comm] at this; omega
  · exact Nat.div_lt_of_lt_mul (by rw [Nat.mul_comm]; exact h)
theorem addr_add (b off j : Nat) : (⟨b, off, none⟩ : Addr).add j = ⟨b, off + j, none⟩ := by
  by_cases h : j = 0 <;> simp [Addr.add, h]
theorem pscells_at {B : Nat} {w : World} {b off cap : Nat} {ps : List PE} (h : ∀ k, k < ps.length → ∀ i, i < 5 → w.cell? ⟨b, off + k * 5 + i, none⟩ = (pG ps k).vals[i]?) : ∀ j u, (pv ps)[j]? = some u → w.cell? ((⟨b, off, none⟩ : Addr).add j) = some u := by
  intro j u hj
  have hlt : j < ps.length * 5 := by
    have := (List.getElem?_eq_some_iff.1 hj).1
    rwa [pv_len] at this
  obtain ⟨k, i, rfl, hi, hk⟩ := div_ex (by omega) hlt
  rw [pv_get ps k i hk hi] at hj
  rw [← hj, ← h k hk i hi]
  rw [addr_add, Nat.add_assoc]
theorem escells_at {w : World} {b off : Nat} {es : List Er} (h : ∀ k, k < es.length → ∀ i, i < 3 → w.cell? ⟨b, off + k * 3 + i, none⟩ = (eg es k).vals[i]?) : ∀ j u, (rv es)[j]? = some u → w.cell? ((⟨b, off, none⟩ : Addr).add j) = some u := by
  intro j u hj
  have hlt : j < es.length * 3 := by
    have := (List.getElem?_eq_some_iff.1 hj).1
    rwa [rv_len] at this
  obtain ⟨k, i, rfl, hi, hk⟩ := div_ex (by omega) hlt
  rw [rv_get es k i hk hi] at hj
  rw [← hj, ← h k hk i hi]
  rw [addr_add, Nat.add_assoc]
theorem ps_of_own {w : World} {lo n : Nat} {v : Value} {ps : List PE} (h : w.ownsRow lo 78 5 v n (pv ps)) : n = ps.length ∧ ∃ a cap, v = .slice a ps.length cap ∧ PS w.heap.size w a cap ps ∧ ∀ b, blkOf a b → lo ≤ b := by
  have hn : n = ps.length := by have := h.1; rw [pv_len] at this; omega
  subst hn
  refine ⟨rfl, ?_⟩
  rcases h.2 with ⟨rfl, h0⟩ | ⟨g, cap, cur, rfl, hb, hg, hle, hmx, _⟩
  · rw [h0]
    exact ⟨none, 0, rfl, ⟨by omega, by omega, .inl h0⟩, fun b hb => by obtain ⟨_, hb⟩ := hb; cases hb⟩
  · refine ⟨_, cap, rfl, ⟨hle, by unfold maxLen at hmx; omega, .inr ⟨g, 0, rfl, (Array.getElem?_eq_some_iff.1 hg).1, fun k hk i hi => ?_⟩⟩, fun b hb' => by obtain ⟨_, hb'⟩ := hb'; cases hb'; exact hb⟩
    have hlt : k * 5 + i < (pv ps).length := by rw [pv_len]; omega
    rw [Nat.zero_add, h.cellAt (k * 5 + i) (by first | exact hlt | (rw [pv_len] at hlt; omega)), pv_get ps k i hk hi]
theorem es_of_own2 {w : World} {lo n : Nat} {v : Value} {es : List Er} (h : w.ownsRow lo 84 3 v n (rv es)) : n = es.length ∧ ∃ a cap, v = .slice a es.length cap ∧ ES w.heap.size w a cap es ∧ ∀ b, blkOf a b → lo ≤ b := by
  obtain ⟨hn, a, cap, hv, hE⟩ := es_of_own h
  refine ⟨hn, a, cap, hv, hE, fun b hb => ?_⟩
  obtain ⟨off, rfl⟩ := hb
  exact (h.lt b (by rw [hv]; rfl)).1

theorem PE_one (ps : List PE) : ∀ u ∈ pv ps, u.oneCell' = true := by
  intro u hu
  obtain ⟨p, _, hp⟩ := List.mem_flatMap.1 hu
  simp only [PE.vals, List.mem_cons, List.not_mem_nil, or_false] at hp
  rcases hp with rfl | rfl | rfl | rfl | rfl <;> rfl
theorem EE_one (es : List Er) : ∀ u ∈ rv es, u.oneCell' = true := by
  intro u hu
  obtain ⟨p, _, hp⟩ := List.mem_flatMap.1 hu
  simp only [Er.vals, List.mem_cons, List.not_mem_nil, or_false] at hp
  rcases hp with rfl | rfl | rfl <;> rfl

set_option maxRecDepth 100000 in
set_option maxHeartbeats 2000000 in
theorem clonep_any (a : Option Addr) (cap : Nat) (ps : List PE) (w : World) (hn : ps.length ≤ 100000) (h : PS w.heap.size w a cap ps) :
    Calls Tryz.prog 45 #[.slice a ps.length cap] w fun e w' => ∃ a' c', e = .returned (.slice a' ps.length c') ∧ PS w'.heap.size w' a' c' ps ∧ (∀ b, blkOf a' b → w.heap.size ≤ b) ∧ Below w.heap.size w w' := by
  obtain ⟨i0, hi, hz0, hz1, hz2⟩ := info_parts infoPE
  obtain ⟨n, hn'⟩ : ∃ n, ps.length = n := ⟨_, rfl⟩
  have hle := h.le
  have hmx := h.mx
  have q1 : ∀ (w : World) (a : Option Addr) (n c n' c' : Nat), (binOp .eql 45 (.slice a n c) (.slice none n' c')).run Tryz.prog w = .ok (.bool a.isNone) w := fun w a n c n' c' => Lib.run_eql_slice_nil w _ _ a n c n' c' Tryz.underlying45
  have u1 : ∀ w, Sem.run Tryz.prog (underlying 45) w = .ok (TypeDesc.slice 78) w := run_underlying Tryz.underlying45
  have hl2 : (pv ps).length = n * 5 := by rw [pv_len, hn']
  rw [hn'] at hle hn ⊢
  cases a with
  | none =>
    have h0 : ps.length = 0 := by
      rcases h.cells with h0 | ⟨b, off, hb, _⟩
      · exact h0
      · cases hb
    obtain rfl : n = 0 := by omega
    have HN := Lib.hid h0
    clear h hl2 hn' h0
    go_enter Tryz.func45, Tryz.ntmps45
    go_wp2
    go_ret
    exact ⟨none, 0, rfl, ⟨by rw [HN.out]; omega, by omega, .inl HN.out⟩, (fun b hb => by obtain ⟨_, hb⟩ := hb; cases hb), Below.refl _ _⟩
  | some ad =>
    have hc : ∀ j u, (pv ps)[j]? = some u → w.cell? (ad.add j) = some u := by
      rcases h.cells with h0 | ⟨b, off, hb, hlt, hc⟩
      · intro j u hj
        have := (List.getElem?_eq_some_iff.1 hj).1
        rw [pv_len] at this
        omega
      · cases hb
        exact pscells_at (B := 0) (cap := cap) hc
    have HC := Lib.hid hc
    have HL2 := Lib.hid hl2; have HN := Lib.hid hn'
    clear h hl2 hn' hc
    go_enter Tryz.func45, Tryz.ntmps45
    go_wp2_with (at_builtin; refine wpList_append_own _ rfl _ _ 45 rfl w.heap.size 78 i0 (.agg #[.int .i64 0, .int .i64 0, .int .i64 0, .int .i64 0, .string ⟨#[]⟩]) 5 48 Tryz.underlying45 hi hz0 hz1 hz2 rfl (by decide) _ _ _ rfl (own_empty w 78 5) ad n cap (pv ps) rfl ?qc1 ?qc2 ?qc3 ?qc4 ?qc5 ?qc6 ?_)
    case qc1 => exact HL2.out
    case qc2 =>
      intro j u hj
      exact Lib.cell?_alloc_some _ (HC.out j u hj)
    case qc3 => exact PE_one ps
    case qc4 => unfold maxLen; omega
    case qc5 => omega
    case qc6 => simp
    intro v' w1 hown hgrow _
    have hown' : w1.ownsRow w.heap.size 78 5 v' n (pv ps) := by simpa using hown
    obtain ⟨_, a', c', rfl, hP, hb⟩ := ps_of_own hown'
    have HP := Lib.hid hP; have HB := Lib.hid hb
    have HF : Hid (Below w.heap.size w w1) := ((Below.refl _ w).alloc (Nat.le_refl _) _).grown hgrow (by simp) (by intro k hk; simp [Value.ownBlock] at hk; omega)
    clear hown hown' hgrow hP hb
    go_wp2
    go_ret
    exact ⟨a', c', by rw [HN.out]; rfl, HP.out, HB.out, HF.out⟩

set_option maxRecDepth 100000 in
set_option maxHeartbeats 2000000 in
theorem clonee_any (a : Option Addr) (cap : Nat) (ps : List Er) (w : World) (hn : ps.length ≤ 100000) (h : ES w.heap.size w a cap ps) :
    Calls Tryz.prog 38 #[.slice a ps.length cap] w fun e w' => ∃ a' c', e = .returned (.slice a' ps.length c') ∧ ES w'.heap.size w' a' c' ps ∧ (∀ b, blkOf a' b → w.heap.size ≤ b) ∧ Below w.heap.size w w' := by
  obtain ⟨i0, hi, hz0, hz1, hz2⟩ := info_parts infoEE
  obtain ⟨n, hn'⟩ : ∃ n, ps.length = n := ⟨_, rfl⟩
  have hle := h.le
  have hmx := h.mx
  have q1 : ∀ (w : World) (a : Option Addr) (n c n' c' : Nat), (binOp .eql 38 (.slice a n c) (.slice none n' c')).run Tryz.prog w = .ok (.bool a.isNone) w := fun w a n c n' c' => Lib.run_eql_slice_nil w _ _ a n c n' c' Tryz.underlying38
  have u1 : ∀ w, Sem.run Tryz.prog (underlying 38) w = .ok (TypeDesc.slice 84) w := run_underlying Tryz.underlying38
  have hl2 : (rv ps).length = n * 3 := by rw [rv_len, hn']
  rw [hn'] at hle hn ⊢
  cases a with
  | none =>
    have h0 : ps.length = 0 := by
      rcases h.cells with h0 | ⟨b, off, hb, _⟩
      · exact h0
      · cases hb
    obtain rfl : n = 0 := by omega
    have HN := Lib.hid h0
    clear h hl2 hn' h0
    go_enter Tryz.func38, Tryz.ntmps38
    go_wp2
    go_ret
    exact ⟨none, 0, rfl, ⟨by rw [HN.out]; omega, by omega, fun _ => HN.out, .inl HN.out⟩, (fun b hb => by obtain ⟨_, hb⟩ := hb; cases hb), Below.refl _ _⟩
  | some ad =>
    have hc : ∀ j u, (rv ps)[j]? = some u → w.cell? (ad.add j) = some u := by
      rcases h.cells with h0 | ⟨b, off, hb, hlt, hc⟩
      · intro j u hj
        have := (List.getElem?_eq_some_iff.1 hj).1
        rw [rv_len] at this
        omega
      · cases hb
        exact escells_at hc
    have HC := Lib.hid hc
    have HL2 := Lib.hid hl2; have HN := Lib.hid hn'
    clear h hl2 hn' hc
    go_enter Tryz.func38, Tryz.ntmps38
    go_wp2_with (at_builtin; refine wpList_append_own _ rfl _ _ 38 rfl w.heap.size 84 i0 (.agg #[.int .i64 0, .int .i64 0, .string ⟨#[]⟩]) 3 32 Tryz.underlying38 hi hz0 hz1 hz2 rfl (by decide) _ _ _ rfl (own_empty w 84 3) ad n cap (rv ps) rfl ?qc1 ?qc2 ?qc3 ?qc4 ?qc5 ?qc6 ?_)
    case qc1 => exact HL2.out
    case qc2 =>
      intro j u hj
      exact Lib.cell?_alloc_some _ (HC.out j u hj)
    case qc3 => exact EE_one ps
    case qc4 => unfold maxLen; omega
    case qc5 => omega
    case qc6 => simp
    intro v' w1 hown hgrow _
    have hown' : w1.ownsRow w.heap.size 84 3 v' n (rv ps) := by simpa using hown
    obtain ⟨_, a', c', rfl, hP, hb⟩ := es_of_own2 hown'
    have HP := Lib.hid hP; have HB := Lib.hid hb
    have HF : Hid (Below w.heap.size w w1) := ((Below.refl _ w).alloc (Nat.le_refl _) _).grown hgrow (by simp) (by intro k hk; simp [Value.ownBlock] at hk; omega)
    clear hown hown' hgrow hP hb
    go_wp2
    go_ret
    exact ⟨a', c', by rw [HN.out]; rfl, HP.out, HB.out, HF.out⟩

end Go.Proofs.YtkehgoailhpenaaGreat

/- The contracts of early and check. It has no conditions. -/
namespace Go.Proofs.YtkehgoailhpenaaGreat
open Go.RowKit Go.Shelf Go.Maps
set_option linter.unusedVariables false

theorem keyInt : Keyed Tryz.prog 3 := int_keyed Tryz.underlying3
theorem keyOfI {k : Int} (h1 : -9223372036854775808 ≤ k) (h2 : k ≤ 9223372036854775807) : keyOf Tryz.prog 3 (.int .i64 k) = some (kI k) := keyOf_int_mk Tryz.underlying3 (WalkArith.wf_i64 ⟨h1, h2⟩)
theorem zeroP (w : World) : (zeroValue 45).run Tryz.prog w = .ok (.slice none 0 0) w := by kernel_rfl
/-- A document's cells and its map. -/
theorem DocI.full {T G : Nat → Prop} {w : World} {p : Nat} {s : DS} (h : DocI T G w p s) : ∃ g cap m n D, n + 1 = s.ss.length ∧ n + 1 ≤ cap ∧ w.cell? ⟨p, 0, none⟩ = some (.int .i64 s.v) ∧ w.cell? ⟨p, 1, none⟩ = some (.slice (some ⟨g, 0, none⟩) (n + 1) cap) ∧ w.cell? ⟨p, 2, none⟩ = some (.map (some m)) ∧
    w.ownsMap Tryz.prog 3 RH m (Maps.size D) D ∧ HeldOk G w D s.hs ∧ T m ∧ p < w.heap.size := by
  obtain ⟨g, cap, m, D, vs, h1, h2, h3, h4, h5, h6, h7⟩ := h.mem
  have hl := h3.len
  have hpos : 0 < s.ss.length := List.length_pos_iff.2 h.ok.ne
  obtain ⟨n, hn⟩ : ∃ n, n + 1 = s.ss.length := ⟨s.ss.length - 1, by omega⟩
  have c0 := h1.cell 0
  have c1 := h1.cell 1
  have c2 := h1.cell 2
  simp only [List.getElem?_toArray, List.getElem?_cons_zero, List.getElem?_cons_succ] at c0 c1 c2
  rw [show vs.length = n + 1 by omega] at c1 h2
  have hcap : n + 1 ≤ cap := by
    rcases h2.2 with ⟨hv, _⟩ | ⟨g', cp, cur, hv, _, _, h1, _⟩
    · simp at hv
    · simp only [Value.slice.injEq] at hv; omega
  exact ⟨g, cap, m, n, D, hn, hcap, c0, c1, c2, h4, h5, h7, h1.lt⟩

set_option maxRecDepth 100000 in
set_option maxHeartbeats 1000000 in
theorem early_any (T G : Nat → Prop) (p : Nat) (s : DS) (w : World) (h : DocI T G w p s) (cv : Int) (a : Option Addr) (n cap : Nat) :
    Calls Tryz.prog 44 #[.pointer (some ⟨p, 0, none⟩), .agg #[.int .i64 cv, .slice a n cap]] w fun e w' => e = .returned (.bool (decide (s.v + 1 < cv))) ∧ Below w.heap.size w w' := by
  have hv0 := h.ok.v0
  have hv1 := h.ok.v1
  obtain ⟨W1, hW1⟩ : ∃ W, w.alloc (.cells #[.int .i64 cv, .slice a n cap] 47) = W := ⟨_, rfl⟩
  have b1 : Below w.heap.size w W1 := by rw [← hW1]; exact (Below.refl _ _).alloc (Nat.le_refl _) _
  have k1 : Blk W1 w.heap.size 47 #[.int .i64 cv, .slice a n cap] := by rw [← hW1]; exact Blk.new _ _ _
  obtain ⟨g, cp, m, n', D, _, _, c0, _⟩ := (h.below b1).full
  obtain ⟨q, hq⟩ : ∃ q, w.heap.size = q := ⟨_, rfl⟩
  have d0 := k1.cell 0
  simp only [List.getElem?_toArray, List.getElem?_cons_zero] at d0
  obtain ⟨v, hv⟩ : ∃ t, s.v = t := ⟨_, rfl⟩
  rw [hv] at c0 hv0 hv1 ⊢
  have HB := Lib.hid b1; have HW := Lib.hid hW1
  rw [hq] at d0
  have HQ := Lib.hid hq
  clear h hv b1 k1 hW1
  go_enter Tryz.func44, Tryz.ntmps44
  go_wp2_with fail
  rw [show w.alloc (.cells #[.int .i64 cv, .slice a n cap] 47) = W1 from HW.out]
  go_quiet (fail)
  go_wp2
  go_ret
  exact ⟨rfl, below_drewN HB.out _⟩

theorem RH_inv {v : Value} {d : DataW Value} {ps : List MemPlace} (h : RH v = some (d, ps)) : d = .held v := by
  unfold RH at h
  simp only [Option.some.injEq, Prod.mk.injEq] at h
  exact h.1.symm
/-- What a look-up in the map of the held changes gives. -/
theorem look_held {w : World} {m : Nat} {D : DataW Value} (hm : w.ownsMap Tryz.prog 3 RH m (Maps.size D) D) {k : Int} (h1 : -9223372036854775808 ≤ k) (h2 : k ≤ 9223372036854775807) :
    ∃ v, D.atKey (kI k) (.held (.slice none 0 0)) = .held v ∧ ∀ V : World, V.heap[m]? = w.heap[m]? → (Instr.lookup 70 (.map (some m)) (.int .i64 k) true).run Tryz.prog V = .ok (.tuple #[v, .bool (Maps.has D (kI k))]) V := by
  obtain ⟨v1, ps1, _, hv1⟩ := hm.look_ok keyInt Tryz.underlying70 (zeroP w) (R := RH) rfl (keyOfI h1 h2)
  have e1 := RH_inv hv1
  refine ⟨v1, e1, fun V hV => ?_⟩
  obtain ⟨v2, ps2, hr, hv2⟩ := (ownsMap_same hm hV).look_ok keyInt Tryz.underlying70 (zeroP _) (R := RH) rfl (keyOfI h1 h2)
  have e2 := RH_inv hv2
  have : v2 = v1 := by
    have h3 := e2.symm.trans e1
    simpa using h3
  rw [hr, this]
/-- The error of a change that does not depend on the text. -/
def chkE (s : DS) (cv : Int) (n : Nat) : Int :=
  if cv < 1 ∨ 1099511627776 < cv then 1 else if 64 < n then 4 else if cv ≤ s.v ∨ cv ∈ s.hs.map Prod.fst then 8 else if s.v + 1 < cv ∧ 16 ≤ s.hs.length then 4 else 0

set_option maxRecDepth 100000 in
set_option maxHeartbeats 4000000 in
theorem check_any (T G : Nat → Prop) (p : Nat) (s : DS) (w : World) (h : DocI T G w p s) (cv : Int) (a : Option Addr) (n cap : Nat) (h1 : -9223372036854775808 ≤ cv) (h2 : cv ≤ 9223372036854775807) :
    Calls Tryz.prog 43 #[.pointer (some ⟨p, 0, none⟩), .agg #[.int .i64 cv, .slice a n cap]] w fun e w' => e = .returned (.int .i64 (chkE s cv n)) ∧ Below w.heap.size w w' := by
  have hv0 := h.ok.v0
  have hv1 := h.ok.v1
  obtain ⟨W1, hW1⟩ : ∃ W, w.alloc (.cells #[.int .i64 cv, .slice a n cap] 47) = W := ⟨_, rfl⟩
  have b1 : Below w.heap.size w W1 := by rw [← hW1]; exact (Below.refl _ _).alloc (Nat.le_refl _) _
  have k1 : Blk W1 w.heap.size 47 #[.int .i64 cv, .slice a n cap] := by rw [← hW1]; exact Blk.new _ _ _
  have hD := h.below b1
  have CE := fun W (hW : Below W1.heap.size W1 W) => early_any T G p s W (hD.below hW) cv a n cap
  obtain ⟨g, cp, m, n', D, _, _, c0, _, c2, hm, hh, hTm, hpW⟩ := hD.full
  have hmW := hD.lt m hTm
  obtain ⟨bk, hbk⟩ : ∃ b : Bool, decide (cv ∈ s.hs.map Prod.fst) = b := ⟨_, rfl⟩
  have hkeys := (hh.keys cv).trans hbk
  obtain ⟨v1, _, hlook⟩ := look_held hm h1 h2
  rw [hkeys] at hlook
  have hsz := hh.size
  have hlen := fun V (hV : V.heap[m]? = W1.heap[m]?) => (ownsMap_same (w' := V) hm hV).len Tryz.underlying70 3
  rw [hsz] at hlen
  obtain ⟨q, hq⟩ : ∃ q, w.heap.size = q := ⟨_, rfl⟩
  have d0 := k1.cell 0
  have d1 := k1.cell 1
  simp only [List.getElem?_toArray, List.getElem?_cons_zero, List.getElem?_cons_succ] at d0 d1
  obtain ⟨R, hR⟩ : ∃ R, chkE s cv n = R := ⟨_, rfl⟩
  have hRE : R = if cv < 1 ∨ 1099511627776 < cv then 1 else if 64 < n then 4 else if cv ≤ s.v ∨ bk = true then 8 else if s.v + 1 < cv ∧ 16 ≤ s.hs.length then 4 else 0 := by
    rw [← hR]; unfold chkE; rw [← hbk]; simp only [decide_eq_true_eq]
  obtain ⟨L, hL⟩ : ∃ L, s.hs.length = L := ⟨_, rfl⟩
  obtain ⟨v, hv⟩ : ∃ t, s.v = t := ⟨_, rfl⟩
  rw [hv, hL] at hRE
  rw [hv] at c0 hv0 hv1
  simp only [hv] at CE
  rw [hL] at hlen
  rw [hR]
  have HBW := Lib.hid b1
  have HBQ : Hid (Below q w W1) := by rw [← hq]; exact b1
  have HW := Lib.hid hW1; have HCE := Lib.hid CE; have HRE := Lib.hid hRE; have HLK := Lib.hid hlook; have HLN := Lib.hid hlen
  rw [hq] at d0 d1
  clear h hv b1 k1 hW1 hD CE hRE hR hbk hkeys hsz hh hm hL hlook hlen
  go_enter Tryz.func43, Tryz.ntmps43
  by_cases hA : cv < 1
  · have hr := HRE.out; rw [if_pos (.inl hA)] at hr; subst hr
    go_wp2_with fail
    go_ret
    exact ⟨rfl, by rw [show w.alloc (.cells #[.int .i64 cv, .slice a n cap] 47) = W1 from HW.out]; first | exact HBQ.out | exact HBW.out⟩
  by_cases hB : 1099511627776 < cv
  · have hr := HRE.out; rw [if_pos (.inr hB)] at hr; subst hr
    go_wp2_with fail
    go_ret
    exact ⟨rfl, by rw [show w.alloc (.cells #[.int .i64 cv, .slice a n cap] 47) = W1 from HW.out]; first | exact HBQ.out | exact HBW.out⟩
  have hr := HRE.out
  rw [if_neg (by omega)] at hr
  by_cases hC : 64 < n
  · rw [if_pos hC] at hr; subst hr
    have hC2 : (64 : Int) < (n : Int) := by omega
    go_wp2_with fail
    go_ret
    exact ⟨rfl, by rw [show w.alloc (.cells #[.int .i64 cv, .slice a n cap] 47) = W1 from HW.out]; first | exact HBQ.out | exact HBW.out⟩
  rw [if_neg hC] at hr
  have hC2 : ¬ (64 : Int) < (n : Int) := by omega
  have hlk := HLK.out W1 rfl
  have hlk1 := HLK.out W1.drew rfl
  have HR := Lib.hid hr
  clear hr
  go_wp2_with fail
  rw [show w.alloc (.cells #[.int .i64 cv, .slice a n cap] 47) = W1 from HW.out]
  go_region
  by_cases hD : cv ≤ v ∨ bk = true
  · have hr := HR.out
    rw [if_pos hD] at hr; subst hr
    have hlt : bk = false → cv ≤ v := fun h => hD.resolve_right (by simp [h])
    cases bk with
    | true =>
      clear hD hlt
      go_wp2_with fail
      go_region
      go_wp2_with fail
      go_ret
      exact ⟨rfl, by first | exact HBQ.out.drew.drew | exact HBW.out.drew.drew⟩
    | false =>
      have hle := hlt rfl
      have hled : decide (cv ≤ v) = true := by simp [hle]
      clear hD hlt
      go_wp2_with fail
      go_region
      go_wp2_with fail
      go_ret
      exact ⟨rfl, by first | exact HBQ.out.drew.drew | exact HBW.out.drew.drew⟩
  · have hr := HR.out
    rw [if_neg hD] at hr
    obtain rfl : bk = false := by cases bk with | true => exact absurd (.inr rfl) hD | false => rfl
    have hle : ¬ cv ≤ v := fun h => hD (.inl h)
    have hled : decide (cv ≤ v) = false := by simp [hle]
    have HR2 := Lib.hid hr
    clear hD hr HR
    go_wp2_with fail
    go_region
    have hce := HCE.out W1.drew.drew (Below.refl _ _).drew.drew
    have hln := HLN.out
    go_wp2_with fail
    refine hce.mono ?_
    rintro e w5 ⟨rfl, b5⟩
    have B5 : Below W1.heap.size W1 w5 := (Below.refl _ _).drew.drew.trans b5
    have c25 : w5.cell? ⟨p, 2, none⟩ = some (.map (some m)) := (B5.cell (p := ⟨p, 2, none⟩) hpW).trans c2
    have hln5 := hln w5 (B5.block m hmW)
    have HB5 := Lib.hid B5
    have hr2 := HR2.out
    clear b5 B5 hln hce
    by_cases hE : v + 1 < cv
    · have hEd : decide (v + 1 < cv) = true := by simp [hE]
      rw [hEd]
      by_cases hF : 16 ≤ L
      · rw [if_pos ⟨hE, hF⟩] at hr2; subst hr2
        have hF2 : (16 : Int) ≤ (L : Int) := by omega
        go_wp2_with fail
        go_ret
        exact ⟨rfl, HBW.out.trans (HB5.out.mono HBW.out.size)⟩
      · rw [if_neg (fun h => hF h.2)] at hr2; subst hr2
        have hF2 : ¬ (16 : Int) ≤ (L : Int) := by omega
        go_wp2_with fail
        go_ret
        exact ⟨rfl, HBW.out.trans (HB5.out.mono HBW.out.size)⟩
    · have hEd : decide (v + 1 < cv) = false := by simp [hE]
      rw [hEd]
      rw [if_neg (fun h => hE h.1)] at hr2; subst hr2
      go_wp2_with fail
      go_ret
      exact ⟨rfl, HBW.out.trans (HB5.out.mono HBW.out.size)⟩

end Go.Proofs.YtkehgoailhpenaaGreat

/- The contract of remember, for a document that remembers at most 16 states. -/
namespace Go.Proofs.YtkehgoailhpenaaGreat
open Go.RowKit Go.Shelf Go.Maps
set_option linter.unusedVariables false

theorem infoSt : (Tryz.prog.info? 68).map (fun i => (i.zero, i.size, i.bytes)) = some (some (.agg #[.string ⟨#[]⟩, .slice none 0 0]), 2, 40) := by kernel_rfl
/-- The blocks that a call may write, and those that it has made. -/
def newT (T : Nat → Prop) (w w' : World) (b : Nat) : Prop := T b ∨ (w.heap.size ≤ b ∧ b < w'.heap.size)
theorem EsG.none (G : Nat → Prop) (w : World) : EsG G w (.slice Option.none 0 0) [] := ⟨Option.none, 0, rfl, by simp, by omega, fun _ => rfl, .inl rfl⟩

set_option maxRecDepth 100000 in
set_option maxHeartbeats 4000000 in
theorem remember_any (T G : Nat → Prop) (p : Nat) (s : DS) (t : ByteArray) (w : World) (h : DocI T G w p s) (hl : s.ss.length ≤ 16) (ht : t.size ≤ 4096) :
    Calls Tryz.prog 64 #[.pointer (some ⟨p, 0, none⟩), .string t] w fun e w' => (∃ rv, e = .returned rv) ∧ DocI (newT T w w') G w' p ⟨s.v, s.ss ++ [(t, [])], s.hs⟩ ∧ Only T w w' := by
  obtain ⟨i3, hi3, jy0, jy1, jy2⟩ := info_parts infoSt
  obtain ⟨g, cap, m, D, vs, h1, h2, h3, h4, h5, h6, h7⟩ := h.mem
  have hlen := h3.len
  obtain ⟨n, hn⟩ : ∃ n, vs.length = n := ⟨_, rfl⟩
  have hn16 : n ≤ 16 := by omega
  have hcap : n ≤ cap := by
    rcases h2.2 with ⟨hv, _⟩ | ⟨g', cp, cur, hv, _, _, k1, _⟩
    · simp at hv
    · simp only [Value.slice.injEq] at hv; omega
  have hmx : cap ≤ 9223372036854775807 := by
    rcases h2.2 with ⟨hv, _⟩ | ⟨g', cp, cur, hv, _, _, _, k1, _⟩
    · simp at hv
    · simp only [Value.slice.injEq] at hv; unfold maxLen at k1; omega
  have hgp : g ≠ p := by
    rintro rfl
    rcases h2.2 with ⟨hv, _⟩ | ⟨g', cp, cur, hv, _, hg, _⟩
    · simp at hv
    · simp only [Value.slice.injEq, Option.some.injEq, Addr.mk.injEq] at hv
      obtain ⟨⟨rfl, _⟩, _⟩ := hv
      unfold Blk at h1
      rw [hg] at h1
      simp at h1
  have hmp : m ≠ p := by
    rintro rfl
    obtain ⟨es, clock, k1, _⟩ := h4
    unfold Blk at h1
    rw [k1] at h1
    simp at h1
  have hmg : m ≠ g := by
    rintro rfl
    obtain ⟨es, clock, k1, _⟩ := h4
    rcases h2.2 with ⟨hv, _⟩ | ⟨g', cp, cur, hv, _, hg, _⟩
    · simp at hv
    · simp only [Value.slice.injEq, Option.some.injEq, Addr.mk.injEq] at hv
      obtain ⟨⟨rfl, _⟩, _⟩ := hv
      rw [k1] at hg
      simp at hg
  obtain ⟨v, hv⟩ : ∃ v, s.v = v := ⟨_, rfl⟩
  rw [hn, hv] at h1
  rw [hn] at h2
  have c1 := h1.cell 1
  simp only [List.getElem?_toArray, List.getElem?_cons_zero, List.getElem?_cons_succ] at c1
  have hplt := h1.lt
  have HKP : Hid (∀ w6, (w.alloc (.cells #[.string t, .slice none 0 0] 68)).grownBy w6 (some g) → Blk w6 p 72 #[.int .i64 v, .slice (some ⟨g, 0, none⟩) n cap, .map (some m)]) := fun w6 hg => by
    refine h1.same ((hg.block p (by simp; omega) (fun e => by cases e; exact hgp rfl)).trans ?_)
    exact Below.heap_alloc w _ p hplt
  have HFIN : Hid (∀ w6 v', w6.ownsRow 0 68 2 v' (n + 1) (svals vs ++ [.string t, .slice none 0 0]) → (w.alloc (.cells #[.string t, .slice none 0 0] 68)).grownBy w6 (some g) → (v'.ownBlock = some g ∨ v'.ownBlock = some (w.heap.size + 1)) →
      DocI (newT T w (w6.setCell ⟨p, 1, none⟩ v')) G (w6.setCell ⟨p, 1, none⟩ v') p ⟨s.v, s.ss ++ [(t, [])], s.hs⟩ ∧ Only T w (w6.setCell ⟨p, 1, none⟩ v')) := fun w6 v' hown hg hat => by
    have kp := HKP.out w6 hg
    obtain ⟨A, c6, rfl⟩ := own_slice hown
    obtain ⟨g6, c6', hv6⟩ := ownsRow_succ hown
    simp only [Value.slice.injEq, true_and] at hv6
    obtain ⟨rfl, rfl⟩ := hv6
    have hat2 : g6 = g ∨ g6 = w.heap.size + 1 := by
      rcases hat with e | e
      · exact .inl (by simpa [Value.ownBlock] using e)
      · exact .inr (by simpa [Value.ownBlock] using e)
    have hg6p : g6 ≠ p := by rcases hat2 with e | e <;> omega
    have hz6 : w.heap.size < w6.heap.size := by have := hg.size; simp at this; omega
    have hzs : (w6.setCell ⟨p, 1, none⟩ (.slice (some ⟨g6, 0, none⟩) (n + 1) c6)).heap.size = w6.heap.size := by simp [World.setCell]
    obtain ⟨w7, hw7⟩ : ∃ W, w6.setCell ⟨p, 1, none⟩ (.slice (some ⟨g6, 0, none⟩) (n + 1) c6) = W := ⟨_, rfl⟩
    have hblk : ∀ b, b ≠ p → w7.heap[b]? = w6.heap[b]? := fun b hb => by rw [← hw7]; exact Below.heap_setCell _ _ _ b (fun e => hb (by simpa using e))
    have hold : ∀ b, b < w.heap.size → b ≠ p → b ≠ g → w7.heap[b]? = w.heap[b]? := fun b hb hp hg' =>
      ((hblk b hp).trans (hg.block b (by simp; omega) (fun e => by cases e; exact hg' rfl))).trans (Below.heap_alloc w _ b hb)
    have kp7 : Blk w7 p 72 #[.int .i64 v, .slice (some ⟨g6, 0, none⟩) (n + 1) c6, .map (some m)] := by
      have := kp.set 1 (.slice (some ⟨g6, 0, none⟩) (n + 1) c6)
      rw [hw7] at this
      simpa using this
    rw [hw7] at hzs ⊢
    have hTp := h.tp
    have hg6lt : g6 < w6.heap.size := (row_lt hown).2
    have hGne : ∀ b, G b → b ≠ p ∧ b ≠ g := fun b hb => ⟨fun e => h.apart p hTp (e ▸ hb), fun e => h.apart g h6 (e ▸ hb)⟩
    have hGk : ∀ b, G b → b < w.heap.size → w7.heap[b]? = w.heap[b]? := fun b hb hlt => hold b hlt (hGne b hb).1 (hGne b hb).2
    have hmk : w7.heap[m]? = w.heap[m]? := hold m (h.lt m h7) hmp hmg
    have hvl : (vs ++ [(t, Value.slice none 0 0)]).length = n + 1 := by rw [List.length_append, hn]; rfl
    refine ⟨⟨⟨h.ok.v0, h.ok.v1, by simp, by simp only [List.length_append, List.length_cons, List.length_nil]; omega, ?_, ?_, h.ok.hlen, h.ok.held, h.ok.hk⟩, ⟨g6, c6, m, D, vs ++ [(t, .slice none 0 0)], ?_, ?_, ?_, ownsMap_same h4 hmk, h5.keep (by omega) hGk (fun _ h => h), ?_, .inl h7⟩, .inl hTp, ?_, ?_, ?_⟩, ?_⟩
    · intro x hx
      rcases List.mem_append.1 hx with hx | hx
      · exact h.ok.text x hx
      · simp only [List.mem_singleton] at hx; subst hx; exact ht
    · intro x hx
      rcases List.mem_append.1 hx with hx | hx
      · exact h.ok.eds x hx
      · simp only [List.mem_singleton] at hx; subst hx; exact ⟨Nat.zero_le _, fun e he => by simp at he⟩
    · rw [hvl]; show Blk w7 p _ #[.int .i64 s.v, _, _]; rw [hv]; exact kp7
    · rw [hvl, svals_app]; exact own_same hown (fun j hj => by cases hj; exact hblk g6 hg6p)
    · exact (h3.mono (fun x y hxy => ⟨hxy.1, hxy.2.keep (by omega) hGk (fun _ h => h)⟩)).app (.cons ⟨rfl, EsG.none _ _⟩ .nil)
    · rcases hat2 with e | e
      · exact .inl (e ▸ h6)
      · exact .inr ⟨by omega, by omega⟩
    · intro b hb
      rcases hb with hb | hb
      · have := h.lt b hb; omega
      · exact hb.2
    · intro b hb; have := h.glt b hb; omega
    · intro b hb hG
      rcases hb with hb | hb
      · exact h.apart b hb hG
      · have := h.glt b hG; omega
    · refine ⟨?_, ?_, ?_, by omega, fun k hk hT => hold k hk (fun e => hT (e ▸ hTp)) (fun e => hT (e ▸ h6))⟩
      · rw [← hw7]; exact hg.os
      · rw [← hw7]; exact hg.tape
      · rw [← hw7]; exact hg.output
  have HO := Lib.hid h2
  have hk1 : ¬ (16 : Int) < (n : Int) := by omega
  have hk2 : (n : Int) ≤ (cap : Int) := by omega
  clear h h1 h2 h3 h4 h5 h6 h7 hlen hn hgp hmp hmg hv hplt
  go_enter Tryz.func64, Tryz.ntmps64
  go_wp2_with (at_builtin; refine wpList_append_own_at _ rfl _ _ 69 rfl 0 68 i3 (.agg #[.string ⟨#[]⟩, .slice none 0 0]) 2 40 Tryz.underlying69 hi3 jy0 jy1 jy2 rfl (by decide) (.slice (some ⟨g, 0, none⟩) n cap) n (svals vs) rfl (HO.out.alloc _) ⟨_, 0, none⟩ 1 1 [.string t, .slice none 0 0] rfl rfl (cells_newb _ [.string t, .slice none 0 0] _ _ (by simp; try omega)) (fun x hx => by simp at hx; rcases hx with rfl | rfl <;> rfl) (by unfold maxLen; omega) (by omega) (Nat.zero_le _) ?_; intro v' w6 hown6 hgrow6 _ hat6; obtain ⟨ao, co, rfl⟩ := own_slice hown6; have hk6 := HKP.out w6 hgrow6; have c8 : w6.cell? ⟨p, 1, none⟩ = some (.slice (some ⟨g, 0, none⟩) n cap) := (by simpa using hk6.cell 1); have f8 := hk6.frozen 1)
  have hF := HFIN.out w6 (.slice ao (n + 1) co) hown6 hgrow6 (by simpa [Value.ownBlock] using hat6)
  refine bodyPost_end (results_none rfl _ _ _) rfl ?_
  exact ⟨⟨_, rfl⟩, hF⟩

end Go.Proofs.YtkehgoailhpenaaGreat
