/- The mathematics of the reference's Compose: what its loop reads, and what its list is. It has no conditions. -/
import Derived.Test.YtfhpllcdlejfjaaESr
import Derived.Test.YtfhpllcdlejfjaaENr
namespace Go.Proofs.Ytfhpllcdlejfjaa
open Go.RowKit Go.Shelf
set_option linter.unusedVariables false

theorem canon_len {n : Nat} : ∀ {r : List (Int × Option Nat)} {a : Nat} {x : List Int}, (canon n a x r).length ≤ r.length + 1 := by
  intro r
  induction r with
  | nil => intro a x; simp only [canon]; split <;> simp
  | cons z r ih =>
    intro a x
    obtain ⟨c, k⟩ := z
    cases k with
    | none => have := ih (a := a) (x := x ++ [c]); simp only [canon, List.length_cons]; omega
    | some k =>
      have := ih (a := k + 1) (x := [])
      simp only [canon]
      split
      · simp only [List.length_cons]; omega
      · simp only [List.length_cons]; omega
theorem canon_byt {n : Nat} : ∀ {r : List (Int × Option Nat)} {a : Nat} {x : List Int}, Byt x → Byt (r.map Prod.fst) → ∀ e ∈ canon n a x r, Byt e.x ∧ e.x.length ≤ x.length + r.length := by
  intro r
  induction r with
  | nil =>
    intro a x hx _ e he
    simp only [canon] at he
    split at he
    · simp only [List.mem_singleton] at he; subst he; exact ⟨hx, by simp⟩
    · simp at he
  | cons z r ih =>
    intro a x hx hr e he
    obtain ⟨c, k⟩ := z
    have hr2 : Byt (r.map Prod.fst) := fun y hy => hr y (by simp only [List.map_cons, List.mem_cons]; exact .inr hy)
    cases k with
    | none =>
      have := ih (a := a) (x := x ++ [c]) (byt_snoc hx (hr c (by simp))) hr2 e he
      exact ⟨this.1, by have := this.2; simp only [List.length_append, List.length_cons, List.length_nil] at this ⊢; omega⟩
    | some k =>
      simp only [canon] at he
      have hn : Byt ([] : List Int) := fun y hy => by simp at hy
      split at he
      · rcases List.mem_cons.1 he with rfl | he
        · exact ⟨hx, by simp only; omega⟩
        · have := ih (a := k + 1) (x := []) hn hr2 e he
          exact ⟨this.1, by have := this.2; simp only [List.length_nil, List.length_cons] at this ⊢; omega⟩
      · have := ih (a := k + 1) (x := []) hn hr2 e he
        exact ⟨this.1, by have := this.2; simp only [List.length_nil, List.length_cons] at this ⊢; omega⟩
/-- The list of the reference's loop, with sources. -/
def rcZ (s : ByteArray) (es1 es2 : List Er) : List (Int × Option Nat) := thru (srcl (sb s) 0 (ees es1)) (srcl (sb (apS s es1)) 0 (ees es2))
def rcC (s : ByteArray) (es1 es2 : List Er) : List Ee := canon s.size 0 [] (rcZ s es1 es2)
theorem rc_fst {s : ByteArray} {es1 es2 : List Er} (h1 : vErr (s.size : Int) es1 = 0) (h2 : vErr ((apS s es1).size : Int) es2 = 0) : (rcZ s es1 es2).map Prod.fst = sb (apS (apS s es1) es2) := by
  unfold rcZ
  rw [thru_fst, srcl_fst, apS_sb h2]
theorem rc_src {s : ByteArray} {es1 es2 : List Er} (h1 : vErr (s.size : Int) es1 = 0) (h2 : vErr ((apS s es1).size : Int) es2 = 0) : Src (sb s) 0 (rcZ s es1 es2) := by
  have v1 := (vErr_ok h1).2.1
  have v2 := (vErr_ok h2).2.1
  refine thru_src (t := sb (apS s es1)) (srcl_src (by rw [sb_len]; exact v1)) ?_ (srcl_src (by rw [sb_len]; exact v2))
  rw [srcl_fst, apS_sb h1]
theorem rc_ok {s : ByteArray} {es1 es2 : List Er} (h1 : vErr (s.size : Int) es1 = 0) (h2 : vErr ((apS s es1).size : Int) es2 = 0) :
    (rcZ s es1 es2).length = (apS (apS s es1) es2).size ∧ Vld s.size 0 (ees (ers (rcC s es1 es2))) ∧ (∀ e ∈ ers (rcC s es1 es2), 0 ≤ e.f ∧ 0 ≤ e.t) ∧ (∀ e ∈ ers (rcC s es1 es2), e.x.size ≤ (apS (apS s es1) es2).size) ∧
      (ers (rcC s es1 es2)).length ≤ (apS (apS s es1) es2).size + 1 ∧ nrS s (ers (rcC s es1 es2)) = ers (cmpl (sb s) (ees es1) (ees es2)) := by
  have hf := rc_fst h1 h2
  have hl : (rcZ s es1 es2).length = (apS (apS s es1) es2).size := by
    have := congrArg List.length hf
    rwa [List.length_map, sb_len] at this
  have hb := canon_byt (n := s.size) (a := 0) (x := []) (r := rcZ s es1 es2) (fun y hy => by simp at hy) (by rw [hf]; exact sb_byt _)
  have hee : ees (ers (rcC s es1 es2)) = rcC s es1 es2 := ees_ers (fun e he => (hb e he).1)
  have hp : ∀ e ∈ ers (rcC s es1 es2), 0 ≤ e.f ∧ 0 ≤ e.t := by
    intro e he
    obtain ⟨x, hx, rfl⟩ := List.mem_map.1 he
    exact ⟨by show (0 : Int) ≤ (x.f : Int); omega, by show (0 : Int) ≤ (x.t : Int); omega⟩
  refine ⟨hl, ?_, hp, ?_, ?_, ?_⟩
  · rw [hee]
    have := canon_vld (x := []) (rc_src h1 h2)
    rwa [sb_len] at this
  · intro e he
    obtain ⟨x, hx, rfl⟩ := List.mem_map.1 he
    show (bs x.x).size ≤ _
    have := (hb x hx).2
    rw [bs_size]
    simp only [List.length_nil] at this
    omega
  · rw [ers_len]
    have := canon_len (n := s.size) (a := 0) (x := []) (r := rcZ s es1 es2)
    unfold rcC
    omega
  · rw [nrS_eq hp, hee]
    unfold cmpl rcC rcZ
    rw [apS_sb h1, sb_len]
/-- What the loop reads at a byte of the last text. -/
theorem rc_at {s : ByteArray} {es1 es2 : List Er} (h1 : vErr (s.size : Int) es1 = 0) (h2 : vErr ((apS s es1).size : Int) es2 = 0) {k : Nat} (hk : k < (apS (apS s es1) es2).size) :
    (srN (apS s es1).size 0 es2)[k]? = some (-1) ∧ (rcZ s es1 es2)[k]? = some (((sb (apS (apS s es1) es2))[k]?).getD 0, none) ∨
    ∃ m2 : Nat, (srN (apS s es1).size 0 es2)[k]? = some (m2 : Int) ∧ m2 < (srN s.size 0 es1).length ∧
      ((srN s.size 0 es1)[m2]? = some (-1) ∧ (rcZ s es1 es2)[k]? = some (((sb (apS (apS s es1) es2))[k]?).getD 0, none) ∨
       ∃ m : Nat, (srN s.size 0 es1)[m2]? = some (m : Int) ∧ m < s.size ∧ (rcZ s es1 es2)[k]? = some (((sb (apS (apS s es1) es2))[k]?).getD 0, some m)) := by
  have v1 := (vErr_ok h1).2.1
  have v2 := (vErr_ok h2).2.1
  obtain ⟨z1, hz1⟩ : ∃ z, srcl (sb s) 0 (ees es1) = z := ⟨_, rfl⟩
  obtain ⟨z2, hz2⟩ : ∃ z, srcl (sb (apS s es1)) 0 (ees es2) = z := ⟨_, rfl⟩
  have e1 : srN s.size 0 es1 = z1.map enc := by rw [← enc_srcl v1, hz1]
  have e2 : srN (apS s es1).size 0 es2 = z2.map enc := by rw [← enc_srcl v2, hz2]
  have eZ : rcZ s es1 es2 = thru z1 z2 := by unfold rcZ; rw [hz1, hz2]
  have f1 : z1.map Prod.fst = sb (apS s es1) := by rw [← hz1, srcl_fst, apS_sb h1]
  have f2 : z2.map Prod.fst = sb (apS (apS s es1) es2) := by rw [← hz2, srcl_fst, apS_sb h2]
  have s1 : Src (sb s) 0 z1 := by rw [← hz1]; exact srcl_src (by rw [sb_len]; exact v1)
  have s2 : Src (sb (apS s es1)) 0 z2 := by rw [← hz2]; exact srcl_src (by rw [sb_len]; exact v2)
  obtain ⟨_, g1, _⟩ := src_iff.1 s1
  obtain ⟨_, g2, _⟩ := src_iff.1 s2
  have l1 : z1.length = (apS s es1).size := by have := congrArg List.length f1; rwa [List.length_map, sb_len] at this
  have l2 : z2.length = (apS (apS s es1) es2).size := by have := congrArg List.length f2; rwa [List.length_map, sb_len] at this
  obtain ⟨⟨c, o⟩, hz⟩ : ∃ y, z2[k]? = some y := ⟨_, List.getElem?_eq_getElem (by omega)⟩
  have hc : ((sb (apS (apS s es1) es2))[k]?).getD 0 = c := by rw [← f2, List.getElem?_map, hz]; rfl
  rw [e1, e2, eZ, hc]
  unfold thru
  simp only [List.getElem?_map, hz, Option.map_some]
  cases o with
  | none => exact .inl ⟨rfl, rfl⟩
  | some m2 =>
    have hm2 := (g2 k m2 c hz).2
    have hlt : m2 < z1.length := by have := (List.getElem?_eq_some_iff.1 hm2).1; rw [sb_len] at this; omega
    refine .inr ⟨m2, rfl, by rw [List.length_map]; exact hlt, ?_⟩
    obtain ⟨⟨c1, o1⟩, hy⟩ : ∃ y, z1[m2]? = some y := ⟨_, List.getElem?_eq_getElem hlt⟩
    simp only [hy, Option.map_some, Option.bind_some]
    cases o1 with
    | none => exact .inl ⟨rfl, rfl⟩
    | some m =>
      have hm := (g1 m2 m c1 hy).2
      have := (List.getElem?_eq_some_iff.1 hm).1
      rw [sb_len] at this
      exact .inr ⟨m, rfl, this, rfl⟩

end Go.Proofs.Ytfhpllcdlejfjaa
