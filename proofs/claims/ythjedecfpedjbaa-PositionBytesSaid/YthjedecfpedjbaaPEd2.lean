/- The contract of the program's conversion of one edit. Conditions: texts of at most 100000 bytes. -/
import Derived.Test.YthjedecfpedjbaaPEd1
import Derived.Test.YthjedecfpedjbaaPEx
namespace Go.Proofs.Ythjedecfpedjbaa
open Go.RowKit Go.Shelf
set_option linter.unusedVariables false

theorem off_total (Z : List Int) (l u : Int) : ∃ o e, OffSpec Z l u o e := by
  by_cases h1 : ∃ o l' u' : Nat, l = l' ∧ u = u' ∧ Pos Z o l' u'
  · obtain ⟨o, l', u', a, b, c⟩ := h1
    exact ⟨o, 0, .inl ⟨rfl, l', u', a, b, c⟩⟩
  · by_cases h2 : ∃ l' u' E v : Nat, l = l' ∧ u = u' ∧ Eol Z E l' v ∧ u' ≤ v
    · obtain ⟨l', u', E, v, a, b, c, d⟩ := h2
      exact ⟨0, 1, .inr (.inl ⟨rfl, rfl, l', u', E, v, a, b, c, d, fun ⟨o, ho⟩ => h1 ⟨o, l', u', a, b, ho⟩⟩)⟩
    · exact ⟨0, 5, .inr (.inr ⟨rfl, rfl, h2⟩)⟩
theorem off_le {Z : List Int} {l u : Int} {o : Nat} {e : Int} (h : OffSpec Z l u o e) : o ≤ Z.length := by
  rcases h with ⟨_, _, _, _, _, h⟩ | ⟨_, rfl, _⟩ | ⟨_, rfl, _⟩
  · exact h.lt
  · exact Nat.zero_le _
  · exact Nat.zero_le _
/-- An edit by positions, and an edit by offsets. -/
structure PE where
  l1 : Int
  u1 : Int
  l2 : Int
  u2 : Int
  t : ByteArray
structure Ed where
  f : Nat
  o : Nat
  t : ByteArray
def Ed.zero : Ed := ⟨0, 0, ⟨#[]⟩⟩
def PE.vals (p : PE) : List Value := [.int .i64 p.l1, .int .i64 p.u1, .int .i64 p.l2, .int .i64 p.u2, .string p.t]
def Ed.vals (d : Ed) : List Value := [.int .i64 (d.f : Int), .int .i64 (d.o : Int), .string d.t]
def PE.fit (p : PE) : Prop := I64n p.l1 ∧ I64n p.u1 ∧ I64n p.l2 ∧ I64n p.u2
/-- What an edit by positions becomes. -/
def EdS (Z : List Int) (p : PE) (d : Ed) (er : Int) : Prop :=
  ∃ o1 e1 o2 e2, OffSpec Z p.l1 p.u1 o1 e1 ∧ OffSpec Z p.l2 p.u2 o2 e2 ∧
    ((e1 ≠ 0 ∧ er = e1 ∧ d = Ed.zero) ∨ (e1 = 0 ∧ e2 ≠ 0 ∧ er = e2 ∧ d = Ed.zero) ∨ (e1 = 0 ∧ e2 = 0 ∧ o2 < o1 ∧ er = 1 ∧ d = Ed.zero) ∨ (e1 = 0 ∧ e2 = 0 ∧ o1 ≤ o2 ∧ er = 0 ∧ d = ⟨o1, o2, p.t⟩))
theorem EdS.det {Z : List Int} {p : PE} {d d' : Ed} {er er' : Int} (h : EdS Z p d er) (k : EdS Z p d' er') : d = d' ∧ er = er' := by
  obtain ⟨o1, e1, o2, e2, a1, a2, h⟩ := h
  obtain ⟨o3, e3, o4, e4, b1, b2, k⟩ := k
  obtain ⟨rfl, rfl⟩ := a1.det b1
  obtain ⟨rfl, rfl⟩ := a2.det b2
  rcases h with ⟨h1, rfl, rfl⟩ | ⟨h1, h2, rfl, rfl⟩ | ⟨h1, h2, h3, rfl, rfl⟩ | ⟨h1, h2, h3, rfl, rfl⟩ <;> rcases k with ⟨k1, rfl, rfl⟩ | ⟨k1, k2, rfl, rfl⟩ | ⟨k1, k2, k3, rfl, rfl⟩ | ⟨k1, k2, k3, rfl, rfl⟩ <;> first | exact ⟨rfl, rfl⟩ | omega
theorem ed_total (Z : List Int) (p : PE) : ∃ d er, EdS Z p d er := by
  obtain ⟨o1, e1, h1⟩ := off_total Z p.l1 p.u1
  obtain ⟨o2, e2, h2⟩ := off_total Z p.l2 p.u2
  by_cases a : e1 = 0
  · by_cases b : e2 = 0
    · by_cases c : o2 < o1
      · exact ⟨_, _, o1, e1, o2, e2, h1, h2, .inr (.inr (.inl ⟨a, b, c, rfl, rfl⟩))⟩
      · exact ⟨_, _, o1, e1, o2, e2, h1, h2, .inr (.inr (.inr ⟨a, b, by omega, rfl, rfl⟩))⟩
    · exact ⟨_, _, o1, e1, o2, e2, h1, h2, .inr (.inl ⟨a, b, rfl, rfl⟩)⟩
  · exact ⟨_, _, o1, e1, o2, e2, h1, h2, .inl ⟨a, rfl, rfl⟩⟩

set_option maxRecDepth 100000 in
set_option maxHeartbeats 2000000 in
theorem inb_any (s : ByteArray) (p : PE) (d : Ed) (er : Int) (w : World) (hs : s.size ≤ 100000) (hp : p.fit) (h : EdS (sb s) p d er) :
    Calls Try.prog 47 #[.string s, .agg p.vals.toArray] w fun e w' => e = .returned (.tuple #[.agg d.vals.toArray, .int .i64 er]) ∧ Below w.heap.size w w' := by
  obtain ⟨l1, u1, l2, u2, t⟩ := p
  obtain ⟨hp1, hp2, hp3, hp4⟩ := hp
  obtain ⟨o1, e1, o2, e2, h1, h2, h⟩ := h
  simp only [PE.vals] at h1 h2 ⊢
  have hl1 := off_le h1
  have hl2 := off_le h2
  rw [sb_len] at hl1 hl2
  have cT := fun W Q Bs => two_pos s Q Bs (fun k => if k = 0 then l1 else l2) (fun k => if k = 0 then u1 else u2) (fun k => if k = 0 then o1 else o2) (fun k => if k = 0 then e1 else e2) W hs (fun k => by by_cases h : k = 0 <;> simp [h, hp1, hp2, hp3, hp4])
  simp only [if_pos, Nat.one_ne_zero, if_false] at cT
  have cT2 : ∀ W Q Bs, Blk W Q 32 #[.int .i64 l1, .int .i64 u1, .int .i64 l2, .int .i64 u2] → Boxed W Bs 9 (.string s) →
      Calls Try.prog 63 #[.slice (some ⟨Q, 0, none⟩) 2 2, .func (.func 64) #[] #[.pointer (some ⟨Bs, 0, none⟩)]] W fun e w' => Below W.heap.size W w' ∧
        ((e1 ≠ 0 ∧ e = .returned (.tuple #[.slice none 0 0, .int .i64 e1])) ∨ (e1 = 0 ∧ e2 ≠ 0 ∧ e = .returned (.tuple #[.slice none 0 0, .int .i64 e2])) ∨
         (e1 = 0 ∧ e2 = 0 ∧ ∃ g, e = .returned (.tuple #[.slice (some ⟨g, 0, none⟩) 2 2, .int .i64 0]) ∧ w'.cell? ⟨g, 0, none⟩ = some (.int .i64 (o1 : Int)) ∧ w'.cell? ⟨g, 1, none⟩ = some (.int .i64 (o2 : Int)))) := by
    intro W Q Bs a b
    refine (cT W Q Bs a b (fun k hk => ?_)).mono ?_
    · by_cases hk0 : k = 0
      · simp only [if_pos hk0]; exact h1
      · simp only [if_neg hk0]; exact h2
    · rintro e w' ⟨hb, ⟨k, hk, he, hj, rfl⟩ | ⟨ha, hb2, hg⟩⟩
      · refine ⟨hb, ?_⟩
        by_cases hk0 : k = 0
        · simp only [if_pos hk0] at he ⊢; exact .inl ⟨he, by trivial⟩
        · simp only [if_neg hk0] at he ⊢
          have h0 : e1 = 0 := by have := hj 0 (by omega); simpa using this
          exact .inr (.inl ⟨h0, he, by trivial⟩)
      · exact ⟨hb, .inr (.inr ⟨ha, hb2, hg⟩)⟩
  obtain ⟨P, hP⟩ : ∃ P, w.heap.size = P := ⟨_, rfl⟩
  obtain ⟨W3, hW3⟩ : ∃ W, ((w.alloc (.cells #[.string s] 9)).alloc (.cells #[.int .i64 l1, .int .i64 u1, .int .i64 l2, .int .i64 u2, .string t] 43)).alloc (.cells #[.int .i64 0, .int .i64 0, .string ⟨#[]⟩] 52) = W := ⟨_, rfl⟩
  have b1 : Boxed W3 P 9 (.string s) := by rw [← hW3, ← hP]; exact ((Boxed.new _ _ _).alloc _).alloc _
  have b2 : Blk W3 (P + 1) 43 #[.int .i64 l1, .int .i64 u1, .int .i64 l2, .int .i64 u2, .string t] := by
    rw [← hW3, ← hP]
    have := (Blk.new (w.alloc (.cells #[.string s] 9)) 43 #[.int .i64 l1, .int .i64 u1, .int .i64 l2, .int .i64 u2, .string t]).alloc (.cells #[.int .i64 0, .int .i64 0, .string ⟨#[]⟩] 52)
    simpa using this
  have b3 : Blk W3 (P + 1 + 1) 52 #[.int .i64 0, .int .i64 0, .string ⟨#[]⟩] := by
    rw [← hW3, ← hP]
    have := Blk.new ((w.alloc (.cells #[.string s] 9)).alloc (.cells #[.int .i64 l1, .int .i64 u1, .int .i64 l2, .int .i64 u2, .string t] 43)) 52 #[.int .i64 0, .int .i64 0, .string ⟨#[]⟩]
    simpa using this
  have s3 : W3.heap.size = P + 1 + 1 + 1 := by rw [← hW3, ← hP]; simp
  have hb3 : Below P w W3 := by rw [← hW3, ← hP]; exact (((Below.refl _ _).alloc (Nat.le_refl _) _).alloc (by simp) _).alloc (by simp; omega) _
  have C := Lib.hid (cT2 (W3.alloc (.cells #[.int .i64 l1, .int .i64 u1, .int .i64 l2, .int .i64 u2] 32)) (P + 1 + 1 + 1) P (by rw [← s3]; exact Blk.new _ _ _) (b1.alloc _))
  have HP := Lib.hid hP; have HW3 := Lib.hid hW3; have HB2 := Lib.hid b2; have HB3 := Lib.hid b3; have HBB := Lib.hid hb3; have HS3 := Lib.hid s3; have HH := Lib.hid h
  clear cT cT2 h1 h2 h hP hW3 b1 b2 b3 s3 hb3
  go_enter Try.func47, Try.ntmps47
  go_wp2_with fail
  rw [HP.out, show ((w.alloc (.cells #[.string s] 9)).alloc (.cells #[.int .i64 l1, .int .i64 u1, .int .i64 l2, .int .i64 u2, .string t] 43)).alloc (.cells #[.int .i64 0, .int .i64 0, .string ⟨#[]⟩] 52) = W3 from HW3.out]
  refine C.out.mono ?_
  rintro e w5 ⟨b5, hway⟩
  have hb5 : Below (P + 1 + 1 + 1) W3 w5 := ((Below.refl _ _).alloc (by rw [HS3.out]; exact Nat.le_refl _) _).trans (b5.mono (by simp [HS3.out]))
  have e2' := HB2.out.same (hb5.block (P + 1) (by omega))
  have e3' := HB3.out.same (hb5.block (P + 1 + 1) (by omega))
  have H5 : Hid (Below P w w5) := HBB.out.trans (hb5.mono (by omega))
  have ct : w5.cell? ⟨P + 1, 4, none⟩ = some (.string t) := by simpa using e2'.cell 4
  have c0 : w5.cell? ⟨P + 1 + 1, 0, none⟩ = some (.int .i64 0) := by simpa using e3'.cell 0
  have c1 : w5.cell? ⟨P + 1 + 1, 1, none⟩ = some (.int .i64 0) := by simpa using e3'.cell 1
  have c2 : w5.cell? ⟨P + 1 + 1, 2, none⟩ = some (.string ⟨#[]⟩) := by simpa using e3'.cell 2
  have f0 := e3'.frozen 0; have f1 := e3'.frozen 1; have f2 := e3'.frozen 2
  have hout : ∀ (W : World) (x y : Int) (z : ByteArray), Blk W (P + 1 + 1) 52 #[.int .i64 0, .int .i64 0, .string ⟨#[]⟩] → Below P w W →
      (((W.setCell ⟨P + 1 + 1, 0, none⟩ (.int .i64 x)).setCell ⟨P + 1 + 1, 1, none⟩ (.int .i64 y)).setCell ⟨P + 1 + 1, 2, none⟩ (.string z)).cell? ⟨P + 1 + 1, 0, none⟩ = some (.int .i64 x) ∧
      (((W.setCell ⟨P + 1 + 1, 0, none⟩ (.int .i64 x)).setCell ⟨P + 1 + 1, 1, none⟩ (.int .i64 y)).setCell ⟨P + 1 + 1, 2, none⟩ (.string z)).cell? ⟨P + 1 + 1, 1, none⟩ = some (.int .i64 y) ∧
      (((W.setCell ⟨P + 1 + 1, 0, none⟩ (.int .i64 x)).setCell ⟨P + 1 + 1, 1, none⟩ (.int .i64 y)).setCell ⟨P + 1 + 1, 2, none⟩ (.string z)).cell? ⟨P + 1 + 1, 2, none⟩ = some (.string z) ∧
      Below P w (((W.setCell ⟨P + 1 + 1, 0, none⟩ (.int .i64 x)).setCell ⟨P + 1 + 1, 1, none⟩ (.int .i64 y)).setCell ⟨P + 1 + 1, 2, none⟩ (.string z)) := by
    intro W x y z h hb
    have b2 := ((h.set 0 (.int .i64 x)).set 1 (.int .i64 y)).set 2 (.string z)
    exact ⟨by simpa using b2.cell 0, by simpa using b2.cell 1, by simpa using b2.cell 2, ((hb.setCell (p := ⟨P + 1 + 1, 0, none⟩) (by show P ≤ P + 1 + 1; omega) _).setCell (p := ⟨P + 1 + 1, 1, none⟩) (by show P ≤ P + 1 + 1; omega) _).setCell (p := ⟨P + 1 + 1, 2, none⟩) (by show P ≤ P + 1 + 1; omega) _⟩
  have HE3 := Lib.hid e3'
  have HOUT := Lib.hid hout
  clear b5 hb5 e2' e3' hout C
  rcases hway with ⟨he, rfl⟩ | ⟨he, he2, rfl⟩ | ⟨he, he2, g, rfl, d0, d1⟩
  case inl =>
    have hres : er = e1 ∧ d = Ed.zero := by
      rcases HH.out with ⟨_, a, b⟩ | ⟨a, _⟩ | ⟨a, _⟩ | ⟨a, _⟩
      · exact ⟨a, b⟩
      all_goals exact absurd a he
    obtain ⟨rfl, rfl⟩ := hres
    have hq : (er != 0) = true := by simp [he]
    obtain ⟨k0, k1, k2, hbl⟩ := HOUT.out w5 0 0 ⟨#[]⟩ HE3.out H5.out
    have HBL := Lib.hid hbl
    clear he hbl
    go_wp2
    refine bodyPost_ret (v := .tuple #[.agg #[.int .i64 0, .int .i64 0, .string ⟨#[]⟩], .int .i64 er]) (by simp [results, Try.results47, go_sem, k0, k1, k2]) rfl ?_
    exact ⟨rfl, by rw [HP.out]; exact HBL.out⟩
  case inr.inl =>
    have hres : er = e2 ∧ d = Ed.zero := by
      rcases HH.out with ⟨a, _⟩ | ⟨_, _, a, b⟩ | ⟨_, a, _⟩ | ⟨_, a, _⟩
      · exact absurd he a
      · exact ⟨a, b⟩
      all_goals exact absurd a he2
    obtain ⟨rfl, rfl⟩ := hres
    have hq : (er != 0) = true := by simp [he2]
    obtain ⟨k0, k1, k2, hbl⟩ := HOUT.out w5 0 0 ⟨#[]⟩ HE3.out H5.out
    have HBL := Lib.hid hbl
    clear he he2 hbl
    go_wp2
    refine bodyPost_ret (v := .tuple #[.agg #[.int .i64 0, .int .i64 0, .string ⟨#[]⟩], .int .i64 er]) (by simp [results, Try.results47, go_sem, k0, k1, k2]) rfl ?_
    exact ⟨rfl, by rw [HP.out]; exact HBL.out⟩
  case inr.inr =>
    by_cases hlt : o2 < o1
    · have hres : er = 1 ∧ d = Ed.zero := by
        rcases HH.out with ⟨a, _⟩ | ⟨_, a, _⟩ | ⟨_, _, _, a, b⟩ | ⟨_, _, a, _⟩
        · exact absurd he a
        · exact absurd he2 a
        · exact ⟨a, b⟩
        · omega
      obtain ⟨rfl, rfl⟩ := hres
      have hlt2 : (o2 : Int) < (o1 : Int) := by omega
      have hk := fun n => HOUT.out (w5.drewN n) 0 0 ⟨#[]⟩ (HE3.out.drewN n) (below_drewN H5.out n)
      have k0 := fun n => (hk n).1
      have k1 := fun n => (hk n).2.1
      have k2 := fun n => (hk n).2.2.1
      have HBL := Lib.hid (fun n => (hk n).2.2.2)
      clear he he2 hk hlt
      go_wp2_with fail
      go_quiet (fail)
      go_wp2
      refine bodyPost_ret (v := .tuple #[.agg #[.int .i64 0, .int .i64 0, .string ⟨#[]⟩], .int .i64 1]) (by simp [results, Try.results47, go_sem, k0, k1, k2]) rfl ?_
      exact ⟨rfl, by rw [HP.out]; exact HBL.out _⟩
    · have hres : er = 0 ∧ d = ⟨o1, o2, t⟩ := by
        rcases HH.out with ⟨a, _⟩ | ⟨_, a, _⟩ | ⟨_, _, a, _⟩ | ⟨_, _, _, a, b⟩
        · exact absurd he a
        · exact absurd he2 a
        · omega
        · exact ⟨a, b⟩
      obtain ⟨rfl, rfl⟩ := hres
      have hlt2 : ¬ (o2 : Int) < (o1 : Int) := by omega
      have hk := fun n => HOUT.out (w5.drewN n) (o1 : Int) (o2 : Int) t (HE3.out.drewN n) (below_drewN H5.out n)
      have k0 := fun n => (hk n).1
      have k1 := fun n => (hk n).2.1
      have k2 := fun n => (hk n).2.2.1
      have HBL := Lib.hid (fun n => (hk n).2.2.2)
      clear he he2 hk hlt
      go_wp2_with fail
      go_quiet (fail)
      go_wp2
      refine bodyPost_ret (v := .tuple #[.agg #[.int .i64 (o1 : Int), .int .i64 (o2 : Int), .string t], .int .i64 0]) (by simp [results, Try.results47, go_sem, k0, k1, k2]) rfl ?_
      exact ⟨rfl, by rw [HP.out]; exact HBL.out _⟩

end Go.Proofs.Ythjedecfpedjbaa
