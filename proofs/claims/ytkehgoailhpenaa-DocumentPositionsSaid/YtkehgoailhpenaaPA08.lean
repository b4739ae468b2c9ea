/- Texts of one claim, put together: EAr, ECp, EVs, ECn, ENp, EBd, EGw, ECl. Each part says what it proves and under which conditions. -/
import Derived.Test.YtkehgoailhpenaaPA07
import Derived.Laws.EntriesVeiled
import Derived.BigQuiet
import Derived.Deep.QuietTactic

/- The contract of around: the edits around the pieces that are kept. Conditions: texts of at most 1000000000 bytes, at most 20000 pieces, in order. -/
namespace Go.Proofs.Ytkehgoailhpenaa
open Go.RowKit Go.Shelf
set_option linter.unusedVariables false
attribute [local go_sem] Oper.semAt_some

theorem Giv.on {P : Program} {g : Nat} {lb : Array Value} {encs : Nat → Array Value} {N : Nat} {R : Nat → Prop} {w w' : World} (h : Giv P g lb encs N R w) (hb : Below w.heap.size w w') : Giv P g lb encs N R w' :=
  fun l J T₀ W hW => h l J T₀ W (hb.trans (hW.mono hb.size))
theorem gap_len (s u : ByteArray) (f t q r : Nat) : (gap s u f t q r).length ≤ 1 := by
  unfold gap
  split <;> simp
theorem arl_len {s u : ByteArray} : ∀ {K : List Kp} {f q : Nat}, (arl s u f q K).length ≤ K.length + 1 := by
  intro K
  induction K with
  | nil => intro f q; exact gap_len _ _ _ _ _ _
  | cons p K ih => intro f q; simp only [arl, List.length_append, List.length_cons]; have := gap_len s u f p.f q p.q; have := ih (f := p.f + p.m) (q := p.q + p.m); omega
theorem pg_map {s : ByteArray} {K : List Kp} {k : Nat} (h : k < K.length) : pg (K.map (Kp.pc s)) k = Kp.pc s K[k] := by
  unfold pg
  rw [List.getElem?_map, List.getElem?_eq_getElem h]
  rfl

/-- The state of around's loop. -/
def ArI (b0 : Nat) (T₀ : Nat → Prop) (s u : ByteArray) (K : List Kp) (w W0 : World) (k : Nat) (T : Nat → Prop) (A : World) : Prop :=
  ∃ (f q : Nat) (E : List Er) (TI : Nat → Prop), Iv (b0 + 2) b0 TI E A ∧ Boxed A (b0 + 3) 3 (.int .i64 (f : Int)) ∧ Boxed A (b0 + 4) 3 (.int .i64 (q : Int)) ∧ (∀ j, T j ↔ (TI j ∨ j = b0 + 3 ∨ j = b0 + 4)) ∧ ¬ TI (b0 + 3) ∧ ¬ TI (b0 + 4) ∧
    E ++ arl s u f q (K.drop k) = arl s u 0 0 K ∧ Ordk s.size u.size f q (K.drop k) ∧ E.length ≤ k ∧ Below b0 w A ∧ Rnd T₀ T W0 A
theorem ArI.oth {b0 : Nat} {T₀ : Nat → Prop} {s u : ByteArray} {K : List Kp} {w W0 : World} (hw : w.heap.size = b0) (hz : b0 ≤ W0.heap.size) {k : Nat} {T : Nat → Prop} {A C : World} (h : ArI b0 T₀ s u K w W0 k T A) (ho : Oth T W0.heap.size A C) : ArI b0 T₀ s u K w W0 k T C := by
  obtain ⟨f, q, E, TI, h1, h2, h3, h4, h5, h6, h7, h8, h9, h10, h11⟩ := h
  have hA := h11.size
  refine ⟨f, q, E, TI, h1.oth (ho.mono (Nat.le_refl _) (fun j hj => (h4 j).2 (.inl hj))), ?_, ?_, h4, h5, h6, h7, h8, h9, h10.trans (ho.below hz (by omega)), ⟨Nat.le_trans h11.size ho.size, fun k hk hT => (ho.block k (by omega) (.inl hk)).trans (h11.block k hk hT), h11.grew⟩⟩
  · exact (ho.block (b0 + 3) h2.lt (.inr ((h4 _).2 (.inr (.inl rfl))))).trans h2
  · exact (ho.block (b0 + 4) h3.lt (.inr ((h4 _).2 (.inr (.inr rfl))))).trans h3
theorem ArI.lt {b0 : Nat} {T₀ : Nat → Prop} {s u : ByteArray} {K : List Kp} {w W0 : World} {k : Nat} {T : Nat → Prop} {A : World} (h : ArI b0 T₀ s u K w W0 k T A) : ∀ j, T j → j < A.heap.size := by
  obtain ⟨f, q, E, TI, h1, h2, h3, h4, _⟩ := h
  intro j hj
  rcases (h4 j).1 hj with h | rfl | rfl
  · exact h1.lt j h
  · exact h2.lt
  · exact h3.lt

set_option maxRecDepth 100000 in
set_option maxHeartbeats 4000000 in
theorem paround_any (s u : ByteArray) (lb : Array Value) (K : List Kp) (R : Nat → Prop) (w : World) (hs : s.size ≤ 1000000000) (hu : u.size ≤ 1000000000) (hK : K.length ≤ 20000)
    (hG : Giv Try.prog 89 lb (fun k => #[(pg (K.map (Kp.pc s)) k).val]) K.length R w) (hR : ∀ k, R k → k < w.heap.size) (hO : Ordk s.size u.size 0 0 K) :
    Calls Try.prog 70 #[.string s, .string u, .func (.func 89) #[] lb] w fun e w' => NewE1 w (arl s u 0 0 K) e w' := by
  obtain ⟨b0, hb0⟩ : ∃ b, w.heap.size = b := ⟨_, rfl⟩
  refine (callsIn_wide (n := 0)).1 ?_
  refine callsIn_of_wp_marks Try.func70 rfl trivial ?_ rfl
  simp only [Try.ntmps70, List.size_toArray, List.length_cons, List.length_nil, Nat.reduceAdd, Nat.reduceSub, Array.replicate_succ, Array.replicate_zero, List.push_toArray, List.append_toArray, List.nil_append, List.cons_append]
  obtain ⟨W0, hW0⟩ : ∃ V, ((((((w.alloc (.cells #[.string s] 9)).alloc (.cells #[.string u] 9)).alloc (.cells #[.slice none 0 0] 45)).alloc (.cells #[.int .i64 0] 3)).alloc (.cells #[.int .i64 0] 3)).alloc
    (.cells #[(.func (.func 88) #[] #[.pointer (some ⟨b0 + 1 + 1 + 1, 0, none⟩), .pointer (some ⟨b0 + 1, 0, none⟩), .pointer (some ⟨b0 + 1 + 1 + 1 + 1, 0, none⟩), .pointer (some ⟨b0, 0, none⟩), .pointer (some ⟨b0 + 1 + 1, 0, none⟩)])] 137)) = V := ⟨_, rfl⟩
  have hz0 : W0.heap.size = b0 + 6 := by rw [← hW0, ← hb0]; simp
  have hB0 : Below b0 w W0 := by rw [← hW0, ← hb0]; exact (((((((Below.refl _ _).alloc (Nat.le_refl _) _).alloc (by simp) _).alloc (by simp; omega) _).alloc (by simp; omega) _).alloc (by simp; omega) _).alloc (by simp; omega) _)
  have q0 : Boxed W0 b0 9 (.string s) := by rw [← hW0, ← hb0]; exact (((((Boxed.new _ _ _).alloc _).alloc _).alloc _).alloc _).alloc _
  have q1 : Boxed W0 (b0 + 1) 9 (.string u) := by
    rw [← hW0, ← hb0]
    have := Boxed.new (w.alloc (.cells #[.string s] 9)) 9 (.string u)
    rw [World.size_alloc] at this
    exact (((this.alloc _).alloc _).alloc _).alloc _
  have q2 : Blk W0 (b0 + 2) 45 #[.slice none 0 0] := by
    rw [← hW0, ← hb0]
    have := Blk.new ((w.alloc (.cells #[.string s] 9)).alloc (.cells #[.string u] 9)) 45 #[.slice none 0 0]
    rw [World.size_alloc, World.size_alloc] at this
    exact ((this.alloc _).alloc _).alloc _
  have q3 : Boxed W0 (b0 + 3) 3 (.int .i64 0) := by
    rw [← hW0, ← hb0]
    have := Boxed.new (((w.alloc (.cells #[.string s] 9)).alloc (.cells #[.string u] 9)).alloc (.cells #[.slice none 0 0] 45)) 3 (.int .i64 0)
    rw [World.size_alloc, World.size_alloc, World.size_alloc] at this
    exact (this.alloc _).alloc _
  have q4 : Boxed W0 (b0 + 4) 3 (.int .i64 0) := by
    rw [← hW0, ← hb0]
    have := Boxed.new ((((w.alloc (.cells #[.string s] 9)).alloc (.cells #[.string u] 9)).alloc (.cells #[.slice none 0 0] 45)).alloc (.cells #[.int .i64 0] 3)) 3 (.int .i64 0)
    rw [World.size_alloc, World.size_alloc, World.size_alloc, World.size_alloc] at this
    exact this.alloc _
  have q5 : Boxed W0 (b0 + 5) 137 (.func (.func 88) #[] #[.pointer (some ⟨b0 + 1 + 1 + 1, 0, none⟩), .pointer (some ⟨b0 + 1, 0, none⟩), .pointer (some ⟨b0 + 1 + 1 + 1 + 1, 0, none⟩), .pointer (some ⟨b0, 0, none⟩), .pointer (some ⟨b0 + 1 + 1, 0, none⟩)]) := by
    rw [← hW0]
    have := Boxed.new (((((w.alloc (.cells #[.string s] 9)).alloc (.cells #[.string u] 9)).alloc (.cells #[.slice none 0 0] 45)).alloc (.cells #[.int .i64 0] 3)).alloc (.cells #[.int .i64 0] 3)) 137 (.func (.func 88) #[] #[.pointer (some ⟨b0 + 1 + 1 + 1, 0, none⟩), .pointer (some ⟨b0 + 1, 0, none⟩), .pointer (some ⟨b0 + 1 + 1 + 1 + 1, 0, none⟩), .pointer (some ⟨b0, 0, none⟩), .pointer (some ⟨b0 + 1 + 1, 0, none⟩)])
    rw [World.size_alloc, World.size_alloc, World.size_alloc, World.size_alloc, World.size_alloc, hb0] at this
    exact this
  have hG0 := hG.on (by rw [hb0]; exact hB0)
  obtain ⟨T₀, hT₀⟩ : ∃ T : Nat → Prop, (fun j => j = b0 + 2 ∨ j = b0 + 3 ∨ j = b0 + 4) = T := ⟨_, rfl⟩
  have hT0 : ∀ j, T₀ j ↔ (j = b0 + 2 ∨ j = b0 + 3 ∨ j = b0 + 4) := fun j => by rw [← hT₀]
  have hI0 : ArI b0 T₀ s u K w W0 0 T₀ W0 := ⟨0, 0, [], fun j => j = b0 + 2, ⟨.slice none 0 0, q2, World.ownsRow_nil _ _ _ _, by simp [Value.ownBlock], fun j => by simp [Value.ownBlock]⟩, q3, q4, hT0, by omega, by omega, by simp, by simpa using hO, by simp, hB0, Rnd.refl _ _⟩
  have HW0 := Lib.hid hW0; have HB0 := Lib.hid hb0; have HT0 := Lib.hid hT0; have HI0 := Lib.hid hI0; have HG0 := Lib.hid hG0; have HR := Lib.hid hR
  have Q0 := Lib.hid q0; have Q1 := Lib.hid q1; have Q5 := Lib.hid q5
  clear hT₀ hT0 hI0 hG0 hR q0 q1 q2 q3 q4 q5 hG hO hB0 hW0
  gi_wp2_with fail
  rw [HW0.out]
  refine wpIn_giv (gf := 89) (lb := lb) rfl (enters_of Try.func89 (by kernel_rfl) rfl)
    HG0.out (fun _ => rfl) (ArI b0 T₀ s u K w W0) (fun k T A C hi ho => hi.oth hb0 (by omega) ho) (fun k T A hi => hi.lt)
    T₀ (fun k hk => ⟨by have := (HT0.out k).1 hk; omega, fun h => by have := (HT0.out k).1 hk; have := HR.out k h; omega⟩) HI0.out
    (fun k B => { tmps := #[.string s, .string u, .func (.func 89) #[] lb, .pointer (some ⟨b0, 0, none⟩), .pointer (some ⟨b0 + 1, 0, none⟩), undef, .slice none 0 0, .pointer (some ⟨b0 + 1 + 1, 0, none⟩), .pointer (some ⟨b0 + 1 + 1 + 1, 0, none⟩), .pointer (some ⟨b0 + 1 + 1 + 1 + 1, 0, none⟩), .pointer (some ⟨b0 + 1 + 1 + 1 + 1 + 1, 0, none⟩), .pointer (some ⟨B, 0, none⟩),
      (.func (.func 88) #[] #[.pointer (some ⟨b0 + 1 + 1 + 1, 0, none⟩), .pointer (some ⟨b0 + 1, 0, none⟩), .pointer (some ⟨b0 + 1 + 1 + 1 + 1, 0, none⟩), .pointer (some ⟨b0, 0, none⟩), .pointer (some ⟨b0 + 1 + 1, 0, none⟩)]), .func (.func 89) #[] lb, (pg (K.map (Kp.pc s)) k).val, undef, undef, undef, undef, undef, undef, undef, undef, undef, undef, undef, undef, undef, undef, undef, undef, undef], defers := [] })
    (fun k => (pg (K.map (Kp.pc s)) k).cells) 104 ?assign ?body ?done
  case assign =>
    intro l' k A K hK
    simp only [Pc.val, Pc.cells] at hK ⊢
    gi_wp2
    exact hK
  case body =>
    rintro l' k T B A hk hl hlB hBk hTB hl' hTl hi
    rw [pg_map hk] at hBk ⊢
    obtain ⟨f, q, E, TI, h1, h2, h3, h4, h5, h6, h7, h8, h9, h10, h11⟩ := hi
    rw [List.drop_eq_getElem_cons hk] at h7 h8
    obtain ⟨p, hp⟩ : ∃ p, K[k] = p := ⟨_, rfl⟩
    rw [hp] at h7 h8 hBk ⊢
    obtain ⟨o1, o2, o3, o4, o5⟩ := h8
    have hxs : (s.extract p.f (p.f + p.m)).size = p.m := by rw [cut_size (by omega) o3]; omega
    have hn : ∀ j, j = b0 ∨ j = b0 + 1 ∨ j = b0 + 5 → ¬ T₀ j := fun j hj h => by have := (HT0.out j).1 h; omega
    have r0 : Boxed A b0 9 (.string s) := (h11.block b0 (by omega) (hn _ (.inl rfl))).trans Q0.out
    have r1 : Boxed A (b0 + 1) 9 (.string u) := (h11.block (b0 + 1) (by omega) (hn _ (.inr (.inl rfl)))).trans Q1.out
    have r5 : Boxed A (b0 + 5) 137 (.func (.func 88) #[] #[.pointer (some ⟨b0 + 1 + 1 + 1, 0, none⟩), .pointer (some ⟨b0 + 1, 0, none⟩), .pointer (some ⟨b0 + 1 + 1 + 1 + 1, 0, none⟩), .pointer (some ⟨b0, 0, none⟩), .pointer (some ⟨b0 + 1 + 1, 0, none⟩)]) := (h11.block (b0 + 5) (by omega) (hn _ (.inr (.inr rfl)))).trans Q5.out
    have c5 := r5.cell
    obtain ⟨x, hx⟩ : ∃ x, s.extract p.f (p.f + p.m) = x := ⟨_, rfl⟩
    simp only [Kp.pc, Pc.cells, Pc.val, hx] at hBk ⊢
    rw [hx] at hxs
    obtain ⟨u0, u1, u2, u3, u4⟩ := cells5 hBk
    have CR := Lib.hid (rep_any s u (b0 + 1 + 1 + 1) (b0 + 1) (b0 + 1 + 1 + 1 + 1) b0 (b0 + 1 + 1) b0 f q p.f p.q TI E A hs hu o1 (by omega) o2 (by omega) (by omega) h2 r1 h3 r0 h1 (by omega))
    have H7 := Lib.hid h7; have H10 := Lib.hid h10; have H11 := Lib.hid h11; have H4 := Lib.hid h4; have HBK := Lib.hid hBk; have H2 := Lib.hid h2; have H3 := Lib.hid h3; have HTB := Lib.hid hTB; have H5 := Lib.hid h5; have H6 := Lib.hid h6; have O5 := Lib.hid o5
    have hzA := h11.size
    clear h1 h2 h3 h4 h5 h6 h7 h10 h11 r0 r1 r5 hn hBk hl' hTl hTB hx hp o5
    gi_wp2_with (refine ⟨trivial, rfl, ?_⟩; gi_at_call 88; refine (CallsIn.inRound l' (callsIn_wide.2 CR.out)).mono ?_; rintro e w1 ⟨⟨rv, rfl⟩, ⟨T', hI', hr'⟩, hb'⟩)
    have hT4 : ∀ j, TI j → T j := fun j h => (H4.out j).2 (.inl h)
    have k5 : Blk w1 B 104 #[.int .i64 (p.f : Int), .int .i64 ((p.f + p.m : Nat) : Int), .int .i64 (p.q : Int), .string x, .bool true] := HBK.out.same (hr'.block B HBK.out.lt (fun h => HTB.out (hT4 _ h)))
    have kf : Boxed w1 (b0 + 3) 3 (.int .i64 (f : Int)) := (hr'.block _ H2.out.lt H5.out).trans H2.out
    have kq : Boxed w1 (b0 + 4) 3 (.int .i64 (q : Int)) := (hr'.block _ H3.out.lt H6.out).trans H3.out
    have KW : Hid (∀ V, Below w1.heap.size w1 V → Blk V B 104 #[.int .i64 (p.f : Int), .int .i64 ((p.f + p.m : Nat) : Int), .int .i64 (p.q : Int), .string x, .bool true] ∧ Blk V (b0 + 3) 3 #[.int .i64 (f : Int)] ∧ Blk V (b0 + 4) 3 #[.int .i64 (q : Int)]) := fun V hV =>
      ⟨k5.same (hV.block _ k5.lt), (hV.block _ kf.lt).trans kf, (hV.block _ kq.lt).trans kq⟩
    have HFIN : Hid (∀ V, Below w1.heap.size w1 V → ∃ T'', ArI b0 T₀ s u K w W0 (k + 1) T'' ((V.setCell ⟨b0 + 3, 0, none⟩ (.int .i64 ((p.f + p.m : Nat) : Int))).setCell ⟨b0 + 4, 0, none⟩ (.int .i64 ((p.q + p.m : Nat) : Int))) ∧ Rnd T T'' A ((V.setCell ⟨b0 + 3, 0, none⟩ (.int .i64 ((p.f + p.m : Nat) : Int))).setCell ⟨b0 + 4, 0, none⟩ (.int .i64 ((p.q + p.m : Nat) : Int)))) := fun V hV => by
      have hgr : ∀ j, T' j → TI j ∨ A.heap.size ≤ j := hr'.grew
      have n3 : ¬ T' (b0 + 3) := fun h => (hgr _ h).elim H5.out (fun e => by omega)
      have n4 : ¬ T' (b0 + 4) := fun h => (hgr _ h).elim H6.out (fun e => by omega)
      have ho : ∀ j, j ≠ b0 + 3 → j ≠ b0 + 4 → ((V.setCell ⟨b0 + 3, 0, none⟩ (.int .i64 ((p.f + p.m : Nat) : Int))).setCell ⟨b0 + 4, 0, none⟩ (.int .i64 ((p.q + p.m : Nat) : Int))).heap[j]? = V.heap[j]? := fun j h3 h4 =>
        (Below.heap_setCell _ _ _ j (fun e => h4 (by simpa using e))).trans (Below.heap_setCell _ _ _ j (fun e => h3 (by simpa using e)))
      obtain ⟨m5, mf, mq⟩ := KW.out V hV
      have hz := hV.size
      have hz1 := hr'.size
      have hzs : ((V.setCell ⟨b0 + 3, 0, none⟩ (.int .i64 ((p.f + p.m : Nat) : Int))).setCell ⟨b0 + 4, 0, none⟩ (.int .i64 ((p.q + p.m : Nat) : Int))).heap.size = V.heap.size := by simp [World.setCell]
      obtain ⟨W', hW'⟩ : ∃ W', ((V.setCell ⟨b0 + 3, 0, none⟩ (.int .i64 ((p.f + p.m : Nat) : Int))).setCell ⟨b0 + 4, 0, none⟩ (.int .i64 ((p.q + p.m : Nat) : Int))) = W' := ⟨_, rfl⟩
      have g3 : Boxed W' (b0 + 3) 3 (.int .i64 ((p.f + p.m : Nat) : Int)) := by
        rw [← hW']
        have h1 : Blk (V.setCell ⟨b0 + 3, 0, none⟩ (.int .i64 ((p.f + p.m : Nat) : Int))) (b0 + 3) 3 #[.int .i64 ((p.f + p.m : Nat) : Int)] := by simpa using mf.set 0 (.int .i64 ((p.f + p.m : Nat) : Int))
        exact (Below.heap_setCell _ _ _ (b0 + 3) (fun e => by simp at e)).trans h1
      have g4 : Boxed W' (b0 + 4) 3 (.int .i64 ((p.q + p.m : Nat) : Int)) := by
        rw [← hW']
        have h0 : Blk (V.setCell ⟨b0 + 3, 0, none⟩ (.int .i64 ((p.f + p.m : Nat) : Int))) (b0 + 4) 3 #[.int .i64 (q : Int)] := (Below.heap_setCell _ _ _ (b0 + 4) (fun e => by simp at e)).trans mq
        have h1 : Blk ((V.setCell ⟨b0 + 3, 0, none⟩ (.int .i64 ((p.f + p.m : Nat) : Int))).setCell ⟨b0 + 4, 0, none⟩ (.int .i64 ((p.q + p.m : Nat) : Int))) (b0 + 4) 3 #[.int .i64 ((p.q + p.m : Nat) : Int)] := by simpa using h0.set 0 (.int .i64 ((p.q + p.m : Nat) : Int))
        exact h1
      have hBw : Below b0 w W' := by
        rw [← hW']
        exact ((H10.out.trans (hb'.trans (hV.mono (by omega)))).setCell (p := ⟨b0 + 3, 0, none⟩) (by show b0 ≤ b0 + 3; omega) _).setCell (p := ⟨b0 + 4, 0, none⟩) (by show b0 ≤ b0 + 4; omega) _
      rw [hW'] at ho hzs ⊢
      have hR : Rnd T (fun j => T' j ∨ j = b0 + 3 ∨ j = b0 + 4) A W' := by
        refine ⟨by omega, fun j hj hT => ?_, fun j hj => ?_⟩
        · have ht := fun h => hT ((H4.out j).2 h)
          rw [ho j (fun e => ht (.inr (.inl e))) (fun e => ht (.inr (.inr e))), hV.block j (by omega), hr'.block j hj (fun h => ht (.inl h))]
        · rcases hj with h | h
          · exact (hgr j h).imp (fun h => (H4.out j).2 (.inl h)) id
          · exact .inl ((H4.out j).2 (.inr h))
      refine ⟨fun j => T' j ∨ j = b0 + 3 ∨ j = b0 + 4, ⟨p.f + p.m, p.q + p.m, E ++ gap s u f p.f q p.q, T', ?_, g3, g4, fun j => Iff.rfl, n3, n4, ?_, O5.out, ?_, hBw, H11.out.trans hR⟩, hR⟩
      · refine hI'.keep (fun j hj => ?_)
        rw [ho j (fun e => n3 (e ▸ hj)) (fun e => n4 (e ▸ hj)), hV.block j (hI'.lt j hj)]
      · have := H7.out
        simp only [arl] at this
        rw [List.append_assoc]
        exact this
      · rw [List.length_append]
        have := gap_len s u f p.f q p.q
        omega
    have CE := Lib.hid (fun V => end_any ⟨p.f, ((p.f + p.m : Nat) : Int), p.q, x, true⟩ V (by simp only; omega) (by simp only; omega))
    simp only [Pc.val, hxs] at CE
    obtain ⟨m5, mf, mq⟩ := KW.out w1 (Below.refl _ _)
    obtain ⟨u0, u1, u2, u3, u4⟩ := cells5 m5
    have f3 := mf.frozen 0
    have f4 := mq.frozen 0
    have c3 : w1.cell? ⟨b0 + 3, 0, none⟩ = some (.int .i64 (f : Int)) := by simpa using mf.cell 0
    have c4 : w1.cell? ⟨b0 + 4, 0, none⟩ = some (.int .i64 (q : Int)) := by simpa using mq.cell 0
    have hmx : Try.prog.follows .mixedOrders = true := by kernel_rfl
    clear hI' hr' hb' k5 kf kq m5 mf mq hT4
    gi_region_with_o (first | (refine ⟨trivial, rfl, ?_⟩; gi_at_call 76; refine (CallsIn.inRound l' (callsIn_wide.2 (CE.out _))).mono ?_; rintro e w2 ⟨rfl, b2⟩; have hb2 := (Below.refl w1.heap.size w1).drew.trans b2; obtain ⟨m5, mf, mq⟩ := KW.out w2 hb2; obtain ⟨u0, u1, u2, u3, u4⟩ := cells5 m5; have f3 := mf.frozen 0; have f4 := mq.frozen 0; have c3 : w2.cell? ⟨b0 + 3, 0, none⟩ = some (.int .i64 (f : Int)) := (by simpa using mf.cell 0); have c4 : w2.cell? ⟨b0 + 4, 0, none⟩ = some (.int .i64 (q : Int)) := (by simpa using mq.cell 0)))
    all_goals
      have hfin := HFIN.out w2 hb2
      simp only [Int.natCast_add] at hfin
      exact hfin
  case done =>
    rintro T A hA hi hTw hKK
    obtain ⟨f, q, E, TI, h1, h2, h3, h4, h5, h6, h7, h8, h9, h10, h11⟩ := hi
    rw [List.drop_length] at h7 h8
    obtain ⟨o1, o2⟩ := h8
    have hn : ∀ j, j = b0 ∨ j = b0 + 1 ∨ j = b0 + 5 → ¬ T₀ j := fun j hj h => by have := (HT0.out j).1 h; omega
    have r0 : Boxed A b0 9 (.string s) := (h11.block b0 (by omega) (hn _ (.inl rfl))).trans Q0.out
    have r1 : Boxed A (b0 + 1) 9 (.string u) := (h11.block (b0 + 1) (by omega) (hn _ (.inr (.inl rfl)))).trans Q1.out
    have r5 : Boxed A (b0 + 5) 137 (.func (.func 88) #[] #[.pointer (some ⟨b0 + 1 + 1 + 1, 0, none⟩), .pointer (some ⟨b0 + 1, 0, none⟩), .pointer (some ⟨b0 + 1 + 1 + 1 + 1, 0, none⟩), .pointer (some ⟨b0, 0, none⟩), .pointer (some ⟨b0 + 1 + 1, 0, none⟩)]) := (h11.block (b0 + 5) (by omega) (hn _ (.inr (.inr rfl)))).trans Q5.out
    have c0 := r0.cell
    have c1 := r1.cell
    have c5 := r5.cell
    have CR := Lib.hid (rep_any s u (b0 + 1 + 1 + 1) (b0 + 1) (b0 + 1 + 1 + 1 + 1) b0 (b0 + 1 + 1) b0 f q s.size u.size TI E A hs hu o1 (Nat.le_refl _) o2 (Nat.le_refl _) (by omega) h2 r1 h3 r0 h1 (by omega))
    have h7' : E ++ gap s u f s.size q u.size = arl s u 0 0 K := h7
    have H7 := Lib.hid h7'; have H10 := Lib.hid h10; have HKK := Lib.hid hKK
    have hTI : ¬ TI W0.heap.size := fun h => hTw ((h4 _).2 (.inl h))
    clear h1 h2 h3 h4 h7 h7' h10 h11 hKK r0 r1 r5 hn
    gi_wp2_with (refine ⟨trivial, rfl, ?_⟩; gi_at_call 88; refine (callsIn_wide.2 CR.out).mono ?_; rintro e w1 ⟨⟨rv, rfl⟩, ⟨T', hI', hr'⟩, hb'⟩; rw [H7.out] at hI'; obtain ⟨v', hk', hown', hn', hT'⟩ := hI'; obtain ⟨_, ao, co, rfl, hES⟩ := es_of_own hown'; have c7 : w1.cell? ⟨b0 + 1 + 1, 0, none⟩ = _ := hk'.cell 0; simp only [List.getElem?_toArray, List.getElem?_cons_zero] at c7)
    have hTn : ¬ T' W0.heap.size := fun h => (hr'.grew _ h).elim hTI (fun e => by omega)
    have hd : w1.heap[W0.heap.size]? = some (.deferred (some [])) := (hr'.block _ (by omega) hTI).trans HKK.out
    have hown2 := own_same (C := w1.putObj W0.heap.size (.deferred none)) hown' (fun g hg => World.putObj_heap_other (fun e => hTn (e ▸ (hT' g).2 (.inr hg))))
    obtain ⟨_, a2, c2, heq, hES2⟩ := es_of_own hown2
    cases heq
    have hF : Below w.heap.size w (w1.putObj W0.heap.size (.deferred none)) := by
      rw [hb0]
      exact (H10.out.trans hb').trans ⟨rfl, rfl, rfl, by simp, fun k hk => World.putObj_heap_other (by omega)⟩
    rw [hz0] at hd hES2 hF
    refine ⟨by simp, .inl ⟨_, _, rfl, run_takeDeferred hd, ?_⟩⟩
    exact ⟨_, results_tmp rfl _ _ _, _, _, rfl, hES2, hF⟩

end Go.Proofs.Ytkehgoailhpenaa

/- The contract of the program's Compose. Conditions: texts of at most 1000000 bytes, lists of at most 1000 edits. -/
namespace Go.Proofs.Ytkehgoailhpenaa
open Go.RowKit Go.Shelf
set_option linter.unusedVariables false

/-- The error of a composition, and its edits. -/
def cmE (s : ByteArray) (es1 es2 : List Er) : Int :=
  if vErr (s.size : Int) es1 = 0 then (if vErr ((apS s es1).size : Int) es2 = 0 then (if 64 < (cmpl (sb s) (ees es1) (ees es2)).length then 4 else 0) else vErr ((apS s es1).size : Int) es2) else vErr (s.size : Int) es1
def cmS (s : ByteArray) (es1 es2 : List Er) : List Er := if cmE s es1 es2 = 0 then ers (cmpl (sb s) (ees es1) (ees es2)) else []
theorem ers_ees {l : List Er} (h : ∀ e ∈ l, 0 ≤ e.f ∧ 0 ≤ e.t) : ers (ees l) = l := by
  unfold ers ees
  rw [List.map_map]
  conv => rhs; rw [← List.map_id l]
  refine List.map_congr_left fun e he => ?_
  obtain ⟨f, t, x⟩ := e
  obtain ⟨h1, h2⟩ := h _ he
  simp only at h1 h2
  simp only [Function.comp, er, Er.ee, bs_sb, id]
  congr 1 <;> omega
theorem arl_pos {s u : ByteArray} : ∀ {K : List Kp} {f q : Nat}, ∀ e ∈ arl s u f q K, 0 ≤ e.f ∧ 0 ≤ e.t := by
  have hg : ∀ f t q r, ∀ e ∈ gap s u f t q r, 0 ≤ e.f ∧ 0 ≤ e.t := by
    intro f t q r e he
    unfold gap at he
    split at he
    · simp at he
    · simp only [List.mem_singleton] at he
      subst he
      exact ⟨by simp only; omega, by simp only; omega⟩
  intro K
  induction K with
  | nil => intro f q e he; exact hg _ _ _ _ e he
  | cons p K ih =>
    intro f q e he
    simp only [arl, List.mem_append] at he
    exact he.elim (hg _ _ _ _ e) (ih e)
theorem apS_sb {s : ByteArray} {es : List Er} (h : vErr (s.size : Int) es = 0) : sb (apS s es) = appl (sb s) 0 (ees es) := apS_ok h

set_option maxRecDepth 100000 in
set_option maxHeartbeats 4000000 in
theorem pcompose_any (s : ByteArray) (a b : Option Addr) (c1 c2 : Nat) (es1 es2 : List Er) (w : World) (hs : s.size ≤ 1000000) (ht : (apS s es1).size ≤ 1000000) (hu : (apS (apS s es1) es2).size ≤ 1000000) (hn1 : es1.length ≤ 1000) (hn2 : es2.length ≤ 1000)
    (hf1 : ∀ e ∈ es1, e.Fit) (hf2 : ∀ e ∈ es2, e.Fit) (hS1 : ES w.heap.size w a c1 es1) (hS2 : ES w.heap.size w b c2 es2) :
    Calls Try.prog 51 #[.string s, .slice a es1.length c1, .slice b es2.length c2] w fun e w' => NewES w (cmS s es1 es2) (cmE s es1 es2) e w' := by
  have A1 := papply_any s a c1 es1 w (by omega) hn1 hf1 hS1
  obtain ⟨t, htt⟩ : ∃ t, apS s es1 = t := ⟨_, rfl⟩
  obtain ⟨u, huu⟩ : ∃ u, apS t es2 = u := ⟨_, rfl⟩
  have A2 := fun W (hW : Below w.heap.size w W) => papply_any t b c2 es2 W (by rw [← htt]; omega) hn2 hf2 (hS2.on hW)
  obtain ⟨v1, hv1⟩ : ∃ v, vErr (s.size : Int) es1 = v := ⟨_, rfl⟩
  obtain ⟨v2, hv2⟩ : ∃ v, vErr (t.size : Int) es2 = v := ⟨_, rfl⟩
  rw [htt] at ht hu
  rw [huu] at hu
  simp only [huu, hv2] at A2
  rw [htt, hv1] at A1
  obtain ⟨n1, hl1⟩ : ∃ n, es1.length = n := ⟨_, rfl⟩
  obtain ⟨n2, hl2⟩ : ∃ n, es2.length = n := ⟨_, rfl⟩
  simp only [hl2] at A2
  rw [hl1] at A1
  rw [hl1, hl2]
  obtain ⟨E, hE⟩ : ∃ E, cmE s es1 es2 = E := ⟨_, rfl⟩
  obtain ⟨C, hC⟩ : ∃ C, cmS s es1 es2 = C := ⟨_, rfl⟩
  rw [hE, hC]
  have hE2 := hE
  unfold cmE at hE2
  rw [hv1, htt, hv2] at hE2
  have CA1 := Lib.hid A1; have CA2 := Lib.hid A2
  clear A1 A2
  by_cases h1 : v1 = 0
  · subst h1
    rw [if_pos rfl] at hE2
    by_cases h2 : v2 = 0
    · subst h2
      rw [if_pos rfl] at hE2
      obtain ⟨K, k1, k2, k3⟩ := kept_comp (s := s) (t := t) (u := u) hv1 hv2 (by rw [← htt]; exact apS_ok hv1) (by rw [← huu]; exact apS_ok hv2)
      have hKl : K.length ≤ 20000 := by
        have h3 := congrArg List.length k1
        rw [List.length_map] at h3
        have h4 := List.length_filter_le (·.k) (kbl (prl s 0 0 es1) (prl t 0 0 es2))
        rw [kbl_len, prl_len, prl_len, hl1, hl2] at h4
        have g1 := (vErr_ok hv1).1
        have g2 := (vErr_ok hv2).1
        have h5 : (2 * n2 + 1) * (2 * n1 + 1) ≤ 129 * 129 := Nat.mul_le_mul (by omega) (by omega)
        omega
      have hcm : arl s u 0 0 K = ers (cmpl (sb s) (ees es1) (ees es2)) := by rw [← k3, ers_ees arl_pos]
      obtain ⟨D, hD⟩ : ∃ D, arl s u 0 0 K = D := ⟨_, rfl⟩
      have hDl : (cmpl (sb s) (ees es1) (ees es2)).length = D.length := by rw [← ers_len, ← hcm, hD]
      rw [hDl] at hE2
      have hC2 : C = if E = 0 then D else [] := by rw [← hC]; unfold cmS; rw [hE, ← hcm, hD]
      have hx1 : ∀ e ∈ es1, e.x.size ≤ 100000 := fun e he => (hf1 e he).x
      have hx2 : ∀ e ∈ es2, e.x.size ≤ 100000 := fun e he => (hf2 e he).x
      have HG : Hid (∀ W, Below w.heap.size w W → ∀ V, ((((W.alloc (.cells #[.string s] 9)).alloc (.cells #[.slice a n1 c1] 45)).alloc (.cells #[.string t] 9)).alloc (.cells #[.slice b n2 c2] 45)) = V →
          Calls Try.prog 70 #[.string s, .string u, .func (.func 89) #[] #[.pointer (some ⟨W.heap.size + 2, 0, none⟩), .pointer (some ⟨W.heap.size + 3, 0, none⟩), .pointer (some ⟨W.heap.size, 0, none⟩), .pointer (some ⟨W.heap.size + 1, 0, none⟩)]] V fun e w' => ∃ ad cd, e = .returned (.slice ad D.length cd) ∧ ES w'.heap.size w' ad cd D ∧ Below w.heap.size w w') := fun W hW V hV => by
        have hVs : V.heap.size = W.heap.size + 4 := by rw [← hV]; simp
        have hB : Below W.heap.size W V := by rw [← hV]; exact ((((Below.refl _ _).alloc (Nat.le_refl _) _).alloc (by simp) _).alloc (by simp; omega) _).alloc (by simp; omega) _
        have q0 : Boxed V W.heap.size 9 (.string s) := by rw [← hV]; exact (((Boxed.new _ _ _).alloc _).alloc _).alloc _
        have q1 : Boxed V (W.heap.size + 1) 45 (.slice a n1 c1) := by
          rw [← hV]
          have := Boxed.new (W.alloc (.cells #[.string s] 9)) 45 (.slice a n1 c1)
          rw [World.size_alloc] at this
          exact (this.alloc _).alloc _
        have q2 : Boxed V (W.heap.size + 2) 9 (.string t) := by
          rw [← hV]
          have := Boxed.new ((W.alloc (.cells #[.string s] 9)).alloc (.cells #[.slice a n1 c1] 45)) 9 (.string t)
          rw [World.size_alloc, World.size_alloc] at this
          exact this.alloc _
        have q3 : Boxed V (W.heap.size + 3) 45 (.slice b n2 c2) := by
          rw [← hV]
          have := Boxed.new (((W.alloc (.cells #[.string s] 9)).alloc (.cells #[.slice a n1 c1] 45)).alloc (.cells #[.string t] 9)) 45 (.slice b n2 c2)
          rw [World.size_alloc, World.size_alloc, World.size_alloc] at this
          exact this
        have hwV : Below w.heap.size w V := hW.trans (hB.mono hW.size)
        have hg := kb_giv s t (W.heap.size + 2) (W.heap.size + 3) W.heap.size (W.heap.size + 1) a b c1 c2 es1 es2 V (by omega) (by omega) hv1 hv2 hx1 hx2 q2 (by rw [hl2]; exact q3) q0 (by rw [hl1]; exact q1) (hS1.on hwV) (hS2.on hwV)
        have hkb : KB s t es1 es2 = K.map (Kp.pc s) := k1
        rw [hkb, List.length_map] at hg
        have hRl : ∀ (x : Option Addr) (cx : Nat) (es : List Er), ES V.heap.size V x cx es → ∀ k, Rl x es.length k → k < V.heap.size := by
          intro x cx es h k hk
          obtain ⟨h0, off, ho⟩ := hk
          rcases h.cells with h3 | ⟨b', off', e1, e2, _⟩
          · omega
          · rw [ho] at e1; cases e1; exact e2
        have := paround_any s u _ K _ V (by omega) (by omega) hKl hg (by
          rintro k (rfl | rfl | h | h)
          · omega
          · omega
          · exact hRl a c1 es1 (hS1.on hwV) k h
          · exact hRl b c2 es2 (hS2.on hwV) k h) k2
        rw [hD] at this
        refine this.mono ?_
        rintro e w' ⟨ad, cd, rfl, hES, hb⟩
        exact ⟨ad, cd, rfl, hES, hwV.trans (hb.mono hwV.size)⟩
      have hdn : D.length ≤ 1000000 := by have := arl_len (s := s) (u := u) (K := K) (f := 0) (q := 0); rw [hD] at this; omega
      have HC := Lib.hid hC2; have HE := Lib.hid hE2
      clear hv1 hv2 hE hC hD hDl hcm hC2 k1 k2 k3 hx1 hx2 hf1 hf2 hS1 hS2 hE2 htt huu
      by_cases hlen : 64 < D.length
      · have hlen' : (64 : Int) < (D.length : Int) := by omega
        go_enter Try.func51, Try.ntmps51
        go_wp2_with fail
        refine CA1.out.mono ?_
        rintro e w1 ⟨rfl, b1⟩
        have B1 := Lib.hid b1
        clear b1
        go_wp2_with fail
        refine (CA2.out w1 B1.out).mono ?_
        rintro e w2 ⟨rfl, b2⟩
        have B2 := Lib.hid (B1.out.trans (b2.mono B1.out.size))
        clear b2
        go_wp2_with fail
        refine (kept_any s t a b n1 c1 n2 c2 w2).mono ?_
        rintro e w3 ⟨rfl, hw3⟩
        have CG := Lib.hid (HG.out w2 B2.out w3 hw3.symm)
        clear hw3
        go_wp2_with fail
        refine CG.out.mono ?_
        rintro e w4 ⟨ad, cd, rfl, hES, hb⟩
        have HF := Lib.hid (And.intro hES hb)
        clear hES hb
        go_wp2_with fail
        go_ret2
        have hE := HE.out
        rw [if_pos hlen] at hE
        have hC := HC.out
        rw [← hE, if_neg (by decide)] at hC
        rw [hC, ← hE]
        exact ⟨none, 0, rfl, ES.none _ _, HF.out.2⟩
      · have hlen' : ¬ (64 : Int) < (D.length : Int) := by omega
        go_enter Try.func51, Try.ntmps51
        go_wp2_with fail
        refine CA1.out.mono ?_
        rintro e w1 ⟨rfl, b1⟩
        have B1 := Lib.hid b1
        clear b1
        go_wp2_with fail
        refine (CA2.out w1 B1.out).mono ?_
        rintro e w2 ⟨rfl, b2⟩
        have B2 := Lib.hid (B1.out.trans (b2.mono B1.out.size))
        clear b2
        go_wp2_with fail
        refine (kept_any s t a b n1 c1 n2 c2 w2).mono ?_
        rintro e w3 ⟨rfl, hw3⟩
        have CG := Lib.hid (HG.out w2 B2.out w3 hw3.symm)
        clear hw3
        go_wp2_with fail
        refine CG.out.mono ?_
        rintro e w4 ⟨ad, cd, rfl, hES, hb⟩
        have HF := Lib.hid (And.intro hES hb)
        clear hES hb
        go_wp2_with fail
        go_ret2
        have hE := HE.out
        rw [if_neg hlen] at hE
        have hC := HC.out
        rw [← hE, if_pos rfl] at hC
        rw [hC, ← hE]
        exact ⟨ad, cd, rfl, HF.out.1, HF.out.2⟩
    · rw [if_neg h2] at hE2
      have hC2 : C = [] := by rw [← hC]; unfold cmS; rw [hE, ← hE2, if_neg h2]
      have HC := Lib.hid hC2; have HE := Lib.hid hE2
      have hq : (v2 != 0) = true := by simp [h2]
      clear hv1 hv2 hE hC hC2 hf1 hf2 hS1 hS2 hE2 htt huu
      go_enter Try.func51, Try.ntmps51
      go_wp2_with fail
      refine CA1.out.mono ?_
      rintro e w1 ⟨rfl, b1⟩
      have B1 := Lib.hid b1
      clear b1
      go_wp2_with fail
      refine (CA2.out w1 B1.out).mono ?_
      rintro e w2 ⟨rfl, b2⟩
      have B2 := Lib.hid (B1.out.trans (b2.mono B1.out.size))
      clear b2
      go_wp2_with fail
      go_ret2
      rw [HC.out, ← HE.out]
      exact ⟨none, 0, rfl, ES.none _ _, B2.out⟩
  · rw [if_neg h1] at hE2
    have hC2 : C = [] := by rw [← hC]; unfold cmS; rw [hE, ← hE2, if_neg h1]
    have HC := Lib.hid hC2; have HE := Lib.hid hE2
    have hq : (v1 != 0) = true := by simp [h1]
    clear hv1 hv2 hE hC hC2 hf1 hf2 hS1 hS2 hE2 htt huu
    go_enter Try.func51, Try.ntmps51
    go_wp2_with fail
    refine CA1.out.mono ?_
    rintro e w1 ⟨rfl, b1⟩
    have B1 := Lib.hid b1
    clear b1
    go_wp2_with fail
    go_ret2
    rw [HC.out, ← HE.out]
    exact ⟨none, 0, rfl, ES.none _ _, B1.out⟩

end Go.Proofs.Ytkehgoailhpenaa

/- The contracts of the reference's Valid, Apply and Same (at equal lists). Conditions: texts of at most 10000000 bytes, lists of at most 1000 edits. -/
namespace Go.Proofs.Ytkehgoailhpenaa
open Go.RowKit Go.Shelf
set_option linter.unusedVariables false

/-- Where the edit before ends. -/
def endB (es : List Er) (k : Nat) : Int := if k = 0 then 0 else (eg es (k - 1)).t

set_option maxRecDepth 100000 in
set_option maxHeartbeats 4000000 in
theorem rvalid_any (s : ByteArray) (a : Option Addr) (cap : Nat) (es : List Er) (w : World) (hs : s.size ≤ 10000000) (hn : es.length ≤ 1000) (hfit : ∀ e ∈ es, e.Fit) (hS : ES w.heap.size w a cap es) :
    Calls Try.prog 63 #[.string s, .slice a es.length cap] w fun e w' => e = .returned (.int .i64 (vErr (s.size : Int) es)) ∧ Below w.heap.size w w' := by
  obtain ⟨n, hn'⟩ : ∃ n, es.length = n := ⟨_, rfl⟩
  obtain ⟨R, hR⟩ : ∃ R, vErr (s.size : Int) es = R := ⟨_, rfl⟩
  have hcap := hS.le
  rw [hR]
  rw [hn'] at hn hcap ⊢
  obtain ⟨B, hB⟩ : ∃ B, w.heap.size = B := ⟨_, rfl⟩
  by_cases hlim : 64 < n
  · have hl2 : (64 : Int) < (n : Int) := by omega
    have hRv : R = 4 := by rw [← hR]; unfold vErr; rw [if_pos (by omega)]
    clear hS hfit hR
    go_enter Try.func63, Try.ntmps63
    go_wp2
    go_ret
    exact ⟨by first | rfl | (rw [hRv]; rfl), Below.refl _ _⟩
  · have hl2 : ¬ (64 : Int) < (n : Int) := by omega
    have hRv : vE (s.size : Int) 0 es = R := by rw [← hR]; unfold vErr; rw [if_neg (by omega)]
    obtain ⟨b, off, hab, hcell⟩ := hS.cells.core
    rw [hn'] at hab hcell
    rw [hB] at hab
    have HE := Lib.hid hn'; have HAB := Lib.hid hab; have HC := Lib.hid hcell; have HB := Lib.hid hB; have HF := Lib.hid hfit
    have H0 : Hid (vE (s.size : Int) (endB es 0) (es.drop 0) = R) := hRv
    clear hS hfit hR hRv hab hcell hB hn'
    go_enter Try.func63, Try.ntmps63
    go_wp2_with fail
    go_loopw [5] (fun q wr => ∃ (k : Nat), k ≤ n ∧ q = .int .i64 (k : Int) ∧ Hid (∀ j, j < k → 0 ≤ (eg es j).t) ∧ Hid (vE (s.size : Int) (endB es k) (es.drop k) = R) ∧ Hid (Below B w wr)) (fun q _ => n - (intOf q).toNat)
    case atStart => exact ⟨0, by omega, rfl, Lib.hid (fun j h => by omega), H0, Below.refl _ _⟩
    case round =>
      obtain ⟨k, hk, rfl, HZ, HI, HR⟩ := hrel
      by_cases hlt : k < n
      · obtain ⟨ha, hbB⟩ := HAB.out.resolve_left (by omega)
        subst ha
        have hkl : k < es.length := by rw [HE.out]; exact hlt
        obtain ⟨c0, c1, c2⟩ := HC.out k hlt wr (HR.out.block b hbB)
        have hkk : (k : Int) < (n : Int) := by omega
        have hstep := HI.out
        rw [eg_drop hkl] at hstep
        simp only [vE] at hstep
        obtain ⟨fit1, fit2, fit3, fit4, _⟩ := HF.out _ (eg_mem hkl)
        have hend : endB es (k + 1) = (eg es k).t := by unfold endB; rw [if_neg (by omega)]; rfl
        obtain ⟨p, hp⟩ : ∃ p, endB es k = p := ⟨_, rfl⟩
        obtain ⟨x, hx⟩ : ∃ x, (eg es k).f = x := ⟨_, rfl⟩
        obtain ⟨y, hy⟩ : ∃ y, (eg es k).t = y := ⟨_, rfl⟩
        rw [hx, hy, hp] at hstep
        rw [hx] at c0 fit1 fit2
        rw [hy] at c1 fit3 fit4 hend
        have HY := Lib.hid hy; have HEND := Lib.hid hend; have HPP := Lib.hid hp
        clear hx hy c2 hend hp
        by_cases h1 : x < 0
        · have hr : R = 5 := by rw [← hstep, if_pos (.inl h1)]
          have hd : decide (x < 0) = true := by simp [h1]
          clear hstep
          go_wp2_with fail
          go_quiet (fail)
          go_wp2
          go_ret
          exact ⟨by first | rfl | (rw [hr]; rfl), by rw [HB.out]; first | exact below_drewN HR.out _ | exact below_drewN (below_drewN HR.out _) _⟩
        · have hd : decide (x < 0) = false := by simp; omega
          by_cases h2 : y < x
          · have hr : R = 5 := by rw [← hstep, if_pos (.inr (.inl h2))]
            have hd2 : decide (y < x) = true := by simp [h2]
            clear hstep
            go_wp2_with fail
            go_quiet (fail)
            go_wp2
            go_ret
            exact ⟨by first | rfl | (rw [hr]; rfl), by rw [HB.out]; first | exact below_drewN HR.out _ | exact below_drewN (below_drewN HR.out _) _⟩
          · have hd2 : decide (y < x) = false := by simp; omega
            by_cases h3 : (s.size : Int) < y
            · have hr : R = 5 := by rw [← hstep, if_pos (.inr (.inr h3))]
              have hd3 : decide ((s.size : Int) < y) = true := by simp [h3]
              clear hstep
              go_wp2_with fail
              go_quiet (fail)
              go_wp2
              go_ret
              exact ⟨by first | rfl | (rw [hr]; rfl), by rw [HB.out]; first | exact below_drewN HR.out _ | exact below_drewN (below_drewN HR.out _) _⟩
            · have hd3 : decide ((s.size : Int) < y) = false := by simp; omega
              rw [if_neg (by omega)] at hstep
              have HZ2 : Hid (∀ j, j < k + 1 → 0 ≤ (eg es j).t) := by
                intro j hj
                by_cases e : j = k
                · subst e; rw [HY.out]; omega
                · exact HZ.out j (by omega)
              by_cases hk0 : 0 < k
              · obtain ⟨j, rfl⟩ : ∃ j, k = j + 1 := ⟨k - 1, by omega⟩
                have hpz := HZ.out j (by omega)
                have hpe : p = (eg es j).t := by rw [← HPP.out]; unfold endB; rw [if_neg (by omega)]; rfl
                obtain ⟨_, d1, _⟩ := HC.out j (by omega) wr (HR.out.block b hbB)
                have hpfit := (HF.out _ (eg_mem (es := es) (k := j) (by omega)))
                obtain ⟨_, _, pf3, pf4, _⟩ := hpfit
                rw [← hpe] at d1 hpz pf3 pf4
                have hk1 : (0 : Int) < ((j + 1 : Nat) : Int) := by omega
                have hdk : decide ((0 : Int) < ((j + 1 : Nat) : Int)) = true := by simp only [decide_eq_true_eq]; omega
                have hj1 : IntKind.i64.wrap (((j + 1 : Nat) : Int) - 1) = (j : Int) := by simp [IntKind.wrap, IntKind.signed, IntKind.bits]; omega
                have hj2 : (j : Int) < (n : Int) := by omega
                have HPE := Lib.hid hpe
                clear hpe
                by_cases h4 : x < p
                · have hr : R = 1 := by rw [← hstep, if_pos h4]
                  have hd4 : decide (x < p) = true := by simp [h4]
                  clear hstep
                  go_wp2_with fail
                  go_quiet (fail)
                  go_wp2_with fail
                  go_quiet (fail)
                  go_wp2
                  go_ret
                  exact ⟨by first | rfl | (rw [hr]; rfl), by rw [HB.out]; first | exact below_drewN HR.out _ | exact below_drewN (below_drewN HR.out _) _⟩
                · have hd4 : decide (x < p) = false := by simp; omega
                  rw [if_neg h4] at hstep
                  have HS : Hid (vE (s.size : Int) (endB es (j + 1 + 1)) (es.drop (j + 1 + 1)) = R) := by rw [HEND.out]; exact hstep
                  clear hstep
                  go_wp2_with fail
                  go_quiet (fail)
                  go_wp2_with fail
                  go_quiet (fail)
                  go_wp2
                  go_roundw
                  case rel => exact ⟨j + 1 + 1, by omega, by go_num, HZ2, HS, below_drewN HR.out _⟩
                  case measure => simp [intOf]; omega
              · obtain rfl : k = 0 := by omega
                have hp0 : p = 0 := by rw [← HPP.out]; rfl
                rw [if_neg (by omega)] at hstep
                have hk1 : ¬ (0 : Int) < ((0 : Nat) : Int) := by omega
                have HS : Hid (vE (s.size : Int) (endB es (0 + 1)) (es.drop (0 + 1)) = R) := by rw [HEND.out]; exact hstep
                clear hstep hp0
                simp only [Nat.zero_mul, Nat.add_zero] at c0 c1
                have hkk0 : (0 : Int) < (n : Int) := by omega
                go_wp2_with fail
                go_quiet (fail)
                go_wp2_with fail
                go_quiet (fail)
                go_wp2
                go_roundw
                case rel => exact ⟨0 + 1, by omega, by go_num, HZ2, HS, below_drewN HR.out _⟩
                case measure => simp [intOf]; omega
      · obtain rfl : n = k := by omega
        have hr : R = 0 := by rw [← HI.out, List.drop_eq_nil_of_le (by rw [HE.out]; omega)]; rfl
        go_wp2
        go_ret
        exact ⟨by first | rfl | (rw [hr]; rfl), by rw [HB.out]; exact HR.out⟩

set_option maxRecDepth 100000 in
set_option maxHeartbeats 2000000 in
/-- Same, at two lists of the same edits. -/
theorem same_any (a a' : Option Addr) (cap cap' : Nat) (es : List Er) (w : World) (hn : es.length ≤ 1000) (hc : ES w.heap.size w a cap es) (hc' : ES w.heap.size w a' cap' es) :
    Calls Try.prog 26 #[.slice a es.length cap, .slice a' es.length cap'] w fun e w' => e = .returned (.bool true) ∧ Below w.heap.size w w' := by
  obtain ⟨n, hn'⟩ : ∃ n, es.length = n := ⟨_, rfl⟩
  obtain ⟨B, hB⟩ : ∃ B, w.heap.size = B := ⟨_, rfl⟩
  obtain ⟨b, off, hab, hcell⟩ := hc.cells.core
  obtain ⟨b', off', hab', hcell'⟩ := hc'.cells.core
  have hcap := hc.le
  have hcap' := hc'.le
  rw [hB] at hab hab'
  rw [hn'] at hab hab' hcell hcell' hcap hcap' hn ⊢
  have HAB := Lib.hid hab; have HC := Lib.hid hcell; have HAB' := Lib.hid hab'; have HC' := Lib.hid hcell'; have HB := Lib.hid hB
  have hq0 : ((n : Int) != (n : Int)) = false := by simp
  clear hc hc' hab hcell hab' hcell' hB
  go_enter Try.func26, Try.ntmps26
  go_wp2_with fail
  go_loopw [5] (fun q wr => ∃ k : Nat, k ≤ n ∧ q = .int .i64 (k : Int) ∧ Hid (Below B w wr)) (fun q _ => n - (intOf q).toNat)
  case atStart => exact ⟨0, by omega, rfl, Below.refl _ _⟩
  case round =>
    obtain ⟨k, hk, rfl, HR⟩ := hrel
    by_cases hlt : k < n
    · obtain ⟨ha, hbB⟩ := HAB.out.resolve_left (by omega)
      obtain ⟨ha', hbB'⟩ := HAB'.out.resolve_left (by omega)
      subst ha ha'
      obtain ⟨c0, c1, c2⟩ := HC.out k hlt wr (HR.out.block b hbB)
      obtain ⟨d0, d1, d2⟩ := HC'.out k hlt wr (HR.out.block b' hbB')
      have hkk : (k : Int) < (n : Int) := by omega
      go_wp2_with fail
      go_quiet (fail)
      go_wp2
      go_roundw
      case rel => exact ⟨k + 1, by omega, by go_num, below_drewN HR.out _⟩
      case measure => simp [intOf]; omega
    · obtain rfl : n = k := by omega
      go_wp2
      go_ret
      exact ⟨rfl, by rw [HB.out]; exact HR.out⟩

/-- The reference's text so far. -/
theorem sb_empty : sb ⟨#[]⟩ = [] := rfl
theorem sb_app (s t : ByteArray) : sb (s ++ t) = sb s ++ sb t := sb_add s t

set_option maxRecDepth 100000 in
set_option maxHeartbeats 4000000 in
theorem rapply_any (s : ByteArray) (a : Option Addr) (cap : Nat) (es : List Er) (w : World) (hs : s.size ≤ 10000000) (hn : es.length ≤ 1000) (hfit : ∀ e ∈ es, e.Fit) (hS : ES w.heap.size w a cap es) :
    Calls Try.prog 34 #[.string s, .slice a es.length cap] w fun e w' => e = .returned (.tuple #[.string (apS s es), .int .i64 (vErr (s.size : Int) es)]) ∧ Below w.heap.size w w' := by
  have CV := Lib.hid (rvalid_any s a cap es w hs hn hfit hS)
  obtain ⟨n, hn'⟩ : ∃ n, es.length = n := ⟨_, rfl⟩
  obtain ⟨R, hR⟩ : ∃ R, apS s es = R := ⟨_, rfl⟩
  have hcap := hS.le
  rw [hR]
  rw [hn'] at hn hcap CV ⊢
  obtain ⟨B, hB⟩ : ∃ B, w.heap.size = B := ⟨_, rfl⟩
  by_cases hv : vErr (s.size : Int) es = 0
  · obtain ⟨hlim, hvld, hpos⟩ := vErr_ok hv
    have hv0 : vE (s.size : Int) 0 es = 0 := by have := hv; unfold vErr at this; rwa [if_neg (by omega)] at this
    have hRv : sb R = appl (sb s) 0 (ees es) := by rw [← hR]; exact apS_ok hv
    obtain ⟨b, addr, hab, hcell⟩ := hS.cells.core
    rw [hn'] at hab hcell hlim
    rw [hB] at hab CV
    rw [hv] at CV ⊢
    have HE := Lib.hid hn'; have HAB := Lib.hid hab; have HC := Lib.hid hcell; have HB := Lib.hid hB; have HF := Lib.hid hfit; have HP := Lib.hid hpos
    have H0 : Hid (sb R = sb ⟨#[]⟩ ++ appl (sb s) 0 (ees (es.drop 0))) := hRv
    have HV0 : Hid (vE (s.size : Int) ((0 : Nat) : Int) (es.drop 0) = 0) := hv0
    clear hS hfit hR hRv hab hcell hB hn' hpos hv hv0 hvld
    go_enter Try.func34, Try.ntmps34
    go_wp2_with fail
    refine CV.out.mono ?_
    rintro e w0 ⟨rfl, hb0⟩
    have HB0 := Lib.hid hb0
    clear hb0 CV
    go_wp2_with fail
    go_loopw [7, 8, 9] (fun u v q wr => ∃ (k p : Nat) (z : ByteArray), k ≤ n ∧ p ≤ s.size ∧ z.size ≤ 10100000 * k ∧ u = .string z ∧ v = .int .i64 (p : Int) ∧ q = .int .i64 (k : Int) ∧ Hid (sb R = sb z ++ appl (sb s) p (ees (es.drop k))) ∧ Hid (vE (s.size : Int) (p : Int) (es.drop k) = 0) ∧ Hid (Below B w wr)) (fun _ _ q _ => n - (intOf q).toNat)
    case atStart => exact ⟨0, 0, ⟨#[]⟩, by omega, by omega, by simp [ByteArray.size], rfl, rfl, rfl, H0, HV0, HB0.out⟩
    case round =>
      obtain ⟨k, p, z, hk, hp, hz, rfl, rfl, rfl, HI, HV, HR⟩ := hrel
      by_cases hlt : k < n
      · obtain ⟨ha, hbB⟩ := HAB.out.resolve_left (by omega)
        subst ha
        have hkl : k < es.length := by rw [HE.out]; exact hlt
        obtain ⟨c0, c1, c2⟩ := HC.out k hlt wr (HR.out.block b hbB)
        have hkk : (k : Int) < (n : Int) := by omega
        have hstep := HV.out
        have hsb := HI.out
        rw [eg_drop hkl] at hstep hsb
        obtain ⟨hd0, hd1, hd2⟩ := HP.out _ (eg_mem hkl)
        have hxl := (HF.out _ (eg_mem hkl)).x
        rw [ees_cons] at hsb
        simp only [vE, appl, Er.ee] at hstep hsb
        obtain ⟨x, hx⟩ : ∃ x : Nat, (eg es k).f = (x : Int) := ⟨(eg es k).f.toNat, by omega⟩
        obtain ⟨y, hy⟩ : ∃ y : Nat, (eg es k).t = (y : Int) := ⟨(eg es k).t.toNat, by omega⟩
        obtain ⟨t, ht⟩ : ∃ t, (eg es k).x = t := ⟨_, rfl⟩
        rw [hx, hy, ht] at hsb
        rw [hx, hy] at hstep
        rw [hx] at c0 hd0 hd1
        rw [hy] at c1 hd1 hd2
        rw [ht] at c2 hxl
        simp only [Int.toNat_natCast] at hsb
        rw [if_neg (by omega)] at hstep
        by_cases hfx : (x : Int) < (p : Int)
        · rw [if_pos hfx] at hstep; omega
        rw [if_neg hfx] at hstep
        have hxp : (p : Int) ≤ (x : Int) := by omega
        have hxs : (x : Int) ≤ (s.size : Int) := by omega
        have hzx : (s.extract p x).size = x - p := by rw [ByteArray.size_extract]; omega
        have hz2 : (z ++ s.extract p x).size = z.size + (x - p) := by rw [ByteArray.size_append, hzx]
        have hs1 : z.size + (s.extract p x).size ≤ 9223372036854775807 := by omega
        have hs2 : (z ++ s.extract p x).size + t.size ≤ 9223372036854775807 := by omega
        have HS : Hid (sb R = sb (z ++ s.extract p x ++ t) ++ appl (sb s) y (ees (es.drop (k + 1)))) := Lib.hid (by
          rw [hsb, sb_app, sb_app, sb_cut]; simp)
        have HV2 : Hid (vE (s.size : Int) (y : Int) (es.drop (k + 1)) = 0) := hstep
        have hz3 : (z ++ s.extract p x ++ t).size ≤ 10100000 * (k + 1) := by rw [ByteArray.size_append, hz2]; omega
        clear hstep hsb hx hy ht
        go_wp2_with fail
        go_quiet (fail)
        go_wp2
        go_roundw
        case rel => exact ⟨k + 1, y, _, by omega, by omega, hz3, rfl, rfl, by go_num, HS, HV2, below_drewN HR.out _⟩
        case measure => simp [intOf]; omega
      · obtain rfl : n = k := by omega
        have hr := HI.out
        rw [List.drop_eq_nil_of_le (by rw [HE.out]; omega)] at hr
        have hRR : z ++ s.extract p s.size = R := by
          apply sb_inj
          rw [hr, sb_app, sb_cut]
          simp only [ees, List.map_nil, appl]
          rw [List.take_of_length_le (by rw [List.length_drop, sb_len]; exact Nat.le_refl _)]
        have hpz : (p : Int) ≤ (s.size : Int) := by omega
        have hzx : (s.extract p s.size).size = s.size - p := by rw [ByteArray.size_extract]; omega
        have hs1 : z.size + (s.extract p s.size).size ≤ 9223372036854775807 := by omega
        have HRR := Lib.hid hRR
        clear hr hRR
        go_wp2
        go_ret2
        exact ⟨by rw [← HRR.out]; rfl, by rw [HB.out]; exact HR.out⟩
  · have hap : apS s es = ⟨#[]⟩ := apS_bad hv
    have hRE : R = ⟨#[]⟩ := by rw [← hR, hap]
    subst hRE
    have HV := Lib.hid hv
    have hq : (vErr (s.size : Int) es != 0) = true := by simp [hv]
    generalize vErr (s.size : Int) es = er at CV HV hq hv ⊢
    clear hv hn' hS hfit hap hR
    go_enter Try.func34, Try.ntmps34
    go_wp2_with fail
    refine CV.out.mono ?_
    rintro e w1 ⟨rfl, hb1⟩
    go_wp2
    go_ret2
    exact ⟨rfl, hb1⟩

end Go.Proofs.Ytkehgoailhpenaa

/- The mathematics of the program's Normal: a composition with no edits is the normal form. It has no conditions. -/
namespace Go.Proofs.Ytkehgoailhpenaa
open Go.RowKit Go.Shelf
set_option linter.unusedVariables false

theorem filt_pend {s : List Int} {a p : Nat} {x : List Int} (h : a ≤ p) (l : List Ee) : ((if a < p ∨ x ≠ [] then [(⟨a, p, x⟩ : Ee)] else []) ++ l).filter (Chg s) = ((⟨a, p, x⟩ : Ee) :: l).filter (Chg s) := by
  by_cases hc : a < p ∨ x ≠ []
  · rw [if_pos hc]; rfl
  · rw [if_neg hc]
    have h1 : a = p := by omega
    have h2 : x = [] := Classical.byContradiction fun e => hc (.inr e)
    subst h1 h2
    have : Chg s ⟨a, a, []⟩ = false := by unfold Chg; simp
    rw [List.nil_append, List.filter_cons, this]
    rfl
theorem srcl_nil (s : List Int) (p : Nat) (hp : p ≤ s.length) : srcl s p [] = pcs s p (s.length - p) := by
  unfold pcs
  rw [List.take_of_length_le (by rw [List.length_drop]; exact Nat.le_refl _)]
  rfl
theorem canon_srcl {s : List Int} : ∀ {l : List Ee} {a p : Nat} {x : List Int}, a ≤ p → Vld s.length p l → (canon s.length a x (srcl s p l)).filter (Chg s) = (jn ⟨a, p, x⟩ l).filter (Chg s) := by
  intro l
  induction l with
  | nil =>
    intro a p x ha h
    have hp : p ≤ s.length := h
    rw [srcl_nil s p hp]
    simp only [jn]
    by_cases hz : p = s.length
    · subst hz
      rw [Nat.sub_self, pcs_zero]
      simp only [canon]
      have := filt_pend (s := s) (x := x) ha []
      rw [List.append_nil] at this
      exact this
    · have hc := canon_piece (S := s) (n := s.length) (a := a) (x := x) (z := []) (k := p) (m := s.length - p) (by omega) (by omega)
      rw [List.append_nil] at hc
      have hl : canon s.length s.length [] [] = [] := by simp [canon]
      rw [hc, show p + (s.length - p) = s.length by omega, hl]
      exact filt_pend ha []
  | cons e l ih =>
    intro a p x ha h
    obtain ⟨h1, h2, h3, h4⟩ := h
    have hs : srcl s p (e :: l) = pcs s p (e.f - p) ++ (e.x.map (fun c => ((c, none) : Int × Option Nat)) ++ srcl s e.t l) := rfl
    have hx : (e.x.map (fun c => ((c, none) : Int × Option Nat))).map Prod.fst = e.x := by rw [List.map_map]; exact List.map_id _
    rw [hs]
    simp only [jn]
    by_cases hz : p = e.f
    · rw [if_pos hz, show e.f - p = 0 by omega, pcs_zero, List.nil_append, canon_new (all_new e.x), hx]
      exact ih (by omega) h4
    · rw [if_neg hz, canon_piece (by omega) (by omega), show p + (e.f - p) = e.f by omega, canon_new (all_new e.x), hx, List.nil_append, filt_pend ha, List.filter_cons, List.filter_cons, ih h2 h4]
/-- Composing with no edits gives the normal form. -/
theorem cmpl_nil {s : List Int} {l : List Ee} (h : Vld s.length 0 l) : cmpl s l [] = norml s l := by
  have hsrc := srcl_src h
  have hz : (srcl s 0 l).map Prod.fst = appl s 0 l := srcl_fst s l 0
  have ht : thru (srcl s 0 l) (srcl (appl s 0 l) 0 []) = srcl s 0 l := by
    rw [srcl_nil _ _ (Nat.zero_le _), thru_slice hz, List.drop_zero, Nat.sub_zero, List.take_of_length_le (by rw [← hz, List.length_map]; exact Nat.le_refl _)]
  unfold cmpl
  rw [ht]
  unfold norml
  rw [joinl_of_sep (canon_sep (x := []) hsrc), canon_srcl (Nat.le_refl _) h]
  cases l with
  | nil =>
    simp only [jn, joinl]
    have := filt_pend (s := s) (a := 0) (p := 0) (x := []) (Nat.le_refl _) []
    simpa using this.symm
  | cons e l =>
    simp only [jn, joinl]
    by_cases hz : (0 : Nat) = e.f
    · rw [if_pos hz]
      obtain ⟨f, t, x⟩ := e
      simp only at hz
      subst hz
      rfl
    · rw [if_neg hz]
      have := filt_pend (s := s) (a := 0) (p := 0) (x := []) (Nat.le_refl _) (jn e l)
      simpa using this.symm

end Go.Proofs.Ytkehgoailhpenaa

/- The contract of the program's Normal. Conditions: texts of at most 1000000 bytes, lists of at most 1000 edits. -/
namespace Go.Proofs.Ytkehgoailhpenaa
open Go.RowKit Go.Shelf
set_option linter.unusedVariables false

/-- The normal form of a list of edits, or nothing if it is not valid. -/
def nmS (s : ByteArray) (es : List Er) : List Er := if vErr (s.size : Int) es = 0 then ers (norml (sb s) (ees es)) else []
theorem cm_nil {s : ByteArray} {es : List Er} : cmE s es [] = vErr (s.size : Int) es ∧ cmS s es [] = nmS s es := by
  have hE : cmE s es [] = vErr (s.size : Int) es := by
    unfold cmE
    by_cases hv : vErr (s.size : Int) es = 0
    · obtain ⟨h1, h2, _⟩ := vErr_ok hv
      have hc : cmpl (sb s) (ees es) (ees []) = norml (sb s) (ees es) := cmpl_nil (by rw [sb_len]; exact h2)
      have hl := norml_len (sb s) (ees es)
      rw [ees_len] at hl
      have h0 : vErr ((apS s es).size : Int) [] = 0 := rfl
      rw [if_pos hv, if_pos h0, if_neg (by rw [hc]; omega), hv]
    · rw [if_neg hv]
  refine ⟨hE, ?_⟩
  unfold cmS nmS
  rw [hE]
  by_cases hv : vErr (s.size : Int) es = 0
  · rw [if_pos hv, if_pos hv]
    obtain ⟨h1, h2, _⟩ := vErr_ok hv
    have hc : cmpl (sb s) (ees es) (ees []) = norml (sb s) (ees es) := cmpl_nil (by rw [sb_len]; exact h2)
    rw [hc]
  · rw [if_neg hv, if_neg hv]
theorem apS_nil (s : ByteArray) : apS s [] = s := by
  have h : vErr (s.size : Int) [] = 0 := rfl
  refine sb_inj ?_
  rw [apS_ok h]
  rfl

set_option maxRecDepth 100000 in
set_option maxHeartbeats 1000000 in
theorem pnormal_any (s : ByteArray) (a : Option Addr) (c : Nat) (es : List Er) (w : World) (hs : s.size ≤ 1000000) (ht : (apS s es).size ≤ 1000000) (hn : es.length ≤ 1000) (hf : ∀ e ∈ es, e.Fit) (hS : ES w.heap.size w a c es) :
    Calls Try.prog 31 #[.string s, .slice a es.length c] w fun e w' => NewES w (nmS s es) (vErr (s.size : Int) es) e w' := by
  have C := pcompose_any s a none c 0 es [] w hs ht (by rw [apS_nil]; exact ht) hn (by simp) hf (by simp) hS (ES.none _ _)
  rw [cm_nil.1, cm_nil.2] at C
  obtain ⟨n, hnn⟩ : ∃ n, es.length = n := ⟨_, rfl⟩
  rw [hnn] at C ⊢
  have CC := Lib.hid C
  clear C hS hf hnn
  go_enter Try.func31, Try.ntmps31
  go_wp2_with fail
  refine CC.out.mono ?_
  rintro e w1 ⟨ad, cd, rfl, hES, hb⟩
  have HF := Lib.hid (And.intro hES hb)
  clear hES hb
  go_wp2_with fail
  go_ret2
  exact ⟨ad, cd, rfl, HF.out.1, HF.out.2⟩

end Go.Proofs.Ytkehgoailhpenaa

/- Boundaries of characters in whole texts, and positions that a common beginning decides; Boundary, and edits at boundaries. Conditions: texts of at most 1000000 bytes. -/
namespace Go.Proofs.Ytkehgoailhpenaa
open Go.RowKit Go.Shelf
set_option linter.unusedVariables false

theorem whl_drop {Z : List Int} {i u : Nat} (h : Bord Z i u) (w : Whl Z) : Whl (Z.drop i) := by
  induction h with
  | zero Z => simpa using w
  | @step Z i u hz _ ih =>
    cases w with
    | nil => exact absurd rfl hz
    | cons _ _ hr => rw [← List.drop_drop]; exact ih hr
theorem whl_take {Z : List Int} {i u : Nat} (h : Bord Z i u) (w : Whl Z) : Whl (Z.take i) := by
  induction h with
  | zero Z => rw [List.take_zero]; exact Whl.nil
  | @step Z i u hz _ ih =>
    cases w with
    | nil => exact absurd rfl hz
    | cons _ hw hr =>
      have hp := chr_pos Z
      have hne : Z.take ((chr Z).1 + i) ≠ [] := take_ne hz (by omega)
      have hc : chr (Z.take ((chr Z).1 + i)) = chr Z := chr_take (by omega)
      refine Whl.cons hne ?_ ?_
      · rw [hc]
        have e : ab (Z.take ((chr Z).1 + i)) 0 = ab Z 0 := by unfold ab; rw [List.getElem?_take, if_pos (by omega)]
        rw [e]; exact hw
      · rw [hc, List.drop_take, Nat.add_sub_cancel_left]; exact ih hr
/-- Offset m is not within a character, by its looks. -/
def Bd (Z : List Int) (m : Nat) : Prop := m = 0 ∨ Z.length ≤ m ∨ ¬ (128 ≤ ab Z m ∧ ab Z m < 192)
theorem chr_cont {Z : List Int} (j : Nat) (h1 : 1 ≤ j) (hj : j < (chr Z).1) : 128 ≤ ab Z j ∧ ab Z j < 192 := by
  have key : ∀ i, bt Z i 128 191 = true → 128 ≤ ab Z i ∧ ab Z i < 192 := fun i h => by have := bt_true h; omega
  rcases chr_ways Z with h0 | ⟨h0, _, a1⟩ | ⟨h0, _, a1, a2⟩ | ⟨h0, _, a1, a2, a3⟩ <;> rw [h0] at hj <;> simp only at hj
  · omega
  · obtain rfl : j = 1 := by omega
    exact key _ a1
  · have : j = 1 ∨ j = 2 := by omega
    rcases this with rfl | rfl
    · exact key _ a1
    · exact key _ a2
  · have : j = 1 ∨ j = 2 ∨ j = 3 := by omega
    rcases this with rfl | rfl | rfl
    · exact key _ a1
    · exact key _ a2
    · exact key _ a3
theorem bord_of_bd {Z : List Int} (w : Whl Z) : ∀ {m : Nat}, m ≤ Z.length → Bd Z m → ∃ U, Bord Z m U := by
  induction w with
  | nil => intro m hm _; obtain rfl : m = 0 := by simpa using hm
           exact ⟨0, Bord.zero _⟩
  | @cons Z hz hw hr ih =>
    intro m hm hb
    have hp := chr_pos Z
    by_cases h0 : m = 0
    · subst h0; exact ⟨0, Bord.zero _⟩
    by_cases hlt : m < (chr Z).1
    · have hl := chr_le hz
      have hc := chr_cont (Z := Z) m (by omega) hlt
      rcases hb with h | h | h
      · exact absurd h h0
      · omega
      · exact absurd hc h
    · obtain ⟨i, rfl⟩ : ∃ i, m = (chr Z).1 + i := ⟨m - (chr Z).1, by omega⟩
      have hl := chr_le hz
      obtain ⟨U, hU⟩ := ih (m := i) (by rw [List.length_drop]; omega) (by
        rcases hb with h | h | h
        · omega
        · exact .inr (.inl (by rw [List.length_drop]; omega))
        · refine .inr (.inr ?_)
          have e : ab (Z.drop (chr Z).1) i = ab Z ((chr Z).1 + i) := by unfold ab; rw [List.getElem?_drop]
          rw [e]; exact h)
      exact ⟨_, Bord.step hz hU⟩
/-- A position is decided by what stands before it, in whole texts. -/
theorem pos_prefix {A B1 B2 : List Int} {l u : Nat} (w : Whl (A ++ B1)) (h : Pos (A ++ B1) A.length l u) : Pos (A ++ B2) A.length l u := by
  obtain ⟨⟨U, hU⟩, hl, hb⟩ := h
  have hA : Bord A A.length U := by
    have := hU.of_take (Nat.le_refl _)
    rwa [List.take_left] at this
  have wA : Whl A := by
    have := whl_take hU w
    rwa [List.take_left] at this
  rw [lf_left A B1 _ (Nat.le_refl _)] at hl hb
  have hle := (lf_le A A.length).1
  refine ⟨⟨U, hA.append wA⟩, by rw [lf_left A B2 _ (Nat.le_refl _)]; exact hl, ?_⟩
  rw [lf_left A B2 _ (Nat.le_refl _)]
  rw [List.drop_append_of_le_length hle] at hb ⊢
  have hb2 := hb.of_take (m := (A.drop (lf A A.length).2).length) (by rw [List.length_drop]; omega)
  rw [List.take_left] at hb2
  obtain ⟨V, hV⟩ := lf_bord (Z := A) (i := A.length) (Nat.le_refl _)
  exact hb2.append (whl_drop hV wA)

/-- The last boundary up to an offset. -/
def bdy (Z : List Int) : Nat → Nat
  | 0 => 0
  | k + 1 => if k + 1 < Z.length ∧ 128 ≤ ab Z (k + 1) ∧ ab Z (k + 1) < 192 then bdy Z k else k + 1
theorem bdy_le (Z : List Int) : ∀ k, bdy Z k ≤ k := by
  intro k
  induction k with
  | zero => exact Nat.le_refl _
  | succ k ih => simp only [bdy]; split <;> omega
theorem bdy_ok (Z : List Int) : ∀ k, Bd Z (bdy Z k) := by
  intro k
  induction k with
  | zero => exact .inl rfl
  | succ k ih =>
    simp only [bdy]
    split
    · exact ih
    · rename_i h
      by_cases hl : k + 1 < Z.length
      · exact .inr (.inr (fun x => h ⟨hl, x⟩))
      · exact .inr (.inl (by omega))
theorem bdy_ge {Z : List Int} {m : Nat} (hm : Bd Z m) : ∀ {k}, m ≤ k → m ≤ bdy Z k := by
  intro k
  induction k with
  | zero => intro h; simp only [bdy]; exact h
  | succ k ih =>
    intro h
    simp only [bdy]
    split
    · rename_i hc
      by_cases e : m = k + 1
      · subst e
        rcases hm with h1 | h1 | h1
        · omega
        · omega
        · exact absurd hc.2 h1
      · exact ih (by omega)
    · exact h

set_option maxRecDepth 100000 in
set_option maxHeartbeats 2000000 in
theorem boundary_any (s : ByteArray) (k0 : Nat) (w : World) (hs : s.size ≤ 1000000) (hk0 : k0 ≤ s.size) :
    Calls Try.prog 68 #[.string s, .int .i64 (k0 : Int)] w fun e w' => e = .returned (.int .i64 ((bdy (sb s) k0 : Nat) : Int)) ∧ w' = w := by
  obtain ⟨R, hR⟩ : ∃ R, bdy (sb s) k0 = R := ⟨_, rfl⟩
  rw [hR]
  have H0 : Hid (bdy (sb s) k0 = R) := hR
  clear hR
  go_enter Try.func68, Try.ntmps68
  go_wp2_with fail
  go_loopw [1] (fun q wr => ∃ (k : Nat), k ≤ s.size ∧ q = .int .i64 (k : Int) ∧ Hid (bdy (sb s) k = R) ∧ wr = w) (fun q _ => (intOf q).toNat)
  case atStart => exact ⟨k0, hk0, rfl, H0, rfl⟩
  case round =>
    obtain ⟨k, hk, rfl, HI, rfl⟩ := hrel
    have stop : bdy (sb s) k = k → Hid (k = R) := fun h => Lib.hid (by rw [← HI.out, h])
    by_cases h0 : k = 0
    · subst h0
      have HK := stop rfl
      clear stop
      go_wp2
      go_ret
      exact ⟨by rw [← HK.out]; rfl, rfl⟩
    · have f0 : (0 : Int) < (k : Int) := by omega
      obtain ⟨j, hj⟩ : ∃ j, k = j + 1 := ⟨k - 1, by omega⟩
      by_cases h1 : k < s.size
      · have f1 : (k : Int) < (s.size : Int) := by omega
        have hab : ab (sb s) k = (((s[k]'h1).toNat : Nat) : Int) := by unfold ab; rw [sb_get s k h1]; rfl
        obtain ⟨c, hc⟩ : ∃ c : Nat, (s[k]'h1).toNat = c := ⟨_, rfl⟩
        rw [hc] at hab
        by_cases h2 : 128 ≤ c ∧ c < 192
        · have f2 : (128 : Int) ≤ (c : Int) := by omega
          have f3 : (c : Int) < 192 := by omega
          have HI2 : Hid (bdy (sb s) j = R) := Lib.hid (by
            have := HI.out
            subst hj
            simp only [bdy] at this
            rwa [if_pos ⟨by rw [sb_len]; exact h1, by rw [hab]; omega, by rw [hab]; omega⟩] at this)
          have hkj : (k : Int) - 1 = (j : Int) := by omega
          clear hj hab stop
          go_wp2
          go_roundw
          case rel => exact ⟨j, by omega, rfl, HI2, by trivial⟩
          case measure => simp [intOf]; omega
        · have HK := stop (by
            subst hj
            simp only [bdy]
            rw [if_neg (fun h => h2 (by rw [hab] at h; omega))])
          clear hj hab stop
          by_cases h3 : 128 ≤ c
          · have f2 : (128 : Int) ≤ (c : Int) := by omega
            have f3 : ¬ (c : Int) < 192 := by omega
            go_wp2
            go_ret
            exact ⟨by rw [← HK.out]; rfl, rfl⟩
          · have f2 : ¬ (128 : Int) ≤ (c : Int) := by omega
            go_wp2
            go_ret
            exact ⟨by rw [← HK.out]; rfl, rfl⟩
      · have f1 : ¬ (k : Int) < (s.size : Int) := by omega
        have HK := stop (by
          subst hj
          simp only [bdy]
          rw [if_neg (fun h => by have := h.1; rw [sb_len] at this; exact h1 this)])
        clear hj stop
        go_wp2
        go_ret
        exact ⟨by rw [← HK.out]; rfl, rfl⟩

end Go.Proofs.Ytkehgoailhpenaa

/- The contract of Edits: edits at boundaries of characters. Conditions: texts of at most 1000000 bytes. -/
namespace Go.Proofs.Ytkehgoailhpenaa
open Go.RowKit Go.Shelf
set_option linter.unusedVariables false

/-- A call hands back a slice of its own with valid edits of the text, at boundaries. -/
def MadeB (s : ByteArray) (w : World) (e : Ending) (w' : World) : Prop :=
  ∃ es v, e = .returned v ∧ es.length ≤ 5 ∧ vErr (s.size : Int) es = 0 ∧ (∀ x ∈ es, x.x.size ≤ s.size + 7 ∧ Bd (sb s) x.f.toNat ∧ Bd (sb s) x.t.toNat) ∧ w'.ownsRow w.heap.size 82 3 v es.length (rv es) ∧ Below w.heap.size w w'

set_option maxRecDepth 100000 in
set_option maxHeartbeats 4000000 in
theorem some_whole (s : ByteArray) (a : Option Addr) (nl cap : Nat) (w : World) (hs : s.size ≤ 1000000) (h : SlI w.heap.size w a nl) (hcap : nl ≤ cap) (hcap2 : cap ≤ 9223372036854775807) :
    Calls Try.prog 45 #[.string s, .slice a nl cap, .bool true] w (MadeB s w) := by
  obtain ⟨i3, hi3, jy0, jy1, jy2⟩ := info_parts infoEd2
  obtain ⟨B, hB⟩ : ∃ B, w.heap.size = B := ⟨_, rfl⟩
  rw [hB] at h
  obtain ⟨W1, hW1⟩ : ∃ W, w.alloc (.cells (wrds.map Value.string).toArray 9) = W := ⟨_, rfl⟩
  have hb1 : Below B w W1 := by rw [← hW1, ← hB]; exact (Below.refl _ _).alloc (Nat.le_refl _) _
  have hs1 : W1.heap.size = B + 1 := by rw [← hW1, ← hB]; simp
  have hblk : ∀ q, q < 13 → ∀ W, Below (B + 1) W1 W → ∃ p, W.cell? ⟨B, q, none⟩ = some (.string p) ∧ p.size ≤ 5 := by
    intro q hq W hW
    have hq2 : q < wrds.length := hq
    refine ⟨wrds[q], ?_, wrds_ok _ (List.getElem_mem hq2)⟩
    rw [hW.cell (p := ⟨B, q, none⟩) (by show B < B + 1; omega), ← hW1, ← hB]
    have bk : Blk (w.alloc (.cells (wrds.map Value.string).toArray 9)) w.heap.size 9 (wrds.map Value.string).toArray := Blk.new _ _ _
    rw [bk.cell q]
    simp [hq2]
  have HP : Hid (∀ z y : Int, 0 ≤ z → z ≤ 1000 → 1 ≤ y → y ≤ 1000000 → ∀ W, Below (B + 1) W1 W → Calls Try.prog 17 #[.slice a nl cap, .int .i64 z, .int .i64 y] W fun e w' => ∃ k : Nat, (k : Int) < y ∧ e = .returned (.int .i64 (k : Int)) ∧ w' = W) := by
    intro z y h1 h2 h3 h4 W hW
    obtain ⟨j, rfl⟩ : ∃ j : Nat, z = (j : Int) := ⟨z.toNat, by omega⟩
    obtain ⟨m, rfl⟩ : ∃ m : Nat, y = (m : Int) := ⟨y.toNat, by omega⟩
    refine (pick_any B a nl cap j m W (h.below (hb1.trans (hW.mono (by omega)))) hcap hcap2 (by omega) (by omega) (by omega)).mono ?_
    rintro e w' ⟨k, hk, rfl, rfl⟩
    exact ⟨k, by omega, rfl, rfl⟩
  have HB := Lib.hid hB; have HBLK := Lib.hid hblk; have HB1 := Lib.hid hb1; have HW := Lib.hid hW1; have HS1 := Lib.hid hs1
  have H0 : Hid (W1.ownsRow (B + 1) 82 3 (.slice none 0 0) ([] : List Er).length (rv [])) := World.ownsRow_nil _ _ _ _
  clear h hB hblk hb1 hW1 hs1
  go_enter Try.func45, Try.ntmps45
  go_wp2_with fail
  rw [show w.alloc (.cells #[.string ⟨#[]⟩, .string ⟨#[120]⟩, .string ⟨#[97, 98]⟩, .string ⟨#[32]⟩, .string ⟨#[10]⟩, .string ⟨#[108, 101, 116]⟩, .string ⟨#[48]⟩, .string ⟨#[43]⟩, .string ⟨#[195, 169]⟩, .string ⟨#[240, 157, 132, 158, 121]⟩, .string ⟨#[40]⟩, .string ⟨#[34]⟩, .string ⟨#[97, 95, 49]⟩] 9) = W1 from HW.out, HB.out]
  go_loopw [8, 9, 10] (fun v p q wr => ∃ (i : Nat) (f : Nat) (es : List Er), i ≤ 5 ∧ f ≤ s.size ∧ p = .int .i64 (f : Int) ∧ q = .int .i64 (i : Int) ∧ Hid (es.length = i) ∧ Hid (vE (s.size : Int) 0 es = 0 ∧ lastT 0 es = (f : Int) ∧ Bd (sb s) f) ∧ Hid (∀ x ∈ es, x.x.size ≤ s.size + 7 ∧ Bd (sb s) x.f.toNat ∧ Bd (sb s) x.t.toNat) ∧ Hid (wr.ownsRow (B + 1) 82 3 v es.length (rv es)) ∧ Hid (Below (B + 1) W1 wr)) (fun _ _ q _ => 5 - (intOf q).toNat)
  case atStart => exact ⟨0, 0, [], by omega, by omega, rfl, rfl, rfl, ⟨rfl, rfl, .inl rfl⟩, Lib.hid (fun x hx => by simp at hx), H0, Below.refl _ _⟩
  case round =>
    obtain ⟨i, f, es, hi, hf, rfl, rfl, HL, HV, HX, HO, HR⟩ := hrel
    have hcz : B + 1 ≤ wr.heap.size := by have := HR.out.size; have := HS1.out; omega
    go_wp2_with fail
    refine (HP.out 0 6 (by omega) (by omega) (by omega) (by omega) _ HR.out).mono ?_
    rintro e w' ⟨m0, hm0, rfl, rfl⟩
    by_cases hlt : (i : Int) < (m0 : Int)
    · go_wp2_with fail
      refine (HP.out _ _ (by omega) (by omega) (by omega) (by omega) _ HR.out).mono ?_
      rintro e w' ⟨n, hn, rfl, rfl⟩
      obtain ⟨D, hD⟩ : ∃ D : Nat, (s.size : Int) - (f : Int) + 1 = (D : Int) := ⟨s.size - f + 1, by omega⟩
      have hD1 : ¬ (D : Int) = 0 := by omega
      have hnn : 0 ≤ (n : Int) := by omega
      obtain ⟨x, hx⟩ : ∃ x : Nat, (f : Int) + (n : Int) % (D : Int) = (x : Int) := ⟨((f : Int) + (n : Int) % (D : Int)).toNat, by have := Int.emod_nonneg (n : Int) hD1; omega⟩
      have hxs : x ≤ s.size := by have := Int.emod_lt_of_pos (n : Int) (show (0 : Int) < D by omega); omega
      have hxf : f ≤ x := by have := Int.emod_nonneg (n : Int) hD1; omega
      obtain ⟨D2, hD2⟩ : ∃ D : Nat, min ((s.size : Int) - (f : Int)) 6 + 1 = (D : Int) := ⟨(min ((s.size : Int) - (f : Int)) 6 + 1).toNat, by omega⟩
      have hD3 : ¬ (D2 : Int) = 0 := by omega
      obtain ⟨x2, hx2⟩ : ∃ x : Nat, (f : Int) + (n : Int) % (D2 : Int) = (x : Int) := ⟨((f : Int) + (n : Int) % (D2 : Int)).toNat, by have := Int.emod_nonneg (n : Int) hD3; omega⟩
      have hxs2 : x2 ≤ s.size := by have := Int.emod_lt_of_pos (n : Int) (show (0 : Int) < D2 by omega); omega
      have hxf2 : f ≤ x2 := by have := Int.emod_nonneg (n : Int) hD3; omega
      obtain ⟨r1, hr1⟩ : ∃ r : Nat, (n : Int) / 8 = (r : Int) := ⟨n / 8, by omega⟩
      obtain ⟨r2, hr2⟩ : ∃ r : Nat, (n : Int) / 16 = (r : Int) := ⟨n / 16, by omega⟩
      obtain ⟨q1, hq1⟩ : ∃ q : Bool, ((r1 : Int) % 2 == 0) = q := ⟨_, rfl⟩
      obtain ⟨q2, hq2⟩ : ∃ q : Bool, ((r2 : Int) % 5 == 0) = q := ⟨_, rfl⟩
      obtain ⟨y, hy1, hy2, hy3, hy4⟩ : ∃ y : Nat, f ≤ y ∧ y ≤ s.size ∧ (q1 = false → y = x) ∧ (q1 = true → y = x2) := by
        cases q1
        · exact ⟨x, hxf, hxs, fun _ => rfl, (fun h => by cases h)⟩
        · exact ⟨x2, hxf2, hxs2, (fun h => by cases h), fun _ => rfl⟩
      obtain ⟨E, hE⟩ : ∃ D : Nat, min ((s.size : Int) - (y : Int)) 7 + 1 = (D : Int) := ⟨(min ((s.size : Int) - (y : Int)) 7 + 1).toNat, by omega⟩
      have hE1 : (1 : Int) ≤ (E : Int) := by omega
      have hE2 : (E : Int) ≤ 1000000 := by omega
      have hE3 : ∀ k : Nat, (k : Int) < (E : Int) → y + k ≤ s.size ∧ k ≤ 7 := fun k hk => by omega
      have HE3 := Lib.hid hE3
      clear hxf hxs hxf2 hxs2 hE3
      cases q1
      case' false =>
        have hyx := hy3 rfl
        clear hy3 hy4
        subst hyx
      case' true =>
        have hyx := hy4 rfl
        clear hy3 hy4
        subst hyx
      all_goals
        go_wp2_with fail
        refine (HP.out _ _ (by omega) (by omega) hE1 hE2 _ HR.out).mono ?_
        rintro e w' ⟨k, hk, rfl, rfl⟩
        obtain ⟨hk1, hk2⟩ := HE3.out k hk
        obtain ⟨z, hz⟩ : ∃ z : Nat, (y : Int) + (k : Int) = (z : Int) := ⟨y + k, by omega⟩
        have hz1' : z ≤ s.size := by omega
        obtain ⟨y2, hy2'⟩ : ∃ y2, bdy (sb s) y = y2 := ⟨_, rfl⟩
        obtain ⟨z2, hz2'⟩ : ∃ y2, bdy (sb s) z = y2 := ⟨_, rfl⟩
        have hyb : y2 ≤ y := by rw [← hy2']; exact bdy_le _ _
        have hzb : z2 ≤ z := by rw [← hz2']; exact bdy_le _ _
        have hBY : Bd (sb s) y2 := by rw [← hy2']; exact bdy_ok _ _
        have hBZ : Bd (sb s) z2 := by rw [← hz2']; exact bdy_ok _ _
        have hfy : f ≤ y2 := by rw [← hy2']; exact bdy_ge HV.out.2.2 hy1
        have hyz2 : y2 ≤ z2 := by rw [← hz2']; exact bdy_ge hBY (by omega)
        have CB1 := Lib.hid (fun W => boundary_any s y W hs hy2)
        have CB2 := Lib.hid (fun W => boundary_any s z W hs hz1')
        have HBYZ := Lib.hid (And.intro hBY hBZ)
        rw [hy2'] at CB1
        rw [hz2'] at CB2
        clear hy2' hz2' hBY hBZ
        go_wp2_with fail
        refine (CB1.out _).mono ?_
        rintro e w' ⟨rfl, rfl⟩
        go_wp2_with fail
        refine (CB2.out _).mono ?_
        rintro e w' ⟨rfl, rfl⟩
        have hz1 : z2 ≤ s.size := by omega
        go_wp2_with fail
        refine (HP.out _ _ (by omega) (by omega) (by omega) (by omega) _ HR.out).mono ?_
        rintro e w' ⟨m, hm, rfl, rfl⟩
        obtain ⟨t, ct, htl⟩ := HBLK.out m (by omega) _ HR.out
        have hzz : (y2 : Int) ≤ (z2 : Int) := by omega
        have hze : (z2 : Int) ≤ (s.size : Int) := by omega
        have hxl : (s.extract y2 z2).size ≤ s.size + 7 := by rw [ByteArray.size_extract]; omega
        clear hx hD hD1 hx2 hD2 hD3 hE hE1 hE2
        have hes : es.length ≤ 5 := by rw [HL.out]; exact hi
        obtain ⟨T, hT1, hT2, hT3⟩ : ∃ T : ByteArray, T.size ≤ s.size + 7 ∧ (q2 = false → T = t) ∧ (q2 = true → T = s.extract y2 z2) := by
          cases q2
          · exact ⟨t, by omega, fun _ => rfl, (fun h => by cases h)⟩
          · exact ⟨s.extract y2 z2, hxl, (fun h => by cases h), fun _ => rfl⟩
        have HV2 : Hid (vE (s.size : Int) 0 (es ++ [(⟨(y2 : Int), (z2 : Int), T⟩ : Er)]) = 0 ∧ lastT 0 (es ++ [(⟨(y2 : Int), (z2 : Int), T⟩ : Er)]) = (z2 : Int) ∧ Bd (sb s) z2) :=
          ⟨vE_snoc HV.out.1 (by show (0 : Int) ≤ (y2 : Int); omega) (by rw [HV.out.2.1]; show (f : Int) ≤ (y2 : Int); omega) (by show (y2 : Int) ≤ (z2 : Int); omega) (by show (z2 : Int) ≤ (s.size : Int); omega), lastT_snoc _ _ _, HBYZ.out.2⟩
        have HX2 : Hid (∀ x ∈ es ++ [(⟨(y2 : Int), (z2 : Int), T⟩ : Er)], x.x.size ≤ s.size + 7 ∧ Bd (sb s) x.f.toNat ∧ Bd (sb s) x.t.toNat) := Lib.hid (by
          intro x hx
          rcases List.mem_append.1 hx with h | h
          · exact HX.out x h
          · rw [List.mem_singleton] at h; subst h; exact ⟨hT1, HBYZ.out.1, HBYZ.out.2⟩)
        have HL2 : Hid ((es ++ [(⟨(y2 : Int), (z2 : Int), T⟩ : Er)]).length = i + 1) := Lib.hid (by rw [List.length_append, HL.out]; rfl)
        have HRV : Hid (rv (es ++ [(⟨(y2 : Int), (z2 : Int), T⟩ : Er)]) = rv es ++ [.int .i64 (y2 : Int), .int .i64 (z2 : Int), .string T]) := rv_snoc _ _
        have HT1 := Lib.hid hT1
        clear hT1 hxl
        cases q2
        case' false =>
          have hTT := hT2 rfl
          clear hT2 hT3
          subst hTT
        case' true =>
          have hTT : s.extract y2 z2 = T := (hT3 rfl).symm
          clear hT2 hT3
        all_goals
          go_wp2_with (at_builtin; (refine wpList_append_own _ rfl _ _ 45 rfl (B + 1) 82 i3 (.agg #[.int .i64 0, .int .i64 0, .string ⟨#[]⟩]) 3 32 Try.underlying45 hi3 jy0 jy1 jy2 rfl (by decide) u8 es.length (rv es) rfl (HO.out.alloc _) ⟨w'.heap.size, 0, none⟩ 1 1 [.int .i64 (y2 : Int), .int .i64 (z2 : Int), .string T] rfl rfl (cells_news _ [.int .i64 (y2 : Int), .int .i64 (z2 : Int), .string T] _) (fun x hx => by simp at hx; rcases hx with rfl | rfl | rfl <;> rfl) (by unfold maxLen; omega) (by omega) (by simp; omega) ?_; intro v' w6 hown6 hgrow6 _))
          have HO6 : Hid (w6.ownsRow (B + 1) 82 3 v' (es ++ [(⟨(y2 : Int), (z2 : Int), T⟩ : Er)]).length (rv (es ++ [(⟨(y2 : Int), (z2 : Int), T⟩ : Er)]))) := by rw [HRV.out, List.length_append]; exact hown6
          have H6 : Hid (Below (B + 1) W1 w6) := HR.out.trans (((Below.refl _ _).alloc hcz _).grown hgrow6 (by simp; omega) (fun g eg => (HO.out.lt g eg).1))
          clear hown6 hgrow6
          go_wp2
          go_roundw
          case rel => exact ⟨i + 1, z2, _, by omega, hz1, rfl, by go_num, HL2, HV2, HX2, HO6, H6⟩
          case measure => simp [intOf]; omega
    · go_wp2
      go_ret
      refine ⟨es, _, rfl, by rw [HL.out]; exact hi, ?_, HX.out, ?_, ?_⟩
      · unfold vErr
        rw [if_neg (by rw [HL.out]; omega)]
        exact HV.out.1
      · have h1 := HO.out
        rw [HB.out]
        exact own_base h1 (by omega)
      · rw [HB.out]
        exact HB1.out.trans (HR.out.mono (by omega))

set_option maxRecDepth 100000 in
theorem edits_any (s : ByteArray) (a : Option Addr) (nl cap : Nat) (w : World) (hs : s.size ≤ 1000000) (h : SlI w.heap.size w a nl) (hcap : nl ≤ cap) (hcap2 : cap ≤ 9223372036854775807) :
    Calls Try.prog 18 #[.string s, .slice a nl cap] w (MadeB s w) := by
  have C := Lib.hid (some_whole s a nl cap w hs h hcap hcap2)
  clear h
  go_enter Try.func18, Try.ntmps18
  go_wp2_with fail
  refine C.out.mono ?_
  rintro e w2 ⟨es, v, rfl, h1, h2, h3, h4, h5⟩
  have H := Lib.hid (And.intro h1 (And.intro h2 (And.intro h3 (And.intro h4 h5))))
  clear h1 h2 h3 h4 h5
  go_wp2
  go_ret
  obtain ⟨h1, h2, h3, h4, h5⟩ := H.out
  exact ⟨es, v, rfl, h1, h2, h3, h4, h5⟩

end Go.Proofs.Ytkehgoailhpenaa

/- The mathematics of Compose: how many edits a composition has. It has no conditions. -/
namespace Go.Proofs.Ytkehgoailhpenaa
open Go.RowKit Go.Shelf
set_option linter.unusedVariables false

theorem comm_k (p1 p2 : Pc) : (comm p1 p2).k = true ↔ (p1.k = true ∧ p2.k = true ∧ max p1.q p2.f < min (p1.q + p1.x.size) p2.t) := by
  unfold comm
  split
  · rename_i h; exact ⟨fun _ => h, fun _ => rfl⟩
  · rename_i h; exact ⟨fun e => (by cases e), fun e => absurd e h⟩
theorem cnt_disj {A B C : Pc → Bool} (h1 : ∀ x, A x = true → C x = true ∧ B x = false) (h2 : ∀ x, B x = true → C x = true) (P : List Pc) : P.countP A + P.countP B ≤ P.countP C := by
  induction P with
  | nil => simp
  | cons x P ih =>
    rw [List.countP_cons, List.countP_cons, List.countP_cons]
    have a := h1 x
    have b := h2 x
    cases hA : A x
    · cases hB : B x
      · simp only [Bool.false_eq_true, if_false]; omega
      · have := b hB
        rw [this]
        simp only [Bool.false_eq_true, if_false, if_true]; omega
    · obtain ⟨c1, c2⟩ := a hA
      rw [c1, c2]
      simp only [Bool.false_eq_true, if_false, if_true]; omega
/-- How much one part of the second list keeps. -/
theorem in_len {s : ByteArray} {p2 : Pc} : ∀ {P : List Pc} {r : Nat}, Chn s r P →
    ((P.map fun p1 => comm p1 p2).filter (·.k)).length ≤ P.countP (fun p => p.k && decide (p2.f < p.q) && decide (p.q < p2.t)) + (if (r : Int) ≤ p2.f then 1 else 0) := by
  intro P
  induction P with
  | nil => intro r _; simp
  | cons p P ih =>
    intro r h
    obtain ⟨h1, _, h3⟩ := h
    have hi := ih h3
    rw [List.map_cons, List.filter_cons, List.countP_cons]
    by_cases hc : p.k = true ∧ p2.k = true ∧ max p.q p2.f < min (p.q + p.x.size) p2.t
    · rw [if_pos ((comm_k p p2).2 hc), List.length_cons]
      obtain ⟨c1, c2, c3⟩ := hc
      rw [if_neg (by omega)] at hi
      by_cases hr : (r : Int) ≤ p2.f
      · rw [if_pos hr]; omega
      · rw [if_neg hr]
        have : (p.k && decide (p2.f < p.q) && decide (p.q < p2.t)) = true := by
          rw [c1, decide_eq_true (by omega), decide_eq_true (by omega)]; rfl
        rw [if_pos this]; omega
    · rw [if_neg (fun e => hc ((comm_k p p2).1 e))]
      by_cases hr : ((r + p.x.size : Nat) : Int) ≤ p2.f
      · rw [if_pos hr] at hi
        have e1 : (if (r : Int) ≤ p2.f then 1 else 0) = (1 : Nat) := if_pos (by omega)
        rw [e1]; omega
      · rw [if_neg hr] at hi; omega
theorem out_len {s t : ByteArray} {P1 : List Pc} (h1 : Chn s 0 P1) : ∀ {es : List Er} {f q : Nat}, Vld t.size f (ees es) → (∀ e ∈ es, 0 ≤ e.f ∧ e.f ≤ e.t ∧ e.t ≤ (t.size : Int)) →
    ((kbl P1 (prl t f q es)).filter (·.k)).length ≤ P1.countP (fun p => p.k && decide ((f : Int) < p.q)) + es.length + 1 := by
  intro es
  induction es with
  | nil =>
    intro f q _ _
    have := in_len (p2 := ⟨f, t.size, q, t.extract f t.size, true⟩) h1
    simp only [prl, kbl, List.flatMap_cons, List.flatMap_nil, List.append_nil, List.length_nil]
    rw [if_pos (by simp only; omega)] at this
    have hm := cnt_disj (A := fun p : Pc => p.k && decide ((f : Int) < p.q) && decide (p.q < (t.size : Int))) (B := fun _ => false) (C := fun p => p.k && decide ((f : Int) < p.q)) (fun x hx => ⟨by simp only [Bool.and_eq_true] at hx ⊢; exact hx.1, rfl⟩) (fun x hx => by cases hx) P1
    simp only at this
    omega
  | cons e l ih =>
    intro f q hv hok
    obtain ⟨o1, o2, o3⟩ := hok e (by simp)
    obtain ⟨v1, v2, v3, v4⟩ := hv
    simp only [Er.ee] at v1 v2 v3 v4
    have hi := ih (f := e.t.toNat) (q := q + (e.f.toNat - f) + e.x.size) v4 (fun x hx => hok x (by simp [hx]))
    have ha := in_len (p2 := ⟨f, e.f, q, t.extract f e.f.toNat, true⟩) h1
    rw [if_pos (by simp only; omega)] at ha
    have hb : ((P1.map fun p1 => comm p1 ⟨e.f, e.t, (q : Int) + (e.f - f), e.x, false⟩).filter (·.k)) = [] := by
      rw [List.filter_eq_nil_iff]
      intro c hc
      obtain ⟨p1, _, rfl⟩ := List.mem_map.1 hc
      intro hk
      have := ((comm_k _ _).1 hk).2.1
      cases this
    have hk : kbl P1 (prl t f q (e :: l)) = (P1.map fun p1 => comm p1 ⟨f, e.f, q, t.extract f e.f.toNat, true⟩) ++ ((P1.map fun p1 => comm p1 ⟨e.f, e.t, (q : Int) + (e.f - f), e.x, false⟩) ++ kbl P1 (prl t e.t.toNat (q + (e.f.toNat - f) + e.x.size) l)) := rfl
    rw [hk, List.filter_append, List.filter_append, hb, List.nil_append, List.length_append, List.length_cons]
    have hm := cnt_disj (A := fun p : Pc => p.k && decide ((f : Int) < p.q) && decide (p.q < e.f)) (B := fun p => p.k && decide (((e.t.toNat : Nat) : Int) < p.q)) (C := fun p => p.k && decide ((f : Int) < p.q))
      (fun x hx => by
        simp only [Bool.and_eq_true, decide_eq_true_eq] at hx ⊢
        refine ⟨hx.1, ?_⟩
        rw [decide_eq_false (by omega), Bool.and_false])
      (fun x hx => by
        simp only [Bool.and_eq_true, decide_eq_true_eq] at hx ⊢
        exact ⟨hx.1, by omega⟩) P1
    simp only at ha
    omega
theorem prl_kept (s : ByteArray) : ∀ (es : List Er) (f q : Nat), (prl s f q es).countP (fun p => p.k) = es.length + 1 := by
  intro es
  induction es with
  | nil => intro f q; rfl
  | cons e l ih => intro f q; simp only [prl, List.countP_cons, ih, List.length_cons]; simp
/-- A composition has few edits. -/
theorem cmpl_len {s t : ByteArray} {a b : List Er} (ha : vErr (s.size : Int) a = 0) (hb : vErr (t.size : Int) b = 0) (ht : sb t = appl (sb s) 0 (ees a)) : (cmpl (sb s) (ees a) (ees b)).length ≤ a.length + b.length + 3 := by
  obtain ⟨u, hu⟩ : ∃ u, apS t b = u := ⟨_, rfl⟩
  obtain ⟨K, k1, k2, k3⟩ := kept_comp (s := s) (t := t) (u := u) ha hb ht (by rw [← hu]; exact apS_ok hb)
  rw [← k3, ees_len]
  have h1 := arl_len (s := s) (u := u) (K := K) (f := 0) (q := 0)
  have h2 := congrArg List.length k1
  rw [List.length_map] at h2
  obtain ⟨_, va, oa⟩ := vErr_ok ha
  obtain ⟨_, vb, ob⟩ := vErr_ok hb
  obtain ⟨_, c1⟩ := prl_seg (q := 0) va oa
  have h3 := out_len (t := t) c1 (q := 0) vb ob
  have h4 := cnt_disj (A := fun p : Pc => p.k && decide (((0 : Nat) : Int) < p.q)) (B := fun _ => false) (C := fun p => p.k) (fun x hx => ⟨by simp only [Bool.and_eq_true] at hx; exact hx.1, rfl⟩) (fun x hx => by cases hx) (prl s 0 0 a)
  rw [prl_kept] at h4
  omega

end Go.Proofs.Ytkehgoailhpenaa
