/- The contract of around: the edits around the pieces that are kept. Conditions: texts of at most 1000000000 bytes, at most 20000 pieces, in order. -/
import Derived.Test.YtfhpllcdlejfjaaERp
import Derived.Laws.EntriesVeiled
namespace Go.Proofs.Ytfhpllcdlejfjaa
open Go.RowKit Go.Shelf
set_option linter.unusedVariables false
attribute [local go_sem] Oper.semAt_some

theorem Giv.on {P : Program} {g : Nat} {lb : Array Value} {encs : Nat → Array Value} {N : Nat} {R : Nat → Prop} {w w' : World} (h : Giv P g lb encs N R w) (hb : Below w.heap.size w w') : Giv P g lb encs N R w' :=
  fun l J T₀ W hW => h l J T₀ W (hb.trans (hW.mono hb.size))
theorem gap_len (s u : ByteArray) (f t q r : Nat) : (gap s u f t q r).length ≤ 1 := by
  unfold gap
  split <;> simp
theorem arl_len {s u : ByteArray} : ∀ {K : List Kp} {f q : Nat}, (arl s u f q K).length ≤ K.length + 1 := by
  intro K
  induction K with
  | nil => intro f q; exact gap_len _ _ _ _ _ _
  | cons p K ih => intro f q; simp only [arl, List.length_append, List.length_cons]; have := gap_len s u f p.f q p.q; have := ih (f := p.f + p.m) (q := p.q + p.m); omega
theorem pg_map {s : ByteArray} {K : List Kp} {k : Nat} (h : k < K.length) : pg (K.map (Kp.pc s)) k = Kp.pc s K[k] := by
  unfold pg
  rw [List.getElem?_map, List.getElem?_eq_getElem h]
  rfl

/-- The state of around's loop. -/
def ArI (b0 : Nat) (T₀ : Nat → Prop) (s u : ByteArray) (K : List Kp) (w W0 : World) (k : Nat) (T : Nat → Prop) (A : World) : Prop :=
  ∃ (f q : Nat) (E : List Er) (TI : Nat → Prop), Iv (b0 + 2) b0 TI E A ∧ Boxed A (b0 + 3) 3 (.int .i64 (f : Int)) ∧ Boxed A (b0 + 4) 3 (.int .i64 (q : Int)) ∧ (∀ j, T j ↔ (TI j ∨ j = b0 + 3 ∨ j = b0 + 4)) ∧ ¬ TI (b0 + 3) ∧ ¬ TI (b0 + 4) ∧
    E ++ arl s u f q (K.drop k) = arl s u 0 0 K ∧ Ordk s.size u.size f q (K.drop k) ∧ E.length ≤ k ∧ Below b0 w A ∧ Rnd T₀ T W0 A
theorem ArI.oth {b0 : Nat} {T₀ : Nat → Prop} {s u : ByteArray} {K : List Kp} {w W0 : World} (hw : w.heap.size = b0) (hz : b0 ≤ W0.heap.size) {k : Nat} {T : Nat → Prop} {A C : World} (h : ArI b0 T₀ s u K w W0 k T A) (ho : Oth T W0.heap.size A C) : ArI b0 T₀ s u K w W0 k T C := by
  obtain ⟨f, q, E, TI, h1, h2, h3, h4, h5, h6, h7, h8, h9, h10, h11⟩ := h
  have hA := h11.size
  refine ⟨f, q, E, TI, h1.oth (ho.mono (Nat.le_refl _) (fun j hj => (h4 j).2 (.inl hj))), ?_, ?_, h4, h5, h6, h7, h8, h9, h10.trans (ho.below hz (by omega)), ⟨Nat.le_trans h11.size ho.size, fun k hk hT => (ho.block k (by omega) (.inl hk)).trans (h11.block k hk hT), h11.grew⟩⟩
  · exact (ho.block (b0 + 3) h2.lt (.inr ((h4 _).2 (.inr (.inl rfl))))).trans h2
  · exact (ho.block (b0 + 4) h3.lt (.inr ((h4 _).2 (.inr (.inr rfl))))).trans h3
theorem ArI.lt {b0 : Nat} {T₀ : Nat → Prop} {s u : ByteArray} {K : List Kp} {w W0 : World} {k : Nat} {T : Nat → Prop} {A : World} (h : ArI b0 T₀ s u K w W0 k T A) : ∀ j, T j → j < A.heap.size := by
  obtain ⟨f, q, E, TI, h1, h2, h3, h4, _⟩ := h
  intro j hj
  rcases (h4 j).1 hj with h | rfl | rfl
  · exact h1.lt j h
  · exact h2.lt
  · exact h3.lt

set_option maxRecDepth 100000 in
set_option maxHeartbeats 4000000 in
theorem paround_any (s u : ByteArray) (lb : Array Value) (K : List Kp) (R : Nat → Prop) (w : World) (hs : s.size ≤ 1000000000) (hu : u.size ≤ 1000000000) (hK : K.length ≤ 20000)
    (hG : Giv Try.prog 64 lb (fun k => #[(pg (K.map (Kp.pc s)) k).val]) K.length R w) (hR : ∀ k, R k → k < w.heap.size) (hO : Ordk s.size u.size 0 0 K) :
    Calls Try.prog 41 #[.string s, .string u, .func (.func 64) #[] lb] w fun e w' => NewE1 w (arl s u 0 0 K) e w' := by
  obtain ⟨b0, hb0⟩ : ∃ b, w.heap.size = b := ⟨_, rfl⟩
  refine (callsIn_wide (n := 0)).1 ?_
  refine callsIn_of_wp_marks Try.func41 rfl trivial ?_ rfl
  simp only [Try.ntmps41, List.size_toArray, List.length_cons, List.length_nil, Nat.reduceAdd, Nat.reduceSub, Array.replicate_succ, Array.replicate_zero, List.push_toArray, List.append_toArray, List.nil_append, List.cons_append]
  obtain ⟨W0, hW0⟩ : ∃ V, ((((((w.alloc (.cells #[.string s] 9)).alloc (.cells #[.string u] 9)).alloc (.cells #[.slice none 0 0] 22)).alloc (.cells #[.int .i64 0] 3)).alloc (.cells #[.int .i64 0] 3)).alloc
    (.cells #[(.func (.func 63) #[] #[.pointer (some ⟨b0 + 1 + 1 + 1, 0, none⟩), .pointer (some ⟨b0 + 1, 0, none⟩), .pointer (some ⟨b0 + 1 + 1 + 1 + 1, 0, none⟩), .pointer (some ⟨b0, 0, none⟩), .pointer (some ⟨b0 + 1 + 1, 0, none⟩)])] 100)) = V := ⟨_, rfl⟩
  have hz0 : W0.heap.size = b0 + 6 := by rw [← hW0, ← hb0]; simp
  have hB0 : Below b0 w W0 := by rw [← hW0, ← hb0]; exact (((((((Below.refl _ _).alloc (Nat.le_refl _) _).alloc (by simp) _).alloc (by simp; omega) _).alloc (by simp; omega) _).alloc (by simp; omega) _).alloc (by simp; omega) _)
  have q0 : Boxed W0 b0 9 (.string s) := by rw [← hW0, ← hb0]; exact (((((Boxed.new _ _ _).alloc _).alloc _).alloc _).alloc _).alloc _
  have q1 : Boxed W0 (b0 + 1) 9 (.string u) := by
    rw [← hW0, ← hb0]
    have := Boxed.new (w.alloc (.cells #[.string s] 9)) 9 (.string u)
    rw [World.size_alloc] at this
    exact (((this.alloc _).alloc _).alloc _).alloc _
  have q2 : Blk W0 (b0 + 2) 22 #[.slice none 0 0] := by
    rw [← hW0, ← hb0]
    have := Blk.new ((w.alloc (.cells #[.string s] 9)).alloc (.cells #[.string u] 9)) 22 #[.slice none 0 0]
    rw [World.size_alloc, World.size_alloc] at this
    exact ((this.alloc _).alloc _).alloc _
  have q3 : Boxed W0 (b0 + 3) 3 (.int .i64 0) := by
    rw [← hW0, ← hb0]
    have := Boxed.new (((w.alloc (.cells #[.string s] 9)).alloc (.cells #[.string u] 9)).alloc (.cells #[.slice none 0 0] 22)) 3 (.int .i64 0)
    rw [World.size_alloc, World.size_alloc, World.size_alloc] at this
    exact (this.alloc _).alloc _
  have q4 : Boxed W0 (b0 + 4) 3 (.int .i64 0) := by
    rw [← hW0, ← hb0]
    have := Boxed.new ((((w.alloc (.cells #[.string s] 9)).alloc (.cells #[.string u] 9)).alloc (.cells #[.slice none 0 0] 22)).alloc (.cells #[.int .i64 0] 3)) 3 (.int .i64 0)
    rw [World.size_alloc, World.size_alloc, World.size_alloc, World.size_alloc] at this
    exact this.alloc _
  have q5 : Boxed W0 (b0 + 5) 100 (.func (.func 63) #[] #[.pointer (some ⟨b0 + 1 + 1 + 1, 0, none⟩), .pointer (some ⟨b0 + 1, 0, none⟩), .pointer (some ⟨b0 + 1 + 1 + 1 + 1, 0, none⟩), .pointer (some ⟨b0, 0, none⟩), .pointer (some ⟨b0 + 1 + 1, 0, none⟩)]) := by
    rw [← hW0]
    have := Boxed.new (((((w.alloc (.cells #[.string s] 9)).alloc (.cells #[.string u] 9)).alloc (.cells #[.slice none 0 0] 22)).alloc (.cells #[.int .i64 0] 3)).alloc (.cells #[.int .i64 0] 3)) 100 (.func (.func 63) #[] #[.pointer (some ⟨b0 + 1 + 1 + 1, 0, none⟩), .pointer (some ⟨b0 + 1, 0, none⟩), .pointer (some ⟨b0 + 1 + 1 + 1 + 1, 0, none⟩), .pointer (some ⟨b0, 0, none⟩), .pointer (some ⟨b0 + 1 + 1, 0, none⟩)])
    rw [World.size_alloc, World.size_alloc, World.size_alloc, World.size_alloc, World.size_alloc, hb0] at this
    exact this
  have hG0 := hG.on (by rw [hb0]; exact hB0)
  obtain ⟨T₀, hT₀⟩ : ∃ T : Nat → Prop, (fun j => j = b0 + 2 ∨ j = b0 + 3 ∨ j = b0 + 4) = T := ⟨_, rfl⟩
  have hT0 : ∀ j, T₀ j ↔ (j = b0 + 2 ∨ j = b0 + 3 ∨ j = b0 + 4) := fun j => by rw [← hT₀]
  have hI0 : ArI b0 T₀ s u K w W0 0 T₀ W0 := ⟨0, 0, [], fun j => j = b0 + 2, ⟨.slice none 0 0, q2, World.ownsRow_nil _ _ _ _, by simp [Value.ownBlock], fun j => by simp [Value.ownBlock]⟩, q3, q4, hT0, by omega, by omega, by simp, by simpa using hO, by simp, hB0, Rnd.refl _ _⟩
  have HW0 := Lib.hid hW0; have HB0 := Lib.hid hb0; have HT0 := Lib.hid hT0; have HI0 := Lib.hid hI0; have HG0 := Lib.hid hG0; have HR := Lib.hid hR
  have Q0 := Lib.hid q0; have Q1 := Lib.hid q1; have Q5 := Lib.hid q5
  clear hT₀ hT0 hI0 hG0 hR q0 q1 q2 q3 q4 q5 hG hO hB0 hW0
  gi_wp2_with fail
  rw [HW0.out]
  refine wpIn_giv (gf := 64) (lb := lb) rfl (enters_of Try.func64 (by kernel_rfl) rfl)
    HG0.out (fun _ => rfl) (ArI b0 T₀ s u K w W0) (fun k T A C hi ho => hi.oth hb0 (by omega) ho) (fun k T A hi => hi.lt)
    T₀ (fun k hk => ⟨by have := (HT0.out k).1 hk; omega, fun h => by have := (HT0.out k).1 hk; have := HR.out k h; omega⟩) HI0.out
    (fun k B => { tmps := #[.string s, .string u, .func (.func 64) #[] lb, .pointer (some ⟨b0, 0, none⟩), .pointer (some ⟨b0 + 1, 0, none⟩), undef, .slice none 0 0, .pointer (some ⟨b0 + 1 + 1, 0, none⟩), .pointer (some ⟨b0 + 1 + 1 + 1, 0, none⟩), .pointer (some ⟨b0 + 1 + 1 + 1 + 1, 0, none⟩), .pointer (some ⟨b0 + 1 + 1 + 1 + 1 + 1, 0, none⟩), .pointer (some ⟨B, 0, none⟩),
      (.func (.func 63) #[] #[.pointer (some ⟨b0 + 1 + 1 + 1, 0, none⟩), .pointer (some ⟨b0 + 1, 0, none⟩), .pointer (some ⟨b0 + 1 + 1 + 1 + 1, 0, none⟩), .pointer (some ⟨b0, 0, none⟩), .pointer (some ⟨b0 + 1 + 1, 0, none⟩)]), .func (.func 64) #[] lb, (pg (K.map (Kp.pc s)) k).val, undef, undef, undef, undef, undef, undef, undef, undef, undef, undef, undef, undef, undef, undef, undef, undef, undef], defers := [] })
    (fun k => (pg (K.map (Kp.pc s)) k).cells) 74 ?assign ?body ?done
  case assign =>
    intro l' k A K hK
    simp only [Pc.val, Pc.cells] at hK ⊢
    gi_wp2
    exact hK
  case body =>
    rintro l' k T B A hk hl hlB hBk hTB hl' hTl hi
    rw [pg_map hk] at hBk ⊢
    obtain ⟨f, q, E, TI, h1, h2, h3, h4, h5, h6, h7, h8, h9, h10, h11⟩ := hi
    rw [List.drop_eq_getElem_cons hk] at h7 h8
    obtain ⟨p, hp⟩ : ∃ p, K[k] = p := ⟨_, rfl⟩
    rw [hp] at h7 h8 hBk ⊢
    obtain ⟨o1, o2, o3, o4, o5⟩ := h8
    have hxs : (s.extract p.f (p.f + p.m)).size = p.m := by rw [cut_size (by omega) o3]; omega
    have hn : ∀ j, j = b0 ∨ j = b0 + 1 ∨ j = b0 + 5 → ¬ T₀ j := fun j hj h => by have := (HT0.out j).1 h; omega
    have r0 : Boxed A b0 9 (.string s) := (h11.block b0 (by omega) (hn _ (.inl rfl))).trans Q0.out
    have r1 : Boxed A (b0 + 1) 9 (.string u) := (h11.block (b0 + 1) (by omega) (hn _ (.inr (.inl rfl)))).trans Q1.out
    have r5 : Boxed A (b0 + 5) 100 (.func (.func 63) #[] #[.pointer (some ⟨b0 + 1 + 1 + 1, 0, none⟩), .pointer (some ⟨b0 + 1, 0, none⟩), .pointer (some ⟨b0 + 1 + 1 + 1 + 1, 0, none⟩), .pointer (some ⟨b0, 0, none⟩), .pointer (some ⟨b0 + 1 + 1, 0, none⟩)]) := (h11.block (b0 + 5) (by omega) (hn _ (.inr (.inr rfl)))).trans Q5.out
    have c5 := r5.cell
    obtain ⟨x, hx⟩ : ∃ x, s.extract p.f (p.f + p.m) = x := ⟨_, rfl⟩
    simp only [Kp.pc, Pc.cells, Pc.val, hx] at hBk ⊢
    rw [hx] at hxs
    obtain ⟨u0, u1, u2, u3, u4⟩ := cells5 hBk
    have CR := Lib.hid (rep_any s u (b0 + 1 + 1 + 1) (b0 + 1) (b0 + 1 + 1 + 1 + 1) b0 (b0 + 1 + 1) b0 f q p.f p.q TI E A hs hu o1 (by omega) o2 (by omega) (by omega) h2 r1 h3 r0 h1 (by omega))
    have H7 := Lib.hid h7; have H10 := Lib.hid h10; have H11 := Lib.hid h11; have H4 := Lib.hid h4; have HBK := Lib.hid hBk; have H2 := Lib.hid h2; have H3 := Lib.hid h3; have HTB := Lib.hid hTB; have H5 := Lib.hid h5; have H6 := Lib.hid h6; have O5 := Lib.hid o5
    have hzA := h11.size
    clear h1 h2 h3 h4 h5 h6 h7 h10 h11 r0 r1 r5 hn hBk hl' hTl hTB hx hp o5
    gi_wp2_with (refine ⟨trivial, rfl, ?_⟩; gi_at_call 63; refine (CallsIn.inRound l' (callsIn_wide.2 CR.out)).mono ?_; rintro e w1 ⟨⟨rv, rfl⟩, ⟨T', hI', hr'⟩, hb'⟩)
    have hT4 : ∀ j, TI j → T j := fun j h => (H4.out j).2 (.inl h)
    have k5 : Blk w1 B 74 #[.int .i64 (p.f : Int), .int .i64 ((p.f + p.m : Nat) : Int), .int .i64 (p.q : Int), .string x, .bool true] := HBK.out.same (hr'.block B HBK.out.lt (fun h => HTB.out (hT4 _ h)))
    have kf : Boxed w1 (b0 + 3) 3 (.int .i64 (f : Int)) := (hr'.block _ H2.out.lt H5.out).trans H2.out
    have kq : Boxed w1 (b0 + 4) 3 (.int .i64 (q : Int)) := (hr'.block _ H3.out.lt H6.out).trans H3.out
    have KW : Hid (∀ V, Below w1.heap.size w1 V → Blk V B 74 #[.int .i64 (p.f : Int), .int .i64 ((p.f + p.m : Nat) : Int), .int .i64 (p.q : Int), .string x, .bool true] ∧ Blk V (b0 + 3) 3 #[.int .i64 (f : Int)] ∧ Blk V (b0 + 4) 3 #[.int .i64 (q : Int)]) := fun V hV =>
      ⟨k5.same (hV.block _ k5.lt), (hV.block _ kf.lt).trans kf, (hV.block _ kq.lt).trans kq⟩
    have HFIN : Hid (∀ V, Below w1.heap.size w1 V → ∃ T'', ArI b0 T₀ s u K w W0 (k + 1) T'' ((V.setCell ⟨b0 + 3, 0, none⟩ (.int .i64 ((p.f + p.m : Nat) : Int))).setCell ⟨b0 + 4, 0, none⟩ (.int .i64 ((p.q + p.m : Nat) : Int))) ∧ Rnd T T'' A ((V.setCell ⟨b0 + 3, 0, none⟩ (.int .i64 ((p.f + p.m : Nat) : Int))).setCell ⟨b0 + 4, 0, none⟩ (.int .i64 ((p.q + p.m : Nat) : Int)))) := fun V hV => by
      have hgr : ∀ j, T' j → TI j ∨ A.heap.size ≤ j := hr'.grew
      have n3 : ¬ T' (b0 + 3) := fun h => (hgr _ h).elim H5.out (fun e => by omega)
      have n4 : ¬ T' (b0 + 4) := fun h => (hgr _ h).elim H6.out (fun e => by omega)
      have ho : ∀ j, j ≠ b0 + 3 → j ≠ b0 + 4 → ((V.setCell ⟨b0 + 3, 0, none⟩ (.int .i64 ((p.f + p.m : Nat) : Int))).setCell ⟨b0 + 4, 0, none⟩ (.int .i64 ((p.q + p.m : Nat) : Int))).heap[j]? = V.heap[j]? := fun j h3 h4 =>
        (Below.heap_setCell _ _ _ j (fun e => h4 (by simpa using e))).trans (Below.heap_setCell _ _ _ j (fun e => h3 (by simpa using e)))
      obtain ⟨m5, mf, mq⟩ := KW.out V hV
      have hz := hV.size
      have hz1 := hr'.size
      have hzs : ((V.setCell ⟨b0 + 3, 0, none⟩ (.int .i64 ((p.f + p.m : Nat) : Int))).setCell ⟨b0 + 4, 0, none⟩ (.int .i64 ((p.q + p.m : Nat) : Int))).heap.size = V.heap.size := by simp [World.setCell]
      obtain ⟨W', hW'⟩ : ∃ W', ((V.setCell ⟨b0 + 3, 0, none⟩ (.int .i64 ((p.f + p.m : Nat) : Int))).setCell ⟨b0 + 4, 0, none⟩ (.int .i64 ((p.q + p.m : Nat) : Int))) = W' := ⟨_, rfl⟩
      have g3 : Boxed W' (b0 + 3) 3 (.int .i64 ((p.f + p.m : Nat) : Int)) := by
        rw [← hW']
        have h1 : Blk (V.setCell ⟨b0 + 3, 0, none⟩ (.int .i64 ((p.f + p.m : Nat) : Int))) (b0 + 3) 3 #[.int .i64 ((p.f + p.m : Nat) : Int)] := by simpa using mf.set 0 (.int .i64 ((p.f + p.m : Nat) : Int))
        exact (Below.heap_setCell _ _ _ (b0 + 3) (fun e => by simp at e)).trans h1
      have g4 : Boxed W' (b0 + 4) 3 (.int .i64 ((p.q + p.m : Nat) : Int)) := by
        rw [← hW']
        have h0 : Blk (V.setCell ⟨b0 + 3, 0, none⟩ (.int .i64 ((p.f + p.m : Nat) : Int))) (b0 + 4) 3 #[.int .i64 (q : Int)] := (Below.heap_setCell _ _ _ (b0 + 4) (fun e => by simp at e)).trans mq
        have h1 : Blk ((V.setCell ⟨b0 + 3, 0, none⟩ (.int .i64 ((p.f + p.m : Nat) : Int))).setCell ⟨b0 + 4, 0, none⟩ (.int .i64 ((p.q + p.m : Nat) : Int))) (b0 + 4) 3 #[.int .i64 ((p.q + p.m : Nat) : Int)] := by simpa using h0.set 0 (.int .i64 ((p.q + p.m : Nat) : Int))
        exact h1
      have hBw : Below b0 w W' := by
        rw [← hW']
        exact ((H10.out.trans (hb'.trans (hV.mono (by omega)))).setCell (p := ⟨b0 + 3, 0, none⟩) (by show b0 ≤ b0 + 3; omega) _).setCell (p := ⟨b0 + 4, 0, none⟩) (by show b0 ≤ b0 + 4; omega) _
      rw [hW'] at ho hzs ⊢
      have hR : Rnd T (fun j => T' j ∨ j = b0 + 3 ∨ j = b0 + 4) A W' := by
        refine ⟨by omega, fun j hj hT => ?_, fun j hj => ?_⟩
        · have ht := fun h => hT ((H4.out j).2 h)
          rw [ho j (fun e => ht (.inr (.inl e))) (fun e => ht (.inr (.inr e))), hV.block j (by omega), hr'.block j hj (fun h => ht (.inl h))]
        · rcases hj with h | h
          · exact (hgr j h).imp (fun h => (H4.out j).2 (.inl h)) id
          · exact .inl ((H4.out j).2 (.inr h))
      refine ⟨fun j => T' j ∨ j = b0 + 3 ∨ j = b0 + 4, ⟨p.f + p.m, p.q + p.m, E ++ gap s u f p.f q p.q, T', ?_, g3, g4, fun j => Iff.rfl, n3, n4, ?_, O5.out, ?_, hBw, H11.out.trans hR⟩, hR⟩
      · refine hI'.keep (fun j hj => ?_)
        rw [ho j (fun e => n3 (e ▸ hj)) (fun e => n4 (e ▸ hj)), hV.block j (hI'.lt j hj)]
      · have := H7.out
        simp only [arl] at this
        rw [List.append_assoc]
        exact this
      · rw [List.length_append]
        have := gap_len s u f p.f q p.q
        omega
    have CE := Lib.hid (fun V => end_any ⟨p.f, ((p.f + p.m : Nat) : Int), p.q, x, true⟩ V (by simp only; omega) (by simp only; omega))
    simp only [Pc.val, hxs] at CE
    obtain ⟨m5, mf, mq⟩ := KW.out w1 (Below.refl _ _)
    obtain ⟨u0, u1, u2, u3, u4⟩ := cells5 m5
    have f3 := mf.frozen 0
    have f4 := mq.frozen 0
    have c3 : w1.cell? ⟨b0 + 3, 0, none⟩ = some (.int .i64 (f : Int)) := by simpa using mf.cell 0
    have c4 : w1.cell? ⟨b0 + 4, 0, none⟩ = some (.int .i64 (q : Int)) := by simpa using mq.cell 0
    have hmx : Try.prog.follows .mixedOrders = true := by kernel_rfl
    clear hI' hr' hb' k5 kf kq m5 mf mq hT4
    gi_region_with_o (first | (refine ⟨trivial, rfl, ?_⟩; gi_at_call 47; refine (CallsIn.inRound l' (callsIn_wide.2 (CE.out _))).mono ?_; rintro e w2 ⟨rfl, b2⟩; have hb2 := (Below.refl w1.heap.size w1).drew.trans b2; obtain ⟨m5, mf, mq⟩ := KW.out w2 hb2; obtain ⟨u0, u1, u2, u3, u4⟩ := cells5 m5; have f3 := mf.frozen 0; have f4 := mq.frozen 0; have c3 : w2.cell? ⟨b0 + 3, 0, none⟩ = some (.int .i64 (f : Int)) := (by simpa using mf.cell 0); have c4 : w2.cell? ⟨b0 + 4, 0, none⟩ = some (.int .i64 (q : Int)) := (by simpa using mq.cell 0)))
    all_goals
      have hfin := HFIN.out w2 hb2
      simp only [Int.natCast_add] at hfin
      exact hfin
  case done =>
    rintro T A hA hi hTw hKK
    obtain ⟨f, q, E, TI, h1, h2, h3, h4, h5, h6, h7, h8, h9, h10, h11⟩ := hi
    rw [List.drop_length] at h7 h8
    obtain ⟨o1, o2⟩ := h8
    have hn : ∀ j, j = b0 ∨ j = b0 + 1 ∨ j = b0 + 5 → ¬ T₀ j := fun j hj h => by have := (HT0.out j).1 h; omega
    have r0 : Boxed A b0 9 (.string s) := (h11.block b0 (by omega) (hn _ (.inl rfl))).trans Q0.out
    have r1 : Boxed A (b0 + 1) 9 (.string u) := (h11.block (b0 + 1) (by omega) (hn _ (.inr (.inl rfl)))).trans Q1.out
    have r5 : Boxed A (b0 + 5) 100 (.func (.func 63) #[] #[.pointer (some ⟨b0 + 1 + 1 + 1, 0, none⟩), .pointer (some ⟨b0 + 1, 0, none⟩), .pointer (some ⟨b0 + 1 + 1 + 1 + 1, 0, none⟩), .pointer (some ⟨b0, 0, none⟩), .pointer (some ⟨b0 + 1 + 1, 0, none⟩)]) := (h11.block (b0 + 5) (by omega) (hn _ (.inr (.inr rfl)))).trans Q5.out
    have c0 := r0.cell
    have c1 := r1.cell
    have c5 := r5.cell
    have CR := Lib.hid (rep_any s u (b0 + 1 + 1 + 1) (b0 + 1) (b0 + 1 + 1 + 1 + 1) b0 (b0 + 1 + 1) b0 f q s.size u.size TI E A hs hu o1 (Nat.le_refl _) o2 (Nat.le_refl _) (by omega) h2 r1 h3 r0 h1 (by omega))
    have h7' : E ++ gap s u f s.size q u.size = arl s u 0 0 K := h7
    have H7 := Lib.hid h7'; have H10 := Lib.hid h10; have HKK := Lib.hid hKK
    have hTI : ¬ TI W0.heap.size := fun h => hTw ((h4 _).2 (.inl h))
    clear h1 h2 h3 h4 h7 h7' h10 h11 hKK r0 r1 r5 hn
    gi_wp2_with (refine ⟨trivial, rfl, ?_⟩; gi_at_call 63; refine (callsIn_wide.2 CR.out).mono ?_; rintro e w1 ⟨⟨rv, rfl⟩, ⟨T', hI', hr'⟩, hb'⟩; rw [H7.out] at hI'; obtain ⟨v', hk', hown', hn', hT'⟩ := hI'; obtain ⟨_, ao, co, rfl, hES⟩ := es_of_own hown'; have c7 : w1.cell? ⟨b0 + 1 + 1, 0, none⟩ = _ := hk'.cell 0; simp only [List.getElem?_toArray, List.getElem?_cons_zero] at c7)
    have hTn : ¬ T' W0.heap.size := fun h => (hr'.grew _ h).elim hTI (fun e => by omega)
    have hd : w1.heap[W0.heap.size]? = some (.deferred (some [])) := (hr'.block _ (by omega) hTI).trans HKK.out
    have hown2 := own_same (C := w1.putObj W0.heap.size (.deferred none)) hown' (fun g hg => World.putObj_heap_other (fun e => hTn (e ▸ (hT' g).2 (.inr hg))))
    obtain ⟨_, a2, c2, heq, hES2⟩ := es_of_own hown2
    cases heq
    have hF : Below w.heap.size w (w1.putObj W0.heap.size (.deferred none)) := by
      rw [hb0]
      exact (H10.out.trans hb').trans ⟨rfl, rfl, rfl, by simp, fun k hk => World.putObj_heap_other (by omega)⟩
    rw [hz0] at hd hES2 hF
    refine ⟨by simp, .inl ⟨_, _, rfl, run_takeDeferred hd, ?_⟩⟩
    exact ⟨_, results_tmp rfl _ _ _, _, _, rfl, hES2, hF⟩

end Go.Proofs.Ytfhpllcdlejfjaa
