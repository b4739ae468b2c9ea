/- Tokens: the program's iterator of the tokens of a text. Conditions: texts of at most 100000 bytes; the tables lie in memory. -/
import Derived.Test.YtgfhhpodcnohpaaDoorLFi
import Derived.Test.YtgfhhpodcnohpaaDoorGiv
namespace Go.Proofs.YtgfhhpodcnohpaaDoor
open Go.RowKit Go.Shelf Go.Lib
set_option linter.unusedVariables false
attribute [local go_sem] Oper.semAt_some

/-- The bytes as a text. -/
def tbs (l : List Int) : ByteArray := ⟨(l.map fun c => UInt8.ofNat c.toNat).toArray⟩
theorem tbs_sb (s : ByteArray) : tbs (sb s) = s := by
  unfold tbs sb
  rw [List.map_map]
  have : ((fun c : Int => UInt8.ofNat c.toNat) ∘ fun c : UInt8 => (c.toNat : Int)) = id := by funext c; simp
  rw [this, List.map_id]
abbrev Tk := Int × List Int × Nat
/-- A token as a value, and its cells. -/
def tkVal (t : Tk) : Value := .agg #[.int .i64 t.1, .string (tbs t.2.1), .int .i64 (t.2.2 : Int)]
def tkCs (t : Tk) : List Value := [.int .i64 t.1, .string (tbs t.2.1), .int .i64 (t.2.2 : Int)]
def tg (L : List Tk) (k : Nat) : Tk := (L[k]?).getD (0, [], 0)
theorem tg_drop {L : List Tk} {k : Nat} {x : Tk} {r : List Tk} (h : L.drop k = x :: r) : k < L.length ∧ tg L k = x ∧ L.drop (k + 1) = r := by
  have h1 : k < L.length := by
    rcases Nat.lt_or_ge k L.length with h1 | h1
    · exact h1
    · rw [List.drop_eq_nil_of_le h1] at h; cases h
  rw [List.drop_eq_getElem_cons h1] at h
  injection h with h2 h3
  refine ⟨h1, ?_, h3⟩
  unfold tg
  rw [List.getElem?_eq_getElem h1, h2]
  rfl

/-- The blocks in which the lexer's tables lie. -/
def LexB (w : World) (k : Nat) : Prop :=
  k = 0 ∨ k = 6 ∨ (∃ a n cap, w.cell? ⟨0, 0, none⟩ = some (.slice (some a) n cap) ∧ k = a.block) ∨
    (∃ a n cap, w.cell? ⟨6, 0, none⟩ = some (.slice (some a) n cap) ∧ k = a.block)
theorem Tab.keep {g : Nat} {L : List (List Int)} {w w' : World} (h : Tab g L w) (hg : w'.heap[g]? = w.heap[g]?) (ha : ∀ a n cap, w.cell? ⟨g, 0, none⟩ = some (.slice (some a) n cap) → w'.heap[a.block]? = w.heap[a.block]?) : Tab g L w' := by
  obtain ⟨a, cap, Sx, h1, h2, h3⟩ := h
  have hb := ha _ _ _ h1
  refine ⟨a, cap, Sx, (World.cell?_of_block (w := w) (w' := w') (a := ⟨g, 0, none⟩) hg).trans h1, fun i hi => ?_, h3⟩
  have hb' : w'.heap[(a.add i).block]? = w.heap[(a.add i).block]? := by
    have e : (a.add i).block = a.block := by unfold Addr.add; split <;> rfl
    rw [e]
    exact hb
  exact (World.cell?_of_block (w := w) (w' := w') (a := a.add i) hb').trans (h2 i hi)
theorem LexT.keep {w w' : World} (h : LexT w) (hb : ∀ k, LexB w k → w'.heap[k]? = w.heap[k]?) : LexT w' :=
  ⟨h.kw.keep (hb _ (.inl rfl)) (fun a n cap e => hb _ (.inr (.inr (.inl ⟨a, n, cap, e, rfl⟩)))), h.sy.keep (hb _ (.inr (.inl rfl))) (fun a n cap e => hb _ (.inr (.inr (.inr ⟨a, n, cap, e, rfl⟩))))⟩
theorem LexB.lt {w : World} (h : LexT w) {k : Nat} (hk : LexB w k) : k < w.heap.size := by
  have tab : ∀ {g : Nat} {L : List (List Int)}, 0 < L.length → Tab g L w → g < w.heap.size ∧ ∀ a n cap, w.cell? ⟨g, 0, none⟩ = some (.slice (some a) n cap) → a.block < w.heap.size := by
    rintro g L hL ⟨a, cap, Sx, h1, h2, h3⟩
    refine ⟨World.block_lt_of_cell? w ⟨g, 0, none⟩ h1, fun a' n cap' e => ?_⟩
    rw [h1] at e
    cases e
    exact World.block_lt_of_cell? w (a.add 0) (h2 0 hL)
  have t1 := tab (by decide) h.kw
  have t2 := tab (by decide) h.sy
  rcases hk with rfl | rfl | ⟨a, n, cap, e, rfl⟩ | ⟨a, n, cap, e, rfl⟩
  · exact t1.1
  · exact t2.1
  · exact t1.2 _ _ _ e
  · exact t2.2 _ _ _ e

set_option maxRecDepth 100000 in
set_option maxHeartbeats 2000000 in
theorem toks_giv (s : ByteArray) (bs : Nat) (w : World) (hs : s.size ≤ 100000) (hbs : Boxed w bs 9 (.string s)) (hT : LexT w) :
    Giv Tryd.prog 75 #[.pointer (some ⟨bs, 0, none⟩)] (fun k => #[tkVal (tg (lex (sb s) 0) k)]) (lex (sb s) 0).length (fun k => k = bs ∨ LexB w k) w := by
  intro l J T₀ W hW hR hB hO hY h0
  obtain ⟨L, hL⟩ : ∃ L, lex (sb s) 0 = L := ⟨_, rfl⟩
  rw [hL] at hY ⊢
  dsimp only at hY hR
  have hbs1 : Boxed W bs 9 (.string s) := (hW.block bs hbs.lt).trans hbs
  have hlbs := hbs1.lt
  have hsz := hW.size
  have HKL : Hid (∀ wr, (∀ k, k < W.heap.size → ¬ T₀ k → wr.heap[k]? = W.heap[k]?) → LexT wr) := Lib.hid fun wr h => by
    refine hT.keep fun k hk => ?_
    have hlt := LexB.lt hT hk
    rw [h k (by omega) (hR k (.inr hk)), hW.block k hlt]
  have HL0 : Hid (lex ((sb s).drop 0) 0 = L.drop 0) := Lib.hid (by rw [List.drop_zero, List.drop_zero]; exact hL)
  have HR := Lib.hid hR; have HB := Lib.hid hB; have HO := Lib.hid hO; have HY := Lib.hid hY; have HBS := Lib.hid hbs1
  clear hR hB hO hY hbs hbs1 hT hL
  refine callsIn_of_wp Tryd.func75 rfl trivial ?_ rfl
  simp only [Tryd.ntmps75, List.size_toArray, List.length_cons, List.length_nil, Nat.reduceAdd, Nat.reduceSub, Array.replicate_succ, Array.replicate_zero, List.push_toArray, List.append_toArray, List.nil_append, List.cons_append]
  gi_wp2
  gi_loopw [3] (fun v wr => ∃ (k q : Nat) (T : Nat → Prop), v = .int .i64 (q : Int) ∧ q ≤ s.size ∧ k ≤ L.length ∧ Hid (lex ((sb s).drop q) q = L.drop k) ∧ Hid (J k T wr) ∧ Hid (Rnd T₀ T W wr)) (fun v _ => s.size - (RowKit.intOf v).toNat)
  case atStart => exact ⟨0, 0, T₀, rfl, Nat.zero_le _, Nat.zero_le _, HL0, h0, Rnd.refl _ _⟩
  case round =>
    obtain ⟨k, q, T, rfl, hq, hkl, HP, HJ, HRn⟩ := hrel
    have hwbs : wr.heap[bs]? = W.heap[bs]? := HRn.out.block bs hlbs (HR.out bs (.inl rfl))
    have hcs : Boxed wr bs 9 (.string s) := hwbs.trans HBS.out
    have cs := hcs.cell
    by_cases hlt : q < s.size
    · have hltz : (q : Int) < (s.size : Int) := by omega
      have g0 : (0 : Int) ≤ (q : Int) := by omega
      have g1 : (q : Int) ≤ (s.size : Int) := by omega
      obtain ⟨u, hu⟩ : ∃ u, s.extract q s.size = u := ⟨_, rfl⟩
      have huz : u.size = s.size - q := by rw [← hu, ByteArray.size_extract]; omega
      have hus : sb u = (sb s).drop q := by rw [← hu, sbExt, ← sb_len, List.take_length]
      have hne : (sb s).drop q ≠ [] := by
        intro e
        have := congrArg List.length e
        rw [List.length_drop, sb_len, List.length_nil] at this
        omega
      have hst := lex_step hne q
      have hfp := fst_pos hne
      rw [List.length_drop, sb_len] at hfp
      have hLT : LexT wr := HKL.out wr (fun j h1 h2 => HRn.out.block j h1 h2)
      have c0 := first_any u (by omega) (by omega) wr hLT
      unfold FstP at c0
      rw [hus] at c0
      obtain ⟨⟨kd, n⟩, hkn⟩ : ∃ x, fst_ ((sb s).drop q) = x := ⟨_, rfl⟩
      rw [hkn] at c0 hst hfp
      simp only at c0 hst hfp
      rw [HP.out] at hst
      obtain ⟨hkL, htg, hdr⟩ := tg_drop hst
      have htx : tbs (((sb s).drop q).take n) = s.extract q (q + n) := by
        rw [← tbs_sb (s.extract q (q + n)), sbExt, List.drop_take, show q + n - q = n by omega]
      have C0 := Lib.hid c0
      have g2 : (q : Int) + (n : Int) ≤ (s.size : Int) := by omega
      have g3 : (q : Int) ≤ (q : Int) + (n : Int) := by omega
      have HDR : Hid (lex ((sb s).drop (q + n)) (q + n) = L.drop (k + 1)) := Lib.hid (by rw [hdr, List.drop_drop])
      have HVL : Hid (tkVal (tg L k) = .agg #[.int .i64 kd, .string (s.extract q (q + n)), .int .i64 (q : Int)]) := Lib.hid (by rw [htg]; unfold tkVal; rw [htx])
      clear c0 hst hdr htg htx hne hus huz hwbs hLT hkn
      have hcl := hcs.lt
      gi_wp2_with (first | (refine ⟨trivial, rfl, ?_⟩; gi_at_call 76; refine (callsIn_wide.2 C0.out).mono ?_; rintro e w1 ⟨rfl, hb1⟩
                            have cs1 : w1.cell? ⟨bs, 0, none⟩ = some (.string s) := (hb1.cell (p := ⟨bs, 0, none⟩) hcl).trans cs
                            have hJ1 := HO.out _ _ _ _ HJ.out (Oth.of_below hb1)
                            have hRn1 := HRn.out.trans (Rnd.of_below hb1)
                            have hY1 := HY.out k T w1 hkL hRn1.size hJ1
                            rw [HVL.out] at hY1
                            obtain ⟨fn, tmps, assign, body, hy, hR1⟩ := hY1
                            have HR1 := Lib.hid hR1
                            have HRn1 := Lib.hid hRn1
                            clear hR1 hRn1 hJ1 hb1))
      refine ⟨rfl, HR1.out.mono ?_⟩
      rintro e W4 ⟨rfl, T4, hJ4, hr4⟩
      have HJ4 := Lib.hid hJ4
      have HRn4 := Lib.hid (HRn1.out.trans hr4)
      clear hJ4 hr4 hy HR1
      gi_wp2
      go_roundw
      case rel => exact ⟨k + 1, q + n, T4, by go_num, by omega, by omega, HDR, HJ4, HRn4⟩
      case measure => simp only [RowKit.intOf, Int.toNat_natCast]; omega
    · have hq2 : q = s.size := by omega
      have hkL : k = L.length := by
        have h1 := HP.out
        rw [List.drop_eq_nil_of_le (by rw [sb_len]; omega), lex_nil] at h1
        have := congrArg List.length h1
        rw [List.length_nil, List.length_drop] at this
        omega
      have hltz : ¬ (q : Int) < (s.size : Int) := by omega
      rw [hkL] at HJ
      gi_wp2
      go_end0
      exact ⟨⟨_, rfl⟩, T, HJ.out⟩

end Go.Proofs.YtgfhhpodcnohpaaDoor
