/- Tokens: what separates two tokens that are joined; texts one after the other. Conditions: texts of at most 100000 bytes; the tables lie in memory. -/
import Derived.Test.YtgfhhpodcnohpaaDoorLPo
import Derived.Test.YtgfhhpodcnohpaaDoorStr
import Derived.Lib.BufferWrite
import Derived.Laws.CopyOwn
namespace Go.Proofs.YtgfhhpodcnohpaaDoor
open Go.RowKit Go.Shelf
set_option linter.unusedVariables false

/-- What separates two neighbours. -/
def sepB (a b : ByteArray) : ByteArray := if (fst_ (sb a)).1 = 1 ∨ ((fst_ (sb a)).1 = 8 ∧ (sb a).head? = some 34) then ⟨#[10]⟩ else if (fst_ (sb (a ++ b))).2 ≠ a.size then ⟨#[32]⟩ else ⟨#[]⟩
theorem sepB_size (a b : ByteArray) : (sepB a b).size ≤ 1 := by
  unfold sepB
  split
  · exact Nat.le_refl 1
  · split
    · exact Nat.le_refl 1
    · exact Nat.zero_le 1

set_option maxRecDepth 100000 in
set_option maxHeartbeats 1000000 in
theorem between_any (a b : ByteArray) (hs : a.size + b.size ≤ 100000) (h0 : 0 < a.size) (w : World) (hT : LexT w) :
    Calls Tryd.prog 54 #[.string a, .string b] w fun e w' => e = .returned (.string (sepB a b)) ∧ Below w.heap.size w w' := by
  have hp0 : (0 : Nat) < a.size := h0
  have hsz : (a ++ b).size = a.size + b.size := ByteArray.size_append
  have c0 := first_any a (by omega) h0 w hT
  have d0 := fun W h => first_any (a ++ b) (by omega) (by omega) W h
  unfold FstP at c0 d0
  unfold sepB
  rw [head_at a h0]
  obtain ⟨c, hc⟩ : ∃ c : Int, ((a[0]'h0).toNat : Int) = c := ⟨_, rfl⟩
  rw [hc]
  obtain ⟨⟨k, n⟩, hk⟩ : ∃ x, fst_ (sb a) = x := ⟨_, rfl⟩
  obtain ⟨⟨k2, n2⟩, hk2⟩ : ∃ x, fst_ (sb (a ++ b)) = x := ⟨_, rfl⟩
  rw [hk] at c0 ⊢
  rw [hk2] at d0 ⊢
  simp only [Option.some.injEq] at c0 d0 ⊢
  have C0 := Lib.hid c0
  have D0 := Lib.hid d0
  have HT := Lib.hid hT
  have hcat : a.size + b.size ≤ 9223372036854775807 := by omega
  clear c0 d0 hT hk hk2 hs hsz
  by_cases q1 : k = 1
  · have Q1 : (k == 1) = true := beq_iff_eq.2 q1
    rw [if_pos (.inl q1)]
    clear q1
    go_enter Tryd.func54, Tryd.ntmps54
    go_wp2_with fail
    refine C0.out.mono ?_
    rintro e w1 ⟨rfl, hb⟩
    have HB := Lib.hid hb
    clear hb
    go_wp2
    go_ret
    exact ⟨rfl, HB.out⟩
  · have Q1 : (k == 1) = false := beq_eq_false_iff_ne.2 q1
    by_cases q2 : k = 8 ∧ c = 34
    · have Q8 : (k == 8) = true := beq_iff_eq.2 q2.1
      have Qc : (c == 34) = true := beq_iff_eq.2 q2.2
      rw [if_pos (.inr q2)]
      clear q1 q2
      go_enter Tryd.func54, Tryd.ntmps54
      go_wp2_with fail
      refine C0.out.mono ?_
      rintro e w1 ⟨rfl, hb⟩
      have HB := Lib.hid hb
      clear hb
      go_wp2
      go_ret
      exact ⟨rfl, HB.out⟩
    · rw [if_neg (by intro h; rcases h with h | h; exact q1 h; exact q2 h)]
      have Q : (k == 8) = false ∨ ((k == 8) = true ∧ (c == 34) = false) := by
        by_cases h8 : k = 8
        · exact .inr ⟨beq_iff_eq.2 h8, beq_eq_false_iff_ne.2 fun h => q2 ⟨h8, h⟩⟩
        · exact .inl (beq_eq_false_iff_ne.2 h8)
      have hne : ((n2 : Int) != (a.size : Int)) = decide (n2 ≠ a.size) := by
        by_cases e : n2 = a.size
        · rw [decide_eq_false (by simpa using e), e]; simp
        · rw [decide_eq_true e, bne_iff_ne]; omega
      clear q1 q2
      have HNE := Lib.hid hne
      clear hne
      by_cases q3 : n2 ≠ a.size
      · rw [if_pos q3]
        have Q3 : ((n2 : Int) != (a.size : Int)) = true := by rw [HNE.out, decide_eq_true q3]
        clear q3 HNE
        rcases Q with Q8 | ⟨Q8, Qc⟩
        · go_enter Tryd.func54, Tryd.ntmps54
          go_wp2_with fail
          refine C0.out.mono ?_
          rintro e w1 ⟨rfl, hb⟩
          have HB := Lib.hid hb
          have HT1 := Lib.hid (HT.out.below hb)
          clear hb
          go_wp2_with fail
          refine (D0.out _ HT1.out).mono ?_
          rintro e w2 ⟨rfl, hb⟩
          have HB2 := Lib.hid (HB.out.trans (hb.mono HB.out.size))
          clear hb
          go_wp2
          go_ret
          exact ⟨rfl, HB2.out⟩
        · go_enter Tryd.func54, Tryd.ntmps54
          go_wp2_with fail
          refine C0.out.mono ?_
          rintro e w1 ⟨rfl, hb⟩
          have HB := Lib.hid hb
          have HT1 := Lib.hid (HT.out.below hb)
          clear hb
          go_wp2_with fail
          refine (D0.out _ HT1.out).mono ?_
          rintro e w2 ⟨rfl, hb⟩
          have HB2 := Lib.hid (HB.out.trans (hb.mono HB.out.size))
          clear hb
          go_wp2
          go_ret
          exact ⟨rfl, HB2.out⟩
      · rw [if_neg q3]
        have Q3 : ((n2 : Int) != (a.size : Int)) = false := by rw [HNE.out, decide_eq_false q3]
        clear q3 HNE
        rcases Q with Q8 | ⟨Q8, Qc⟩
        · go_enter Tryd.func54, Tryd.ntmps54
          go_wp2_with fail
          refine C0.out.mono ?_
          rintro e w1 ⟨rfl, hb⟩
          have HB := Lib.hid hb
          have HT1 := Lib.hid (HT.out.below hb)
          clear hb
          go_wp2_with fail
          refine (D0.out _ HT1.out).mono ?_
          rintro e w2 ⟨rfl, hb⟩
          have HB2 := Lib.hid (HB.out.trans (hb.mono HB.out.size))
          clear hb
          go_wp2
          go_ret
          exact ⟨rfl, HB2.out⟩
        · go_enter Tryd.func54, Tryd.ntmps54
          go_wp2_with fail
          refine C0.out.mono ?_
          rintro e w1 ⟨rfl, hb⟩
          have HB := Lib.hid hb
          have HT1 := Lib.hid (HT.out.below hb)
          clear hb
          go_wp2_with fail
          refine (D0.out _ HT1.out).mono ?_
          rintro e w2 ⟨rfl, hb⟩
          have HB2 := Lib.hid (HB.out.trans (hb.mono HB.out.size))
          clear hb
          go_wp2
          go_ret
          exact ⟨rfl, HB2.out⟩

/-- Texts lie in memory behind a slice. -/
def StrIn (w : World) (a : Option Addr) (B : List ByteArray) : Prop := B = [] ∨ ∃ p, a = some p ∧ ∀ i, i < B.length → w.cell? (p.add i) = some (.string (B.getD i ⟨#[]⟩))
theorem StrIn.below {w w' : World} {a : Option Addr} {B : List ByteArray} (h : StrIn w a B) (hb : Below w.heap.size w w') : StrIn w' a B := by
  rcases h with h | ⟨p, hp, hc⟩
  · exact .inl h
  · exact .inr ⟨p, hp, fun i hi => (hb.cell (World.block_lt_of_cell? w _ (hc i hi))).trans (hc i hi)⟩
theorem strIn_own {w : World} {base n : Nat} {e : TypeId} {v : Value} {B : List ByteArray} (h : w.ownsRow base e 1 v n (B.map Value.string)) : ∃ a cap, v = .slice a n cap ∧ n = B.length ∧ StrIn w a B := by
  have hn : n = B.length := by have := h.1; simp at this; omega
  rcases h.2 with ⟨rfl, h0⟩ | ⟨g, cap, cur, rfl, _⟩
  · exact ⟨none, 0, by rw [h0], hn, .inl (List.eq_nil_of_length_eq_zero (by omega))⟩
  · refine ⟨_, cap, rfl, hn, .inr ⟨_, rfl, fun i hi => ?_⟩⟩
    rw [show (⟨g, 0, none⟩ : Addr).add i = ⟨g, i, none⟩ by by_cases h0 : i = 0 <;> simp [Addr.add, h0], h.cellAt i (by omega), List.getElem?_map, List.getElem?_eq_getElem hi]
    simp [List.getD, hi]

/-- The bytes of texts one after the other. -/
def flat (B : List ByteArray) : List Int := (B.map sb).flatten
theorem flat_take (B : List ByteArray) (k : Nat) (h : k < B.length) : flat (B.take (k + 1)) = flat (B.take k) ++ sb (B.getD k ⟨#[]⟩) := by
  unfold flat
  rw [List.take_succ_eq_append_getElem h, List.map_append, List.flatten_append]
  simp [List.getD, h]
theorem flat_take_le (B : List ByteArray) (k : Nat) : (flat (B.take k)).length ≤ (flat B).length := by
  have : flat B = flat (B.take k) ++ flat (B.drop k) := by
    unfold flat
    rw [← List.flatten_append, ← List.map_append, List.take_append_drop]
  rw [this, List.length_append]
  omega
theorem flat_byt (B : List ByteArray) : Byt (flat B) := fun c hc => by
  obtain ⟨l, hl, h2⟩ := List.mem_flatten.1 hc
  obtain ⟨s, _, rfl⟩ := List.mem_map.1 hl
  exact sb_byt s c h2

theorem byteCells_sb (s : ByteArray) : Lib.byteCells s.data.toList = (sb s).map (Value.int .u8) := by
  unfold Lib.byteCells sb
  rw [List.map_map]
  rfl
theorem wpList_copy_str {P : Program} {w : World} {ops : Array Oper} {rest : List Oper} {o : Oper} {a : Act} {Q : Exit → Act → World → Prop} (hgd : o.guard = none) (d s : Operand) (dT sT : TypeId)
    (ho : o.op = .call { callee := .builtin .copy, args := #[d, s], argTypes := #[dT, sT] }) (elem : TypeId) (hu : P.underlying dT = some (.slice elem)) (hsz : (P.info? elem).map (·.size) = some 1)
    (dp : Option Addr) (dLen dCap : Nat) (S : ByteArray) (hd : a.eval d = .slice dp dLen dCap) (hs : a.eval s = .string S)
    (g off : Nat) (cur : List Value) (t : TypeId) (hg : w.heap[g]? = some (.cells cur.toArray t (0, 0))) (hle : S.size ≤ dLen)
    (hpos : 0 < S.size → dp = some ⟨g, off, none⟩) (hfit : off + S.size ≤ cur.length) (B : Nat) (w0 : World) (hb : Below B w0 w) (hBg : B ≤ g)
    (h : ∀ w', Hid (w'.heap[g]? = some (.cells (splice cur off ((sb S).map (Value.int .u8))).toArray t (0, 0))) → Below B w0 w' → wpList P ops Q rest (a.put o.dst (goInt S.size)) w') :
    wpList P ops Q (o :: rest) a w := by
  refine wpList_plain hgd fun K hK => ?_
  by_cases h0 : S.size = 0
  · have hrun := Lib.run_copy_empty_string (P := P) w dT sT o.type elem dp dLen dCap S hu (by cases hq : P.info? elem <;> simp_all) h0
    unfold Oper.wp
    simp [execOp, ho, resolve, invoke, builtin, hd, hs, hrun, Result.andThen]
    have hsb : sb S = [] := List.eq_nil_of_length_eq_zero (by rw [sb_len]; exact h0)
    have := h w (show _ = _ by simpa [splice, hsb] using hg) hb
    rw [h0] at this
    exact hK _ _ this
  · have hdp := hpos (by omega)
    subst hdp
    have hrun := Lib.run_copy_row_string (P := P) w dT sT o.type elem g off dLen dCap S cur.toArray t hu hsz hg hle (by simpa using hfit)
    unfold Oper.wp
    simp [execOp, ho, resolve, invoke, builtin, hd, hs, hrun, Result.andThen]
    refine hK _ _ (h _ (show _ = _ from ?_) (below_setRow hb hBg _))
    rw [setRow_heap w g _ _ t _ hg]
    congr 2
    simp only [splice, ← byteCells_sb, Lib.byteCells_length]
    have : S.data.toList.length = S.size := rfl
    rw [this]

end Go.Proofs.YtgfhhpodcnohpaaDoor
