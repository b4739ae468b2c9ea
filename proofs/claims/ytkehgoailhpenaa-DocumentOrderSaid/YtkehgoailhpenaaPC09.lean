/- Texts of one claim, put together: DCl, DRcv, DNew, DFrm, DSnc, DLv0, DLv, DOr, DCm, DPrt. Each part says what it proves and under which conditions. -/
import Derived.Test.YtkehgoailhpenaaPC08
import Derived.OwnWalk
import Derived.Lib.SliceRun
import Derived.Deep.RegionWith
import Derived.Lib.MinMax

/- The contracts of slices.Clone at edits by positions and at edits by offsets. Conditions: at most 100000 of them. -/
namespace Go.Proofs.Ytkehgoailhpenaa
open Go.RowKit Go.Shelf Go.Maps
set_option linter.unusedVariables false

theorem infoPE : (Try.prog.info? 59).map (fun i => (i.zero, i.size, i.bytes)) = some (some (.agg #[.int .i64 0, .int .i64 0, .int .i64 0, .int .i64 0, .string ⟨#[]⟩]), 5, 48) := by kernel_rfl
theorem infoEE : (Try.prog.info? 82).map (fun i => (i.zero, i.size, i.bytes)) = some (some (.agg #[.int .i64 0, .int .i64 0, .string ⟨#[]⟩]), 3, 32) := by kernel_rfl
theorem own_empty (w : World) (e : TypeId) (size : Nat) : (w.alloc (.cells #[] e)).ownsRow w.heap.size e size (.slice (some ⟨w.heap.size, 0, none⟩) 0 0) 0 [] :=
  ⟨by simp, .inr ⟨w.heap.size, 0, #[], rfl, Nat.le_refl _, World.alloc_heap_new w _, Nat.le_refl _, by unfold maxLen; omega, by simp, by simp⟩⟩
/-- The cells of edits by positions. -/
def pv (ps : List PE) : List Value := ps.flatMap PE.vals
theorem pv_len (ps : List PE) : (pv ps).length = ps.length * 5 := by
  induction ps with
  | nil => rfl
  | cons p ps ih => simp only [pv, List.flatMap_cons, List.length_append] at ih ⊢; rw [ih]; simp [PE.vals]; omega
theorem pv_get : ∀ (ps : List PE) (k i : Nat), k < ps.length → i < 5 → (pv ps)[k * 5 + i]? = (pG ps k).vals[i]? := by
  intro ps
  induction ps with
  | nil => intro k i h; simp at h
  | cons p ps ih =>
    intro k i hk hi
    have e : pv (p :: ps) = p.vals ++ pv ps := rfl
    rw [e]
    cases k with
    | zero => rw [List.getElem?_append_left (by simp [PE.vals]; omega)]; simp [pG]
    | succ k =>
      rw [List.getElem?_append_right (by simp [PE.vals]; omega), show (k + 1) * 5 + i - p.vals.length = k * 5 + i by simp [PE.vals]; omega, ih k i (by simpa using hk) hi]
      simp [pG]
theorem div_ex {k n c : Nat} (hc : 0 < c) (h : k < n * c) : ∃ a b, k = a * c + b ∧ b < c ∧ a < n := by
  refine ⟨k / c, k % c, ?_, Nat.mod_lt _ hc, ?_⟩
  · have := Nat.div_add_mod k c; rw [Nat.mul_comm] at this; omega
  · exact Nat.div_lt_of_lt_mul (by rw [Nat.mul_comm]; exact h)
theorem addr_add (b off j : Nat) : (⟨b, off, none⟩ : Addr).add j = ⟨b, off + j, none⟩ := by
  by_cases h : j = 0 <;> simp [Addr.add, h]
theorem pscells_at {B : Nat} {w : World} {b off cap : Nat} {ps : List PE} (h : ∀ k, k < ps.length → ∀ i, i < 5 → w.cell? ⟨b, off + k * 5 + i, none⟩ = (pG ps k).vals[i]?) : ∀ j u, (pv ps)[j]? = some u → w.cell? ((⟨b, off, none⟩ : Addr).add j) = some u := by
  intro j u hj
  have hlt : j < ps.length * 5 := by
    have := (List.getElem?_eq_some_iff.1 hj).1
    rwa [pv_len] at this
  obtain ⟨k, i, rfl, hi, hk⟩ := div_ex (by omega) hlt
  rw [pv_get ps k i hk hi] at hj
  rw [← hj, ← h k hk i hi]
  rw [addr_add, Nat.add_assoc]
theorem escells_at {w : World} {b off : Nat} {es : List Er} (h : ∀ k, k < es.length → ∀ i, i < 3 → w.cell? ⟨b, off + k * 3 + i, none⟩ = (eg es k).vals[i]?) : ∀ j u, (rv es)[j]? = some u → w.cell? ((⟨b, off, none⟩ : Addr).add j) = some u := by
  intro j u hj
  have hlt : j < es.length * 3 := by
    have := (List.getElem?_eq_some_iff.1 hj).1
    rwa [rv_len] at this
  obtain ⟨k, i, rfl, hi, hk⟩ := div_ex (by omega) hlt
  rw [rv_get es k i hk hi] at hj
  rw [← hj, ← h k hk i hi]
  rw [addr_add, Nat.add_assoc]
theorem ps_of_own {w : World} {lo n : Nat} {v : Value} {ps : List PE} (h : w.ownsRow lo 59 5 v n (pv ps)) : n = ps.length ∧ ∃ a cap, v = .slice a ps.length cap ∧ PS w.heap.size w a cap ps ∧ ∀ b, blkOf a b → lo ≤ b := by
  have hn : n = ps.length := by have := h.1; rw [pv_len] at this; omega
  subst hn
  refine ⟨rfl, ?_⟩
  rcases h.2 with ⟨rfl, h0⟩ | ⟨g, cap, cur, rfl, hb, hg, hle, hmx, _⟩
  · rw [h0]
    exact ⟨none, 0, rfl, ⟨by omega, by omega, .inl h0⟩, fun b hb => by obtain ⟨_, hb⟩ := hb; cases hb⟩
  · refine ⟨_, cap, rfl, ⟨hle, by unfold maxLen at hmx; omega, .inr ⟨g, 0, rfl, (Array.getElem?_eq_some_iff.1 hg).1, fun k hk i hi => ?_⟩⟩, fun b hb' => by obtain ⟨_, hb'⟩ := hb'; cases hb'; exact hb⟩
    have hlt : k * 5 + i < (pv ps).length := by rw [pv_len]; omega
    rw [Nat.zero_add, h.cellAt (k * 5 + i) (by first | exact hlt | (rw [pv_len] at hlt; omega)), pv_get ps k i hk hi]
theorem es_of_own2 {w : World} {lo n : Nat} {v : Value} {es : List Er} (h : w.ownsRow lo 82 3 v n (rv es)) : n = es.length ∧ ∃ a cap, v = .slice a es.length cap ∧ ES w.heap.size w a cap es ∧ ∀ b, blkOf a b → lo ≤ b := by
  obtain ⟨hn, a, cap, hv, hE⟩ := es_of_own h
  refine ⟨hn, a, cap, hv, hE, fun b hb => ?_⟩
  obtain ⟨off, rfl⟩ := hb
  exact (h.lt b (by rw [hv]; rfl)).1

theorem PE_one (ps : List PE) : ∀ u ∈ pv ps, u.oneCell' = true := by
  intro u hu
  obtain ⟨p, _, hp⟩ := List.mem_flatMap.1 hu
  simp only [PE.vals, List.mem_cons, List.not_mem_nil, or_false] at hp
  rcases hp with rfl | rfl | rfl | rfl | rfl <;> rfl
theorem EE_one (es : List Er) : ∀ u ∈ rv es, u.oneCell' = true := by
  intro u hu
  obtain ⟨p, _, hp⟩ := List.mem_flatMap.1 hu
  simp only [Er.vals, List.mem_cons, List.not_mem_nil, or_false] at hp
  rcases hp with rfl | rfl | rfl <;> rfl

set_option maxRecDepth 100000 in
set_option maxHeartbeats 2000000 in
theorem clonep_any (a : Option Addr) (cap : Nat) (ps : List PE) (w : World) (hn : ps.length ≤ 100000) (h : PS w.heap.size w a cap ps) :
    Calls Try.prog 37 #[.slice a ps.length cap] w fun e w' => ∃ a' c', e = .returned (.slice a' ps.length c') ∧ PS w'.heap.size w' a' c' ps ∧ (∀ b, blkOf a' b → w.heap.size ≤ b) ∧ Below w.heap.size w w' := by
  obtain ⟨i0, hi, hz0, hz1, hz2⟩ := info_parts infoPE
  obtain ⟨n, hn'⟩ : ∃ n, ps.length = n := ⟨_, rfl⟩
  have hle := h.le
  have hmx := h.mx
  have q1 : ∀ (w : World) (a : Option Addr) (n c n' c' : Nat), (binOp .eql 32 (.slice a n c) (.slice none n' c')).run Try.prog w = .ok (.bool a.isNone) w := fun w a n c n' c' => Lib.run_eql_slice_nil w _ _ a n c n' c' Try.underlying32
  have u1 : ∀ w, Sem.run Try.prog (underlying 32) w = .ok (TypeDesc.slice 59) w := run_underlying Try.underlying32
  have hl2 : (pv ps).length = n * 5 := by rw [pv_len, hn']
  rw [hn'] at hle hn ⊢
  cases a with
  | none =>
    have h0 : ps.length = 0 := by
      rcases h.cells with h0 | ⟨b, off, hb, _⟩
      · exact h0
      · cases hb
    obtain rfl : n = 0 := by omega
    have HN := Lib.hid h0
    clear h hl2 hn' h0
    go_enter Try.func37, Try.ntmps37
    go_wp2
    go_ret
    exact ⟨none, 0, rfl, ⟨by rw [HN.out]; omega, by omega, .inl HN.out⟩, (fun b hb => by obtain ⟨_, hb⟩ := hb; cases hb), Below.refl _ _⟩
  | some ad =>
    have hc : ∀ j u, (pv ps)[j]? = some u → w.cell? (ad.add j) = some u := by
      rcases h.cells with h0 | ⟨b, off, hb, hlt, hc⟩
      · intro j u hj
        have := (List.getElem?_eq_some_iff.1 hj).1
        rw [pv_len] at this
        omega
      · cases hb
        exact pscells_at (B := 0) (cap := cap) hc
    have HC := Lib.hid hc
    have HL2 := Lib.hid hl2; have HN := Lib.hid hn'
    clear h hl2 hn' hc
    go_enter Try.func37, Try.ntmps37
    go_wp2_with (at_builtin; refine wpList_append_own _ rfl _ _ 32 rfl w.heap.size 59 i0 (.agg #[.int .i64 0, .int .i64 0, .int .i64 0, .int .i64 0, .string ⟨#[]⟩]) 5 48 Try.underlying32 hi hz0 hz1 hz2 rfl (by decide) _ _ _ rfl (own_empty w 59 5) ad n cap (pv ps) rfl ?qc1 ?qc2 ?qc3 ?qc4 ?qc5 ?qc6 ?_)
    case qc1 => exact HL2.out
    case qc2 =>
      intro j u hj
      exact Lib.cell?_alloc_some _ (HC.out j u hj)
    case qc3 => exact PE_one ps
    case qc4 => unfold maxLen; omega
    case qc5 => omega
    case qc6 => simp
    intro v' w1 hown hgrow _
    have hown' : w1.ownsRow w.heap.size 59 5 v' n (pv ps) := by simpa using hown
    obtain ⟨_, a', c', rfl, hP, hb⟩ := ps_of_own hown'
    have HP := Lib.hid hP; have HB := Lib.hid hb
    have HF : Hid (Below w.heap.size w w1) := ((Below.refl _ w).alloc (Nat.le_refl _) _).grown hgrow (by simp) (by intro k hk; simp [Value.ownBlock] at hk; omega)
    clear hown hown' hgrow hP hb
    go_wp2
    go_ret
    exact ⟨a', c', by rw [HN.out]; rfl, HP.out, HB.out, HF.out⟩

set_option maxRecDepth 100000 in
set_option maxHeartbeats 2000000 in
theorem clonee_any (a : Option Addr) (cap : Nat) (ps : List Er) (w : World) (hn : ps.length ≤ 100000) (h : ES w.heap.size w a cap ps) :
    Calls Try.prog 47 #[.slice a ps.length cap] w fun e w' => ∃ a' c', e = .returned (.slice a' ps.length c') ∧ ES w'.heap.size w' a' c' ps ∧ (∀ b, blkOf a' b → w.heap.size ≤ b) ∧ Below w.heap.size w w' := by
  obtain ⟨i0, hi, hz0, hz1, hz2⟩ := info_parts infoEE
  obtain ⟨n, hn'⟩ : ∃ n, ps.length = n := ⟨_, rfl⟩
  have hle := h.le
  have hmx := h.mx
  have q1 : ∀ (w : World) (a : Option Addr) (n c n' c' : Nat), (binOp .eql 45 (.slice a n c) (.slice none n' c')).run Try.prog w = .ok (.bool a.isNone) w := fun w a n c n' c' => Lib.run_eql_slice_nil w _ _ a n c n' c' Try.underlying45
  have u1 : ∀ w, Sem.run Try.prog (underlying 45) w = .ok (TypeDesc.slice 82) w := run_underlying Try.underlying45
  have hl2 : (rv ps).length = n * 3 := by rw [rv_len, hn']
  rw [hn'] at hle hn ⊢
  cases a with
  | none =>
    have h0 : ps.length = 0 := by
      rcases h.cells with h0 | ⟨b, off, hb, _⟩
      · exact h0
      · cases hb
    obtain rfl : n = 0 := by omega
    have HN := Lib.hid h0
    clear h hl2 hn' h0
    go_enter Try.func47, Try.ntmps47
    go_wp2
    go_ret
    exact ⟨none, 0, rfl, ⟨by rw [HN.out]; omega, by omega, fun _ => HN.out, .inl HN.out⟩, (fun b hb => by obtain ⟨_, hb⟩ := hb; cases hb), Below.refl _ _⟩
  | some ad =>
    have hc : ∀ j u, (rv ps)[j]? = some u → w.cell? (ad.add j) = some u := by
      rcases h.cells with h0 | ⟨b, off, hb, hlt, hc⟩
      · intro j u hj
        have := (List.getElem?_eq_some_iff.1 hj).1
        rw [rv_len] at this
        omega
      · cases hb
        exact escells_at hc
    have HC := Lib.hid hc
    have HL2 := Lib.hid hl2; have HN := Lib.hid hn'
    clear h hl2 hn' hc
    go_enter Try.func47, Try.ntmps47
    go_wp2_with (at_builtin; refine wpList_append_own _ rfl _ _ 45 rfl w.heap.size 82 i0 (.agg #[.int .i64 0, .int .i64 0, .string ⟨#[]⟩]) 3 32 Try.underlying45 hi hz0 hz1 hz2 rfl (by decide) _ _ _ rfl (own_empty w 82 3) ad n cap (rv ps) rfl ?qc1 ?qc2 ?qc3 ?qc4 ?qc5 ?qc6 ?_)
    case qc1 => exact HL2.out
    case qc2 =>
      intro j u hj
      exact Lib.cell?_alloc_some _ (HC.out j u hj)
    case qc3 => exact EE_one ps
    case qc4 => unfold maxLen; omega
    case qc5 => omega
    case qc6 => simp
    intro v' w1 hown hgrow _
    have hown' : w1.ownsRow w.heap.size 82 3 v' n (rv ps) := by simpa using hown
    obtain ⟨_, a', c', rfl, hP, hb⟩ := es_of_own2 hown'
    have HP := Lib.hid hP; have HB := Lib.hid hb
    have HF : Hid (Below w.heap.size w w1) := ((Below.refl _ w).alloc (Nat.le_refl _) _).grown hgrow (by simp) (by intro k hk; simp [Value.ownBlock] at hk; omega)
    clear hown hown' hgrow hP hb
    go_wp2
    go_ret
    exact ⟨a', c', by rw [HN.out]; rfl, HP.out, HB.out, HF.out⟩

end Go.Proofs.Ytkehgoailhpenaa

/- The contract of Receive. It has no condition on how many states are remembered. -/
namespace Go.Proofs.Ytkehgoailhpenaa
open Go.RowKit Go.Shelf Go.Maps
set_option linter.unusedVariables false

def holdS (s : DS) (cv : Int) (ps : List PE) : DS := ⟨s.v, s.ss, s.hs ++ [(cv, ps)]⟩
/-- What Receive answers, and the state behind it. -/
noncomputable def rcvF (s : DS) (cv : Int) (ps : List PE) : (Int × Int) × DS :=
  if chkE s cv ps.length ≠ 0 then ((0, chkE s cv ps.length), s)
  else if s.v + 1 < cv then ((0, 0), holdS s cv ps)
  else if aplE s ps ≠ 0 then ((0, aplE s ps), s)
  else ((1 + ((hldF s.hs.length (aplS s ps)).1 : Int), 0), (hldF s.hs.length (aplS s ps)).2)
theorem hldF_le : ∀ (f : Nat) (s : DS), (hldF f s).1 ≤ f := by
  intro f
  induction f with
  | zero => intro s; exact Nat.le_refl _
  | succ f ih =>
    intro s
    simp only [hldF]
    split
    · split
      · have := ih (aplS (dropH s) (lookH s.hs (s.v + 1))); simp only; omega
      · exact Nat.zero_le _
    · exact Nat.zero_le _
theorem chk_ok {s : DS} {cv : Int} {n : Nat} (h : chkE s cv n = 0) : 1 ≤ cv ∧ cv ≤ 1099511627776 ∧ n ≤ 64 ∧ s.v < cv ∧ cv ∉ s.hs.map Prod.fst ∧ ¬ (s.v + 1 < cv ∧ 16 ≤ s.hs.length) := by
  unfold chkE at h
  split at h
  · omega
  · rename_i h1
    split at h
    · omega
    · rename_i h2
      split at h
      · omega
      · rename_i h3
        split at h
        · omega
        · rename_i h4
          exact ⟨by omega, by omega, by omega, by omega, fun h => h3 (.inr h), h4⟩
/-- A change is held. -/
theorem DocI.hold {T G : Nat → Prop} {w : World} {p : Nat} {s : DS} (h : DocI T G w p s) {cv : Int} (h1 : 1 ≤ cv) (h2 : cv ≤ 1099511627776) (hk : cv ∉ s.hs.map Prod.fst) (hl : s.hs.length < 16) {a : Option Addr} {cap : Nat} {ps : List PE} (hP : PS w.heap.size w a cap ps) (hn : ps.length ≤ 64) (hf : ∀ q ∈ ps, q.fit ∧ q.t.size ≤ 100000) (hT : ∀ b, blkOf a b → ¬ T b) {m : Nat} (hc : w.cell? ⟨p, 2, none⟩ = some (.map (some m))) :
    ∃ w', (Instr.mapUpdate 70 (.map (some m)) (.int .i64 cv) (.slice a ps.length cap)).run Try.prog w = .ok () w' ∧ DocI T (addG G ps.length a) w' p (holdS s cv ps) ∧ Only T w w' := by
  obtain ⟨g, cp, m', D, vs, k1, k2, k3, k4, k5, k6, k7⟩ := h.mem
  have c2 := k1.cell 2
  simp only [List.getElem?_toArray, List.getElem?_cons_zero, List.getElem?_cons_succ] at c2
  rw [hc] at c2
  simp only [Option.some.injEq, Value.map.injEq] at c2
  subst c2
  have hTd := k4.tidy keyInt
  have hsz := k5.size
  obtain ⟨w', hrun, hown, ht⟩ := k4.store keyInt Try.underlying70 (by unfold maxLen; omega) (keyOfI (k := cv) (by omega) (by omega)) (R := RH) (val := .slice a ps.length cap) rfl
  have hg := ht.grown
  have hmp : m ≠ p := by
    rintro rfl
    obtain ⟨es', clock, q1, _⟩ := k4
    unfold Blk at k1
    rw [q1] at k1
    simp at k1
  have hmg : m ≠ g := by
    rintro rfl
    obtain ⟨es', clock, q1, _⟩ := k4
    rcases k2.2 with ⟨hv, _⟩ | ⟨g', cp', cur, hv, _, hg, _⟩
    · simp at hv
    · simp only [Value.slice.injEq, Option.some.injEq, Addr.mk.injEq] at hv
      obtain ⟨⟨rfl, _⟩, _⟩ := hv
      rw [q1] at hg
      simp at hg
  have hold : ∀ b, b < w.heap.size → b ≠ m → w'.heap[b]? = w.heap[b]? := fun b hb hm => hg.block b hb (fun e => by cases e; exact hm rfl)
  have hGk : ∀ b, G b → b < w.heap.size → w'.heap[b]? = w.heap[b]? := fun b hb hlt => hold b hlt (fun e => h.apart m k7 (e ▸ hb))
  have hz := hg.size
  have hv : PsG (addG G ps.length a) w' (.slice a ps.length cap) ps :=
    (PsG.of (G := fun b => ps.length ≠ 0 ∧ blkOf a b) hP (fun h1 b h2 => ⟨h1, h2⟩)).keep hz (fun b hb hlt => hold b hlt (fun e => hT b hb.2 (e ▸ k7))) (fun b hb => .inr hb)
  refine ⟨w', hrun, ⟨⟨h.ok.v0, h.ok.v1, h.ok.ne, h.ok.len, h.ok.text, h.ok.eds, ?_, ?_, ?_⟩, ⟨g, cp, m, _, vs, k1.same (hold p k1.lt (fun e => hmp e.symm)), own_same k2 (fun j hj => by cases hj; exact hold g (h.lt g k6) (fun e => hmg e.symm)), ?_, ownsMap_tight hown, ?_, k6, k7⟩, h.tp, fun b hb => by have := h.lt b hb; omega, ?_, ?_⟩, ⟨hg.os, hg.tape, hg.output, hz, fun k hk hT => hold k hk (fun e => hT (e ▸ k7))⟩⟩
  · show (s.hs ++ [(cv, ps)]).length ≤ 16
    rw [List.length_append]; show s.hs.length + 1 ≤ 16; omega
  · intro x hx
    rcases List.mem_append.1 hx with hx | hx
    · exact h.ok.held x hx
    · simp only [List.mem_singleton] at hx; subst hx; exact ⟨hn, hf⟩
  · intro x hx
    rcases List.mem_append.1 hx with hx | hx
    · exact h.ok.hk x hx
    · simp only [List.mem_singleton] at hx; subst hx; exact ⟨h1, h2⟩
  · exact k3.mono (fun x y hxy => ⟨hxy.1, hxy.2.keep hz hGk (fun _ h => .inl h)⟩)
  · exact (k5.keep hz hGk (fun _ h => .inl h)).put hTd hk hv
  · intro b hb
    rcases hb with hb | hb
    · have := h.glt b hb; omega
    · have := ps_lt hP hb.1 hb.2; omega
  · intro b hb hG
    rcases hG with hG | hG
    · exact h.apart b hb hG
    · exact hT b hG.2 hb

set_option maxRecDepth 100000 in
set_option maxHeartbeats 8000000 in
theorem receive_any (T G : Nat → Prop) (p : Nat) (s : DS) (w : World) (h : DocI T G w p s) (cv : Int) (h1 : -9223372036854775808 ≤ cv) (h2 : cv ≤ 9223372036854775807) (a : Option Addr) (cap : Nat) (ps : List PE) (hP : PS w.heap.size w a cap ps) (hn : ps.length ≤ 1000) (hf : ∀ q ∈ ps, q.fit ∧ q.t.size ≤ 100000) :
    Calls Try.prog 9 #[.pointer (some ⟨p, 0, none⟩), .agg #[.int .i64 cv, .slice a ps.length cap]] w fun e w' => e = .returned (.tuple #[.int .i64 (rcvF s cv ps).1.1, .int .i64 (rcvF s cv ps).1.2]) ∧ ∃ T' G', DocI T' G' w' p (rcvF s cv ps).2 ∧ Stp T G T' G' w w' := by
  obtain ⟨n, hn'⟩ : ∃ n, ps.length = n := ⟨_, rfl⟩
  obtain ⟨W1, hW1⟩ : ∃ W, w.alloc (.cells #[.int .i64 cv, .slice a n cap] 34) = W := ⟨_, rfl⟩
  have b1 : Below w.heap.size w W1 := by rw [← hW1]; exact (Below.refl _ _).alloc (Nat.le_refl _) _
  have k1 : Blk W1 w.heap.size 34 #[.int .i64 cv, .slice a n cap] := by rw [← hW1]; exact Blk.new _ _ _
  have hD := h.below b1
  have hP1 := hP.on b1
  have CC := fun W (hW : Below W1.heap.size W1 W) => check_any T G p s W (hD.below hW) cv a n cap h1 h2
  have CE := fun W (hW : Below W1.heap.size W1 W) => early_any T G p s W (hD.below hW) cv a n cap
  obtain ⟨q, hq⟩ : ∃ q, w.heap.size = q := ⟨_, rfl⟩
  have d0 := k1.cell 0
  have d1 := k1.cell 1
  simp only [List.getElem?_toArray, List.getElem?_cons_zero, List.getElem?_cons_succ] at d0 d1
  rw [hq] at d0 d1
  have hqW : q < W1.heap.size := by rw [← hq]; exact k1.lt
  have HBX : Hid (∀ V, Below W1.heap.size W1 V → V.cell? ⟨q, 0, none⟩ = some (.int .i64 cv) ∧ V.cell? ⟨q, 1, none⟩ = some (.slice a n cap)) := fun V hV => ⟨(hV.cell (p := ⟨q, 0, none⟩) hqW).trans d0, (hV.cell (p := ⟨q, 1, none⟩) hqW).trans d1⟩
  have HS1 : Hid (Stp T G T G w W1) := Stp.of_below b1
  obtain ⟨E, hE⟩ : ∃ e, chkE s cv n = e := ⟨_, rfl⟩
  simp only [hE] at CC
  have HCC := Lib.hid CC; have HCE := Lib.hid CE; have HD := Lib.hid hD; have HW1 := Lib.hid hW1
  have HR : Hid (rcvF s cv ps = if E ≠ 0 then ((0, E), s) else if s.v + 1 < cv then ((0, 0), holdS s cv ps) else if aplE s ps ≠ 0 then ((0, aplE s ps), s) else ((1 + ((hldF s.hs.length (aplS s ps)).1 : Int), 0), (hldF s.hs.length (aplS s ps)).2)) := Lib.hid (by unfold rcvF; rw [hn', hE])
  obtain ⟨R, hR⟩ : ∃ r, rcvF s cv ps = r := ⟨_, rfl⟩
  rw [hR] at HR ⊢
  rw [hn']
  clear CC CE hD hW1 k1 b1 hR
  by_cases hE0 : E = 0
  · subst hE0
    have hck := chk_ok hE
    rw [← hn'] at hck
    obtain ⟨y1, y2, y3, y4, y5, y6⟩ := hck
    by_cases hea : s.v + 1 < cv
    · have hr := HR.out
      rw [if_neg (by simp), if_pos hea] at hr
      have hed : decide (s.v + 1 < cv) = true := by simp [hea]
      have HHO : Hid (∀ V a' c', Below W1.heap.size W1 V → PS V.heap.size V a' c' ps → (∀ b, blkOf a' b → W1.heap.size ≤ b) → ∀ m, V.cell? ⟨p, 2, none⟩ = some (.map (some m)) →
          ∃ w', (Instr.mapUpdate 70 (.map (some m)) (.int .i64 cv) (.slice a' ps.length c')).run Try.prog V = .ok () w' ∧ Hid (∃ T' G', DocI T' G' w' p (holdS s cv ps) ∧ Stp T G T' G' w w')) := fun V a' c' hV hPV hTb m hc => by
        obtain ⟨w', q1, q2, q3⟩ := (HD.out.below hV).hold y1 y2 y5 (by omega) hPV y3 hf (fun b hb hT => by have := hTb b hb; have := HD.out.lt b hT; omega) hc
        exact ⟨w', q1, T, _, q2, (HS1.out.trans ⟨Only.of_below hV, fun _ h => .inl h, fun b hb => hb.imp id (fun h => hTb b h.2)⟩ trivial).trans (Stp.of_only q3) trivial⟩
      have HCL := Lib.hid (fun W (hW : Below W1.heap.size W1 W) => clonep_any a cap ps W (by omega) (hP1.on hW))
      rw [hn'] at HHO HCL
      obtain ⟨g, cp, m, n', D, _, _, _, _, c2, _, _, _, hpW⟩ := HD.out.full
      have HC2 : Hid (∀ V, Below W1.heap.size W1 V → V.cell? ⟨p, 2, none⟩ = some (.map (some m))) := fun V hV => (hV.cell (p := ⟨p, 2, none⟩) hpW).trans c2
      have HTL : Hid (∀ b, T b → b < W1.heap.size) := HD.out.lt
      subst hr
      rw [hed] at HCE
      clear h hP hP1 hf hn' hE y1 y2 y3 y4 y5 y6 c2 hea hed
      go_enter Try.func9, Try.ntmps9
      go_wp2_with fail
      rw [show w.alloc (.cells #[.int .i64 cv, .slice a n cap] 34) = W1 from HW1.out]
      refine (HCC.out W1 (Below.refl _ _)).mono ?_
      rintro e w2 ⟨rfl, b2⟩
      have B2 := Lib.hid b2
      obtain ⟨e0, e1⟩ := HBX.out w2 b2
      clear b2
      go_wp2_with fail
      refine (HCE.out w2 B2.out).mono ?_
      rintro e w3 ⟨rfl, b3⟩
      have B3 := Lib.hid (B2.out.trans (b3.mono B2.out.size))
      obtain ⟨g0, g1⟩ := HBX.out w3 B3.out
      have g2 := HC2.out w3 B3.out
      have hz13 := B3.out.size
      clear b3 e0 e1
      go_wp2_with fail
      go_region_with (first | (go_at_call 37; refine (HCL.out _ B3.out.drew).mono ?_; rintro e w5 ⟨a5, c5, rfl, hp5, hf5, b5⟩; have B5 : Below W1.heap.size W1 w5 := B3.out.drew.trans (b5.mono hz13); obtain ⟨u0, u1⟩ := HBX.out w5 B5; have u2 := HC2.out w5 B5; obtain ⟨w6, hrun, hx6⟩ := HHO.out w5 a5 c5 B5 hp5 (fun b hb => by have q1 := hf5 b hb; have q3 : w3.heap.size ≤ b := q1; omega) m u2; clear hp5))
      all_goals
        obtain ⟨T2, G2, hd6, hs6⟩ := hx6.out
        have HF6 := Lib.hid (And.intro hd6 hs6)
        clear hd6 hs6
        go_wp2_with fail
        go_ret2
        exact ⟨rfl, T2, G2, HF6.out.1, HF6.out.2⟩
    · have hr := HR.out
      rw [if_neg (by simp), if_neg hea] at hr
      have hed : decide (s.v + 1 < cv) = false := by simp [hea]
      have HAP : Hid (∀ W, Below W1.heap.size W1 W → _) := Lib.hid (fun W (hW : Below W1.heap.size W1 W) => apply_any T G p s W (HD.out.below hW) (by omega) a cap ps (hP1.on hW) y3 hf)
      obtain ⟨A, hA⟩ : ∃ e, aplE s ps = e := ⟨_, rfl⟩
      obtain ⟨S2, hS2⟩ : ∃ e, aplS s ps = e := ⟨_, rfl⟩
      have hs2h : S2.hs.length = s.hs.length := by rw [← hS2, aplS_hs]
      simp only [hA, hS2, hn'] at HAP
      rw [hA, hS2, ← hs2h] at hr
      rw [hed] at HCE
      have HR2 := Lib.hid hr
      clear h hP hP1 hf hn' hE y1 y2 y3 y4 y5 y6 hea hed hA hS2 hs2h hr
      go_enter Try.func9, Try.ntmps9
      go_wp2_with fail
      rw [show w.alloc (.cells #[.int .i64 cv, .slice a n cap] 34) = W1 from HW1.out]
      refine (HCC.out W1 (Below.refl _ _)).mono ?_
      rintro e w2 ⟨rfl, b2⟩
      have B2 := Lib.hid b2
      obtain ⟨e0, e1⟩ := HBX.out w2 b2
      clear b2
      go_wp2_with fail
      refine (HCE.out w2 B2.out).mono ?_
      rintro e w3 ⟨rfl, b3⟩
      have B3 := Lib.hid (B2.out.trans (b3.mono B2.out.size))
      obtain ⟨g0, g1⟩ := HBX.out w3 B3.out
      clear b3 e0 e1
      go_wp2_with fail
      refine (HAP.out w3 B3.out).mono ?_
      rintro e w4 ⟨rfl, hw⟩
      have HW := Lib.hid hw
      clear hw
      have hr := HR2.out
      by_cases hA0 : A = 0
      · subst hA0
        rw [if_neg (by simp)] at hr
        obtain ⟨T2, G2, hd2, hs2'⟩ : ∃ T2 G2, DocI T2 G2 w4 p S2 ∧ Stp T G T2 G2 w w4 := by
          rcases HW.out with ⟨q1, _⟩ | ⟨_, T2, G2, q2, q3⟩
          · exact absurd rfl q1
          · exact ⟨T2, G2, q2, (HS1.out.trans (Stp.of_below B3.out) trivial).trans q3 trivial⟩
        have hs16 := hd2.ok.hlen
        have CH := Lib.hid (applyHeld_any T2 G2 p S2 w4 hd2)
        have HS2 := Lib.hid hs2'
        obtain ⟨K, hK⟩ : ∃ k, hldF S2.hs.length S2 = k := ⟨_, rfl⟩
        have hkl := hldF_le S2.hs.length S2
        rw [hK] at hr CH hkl
        obtain ⟨kk, S3⟩ := K
        simp only at hr CH hkl
        have HRR := Lib.hid hr
        clear hd2 hs2' hr hK
        go_wp2_with fail
        refine CH.out.mono ?_
        rintro e w5 ⟨rfl, T3, G3, hd3, hs3⟩
        have HD3 := Lib.hid hd3; have HS3 := Lib.hid (HS2.out.trans hs3 trivial)
        clear hd3 hs3
        have hrr := HRR.out
        subst hrr
        have hkw : IntKind.i64.wrap (1 + (kk : Int)) = 1 + (kk : Int) := by simp [IntKind.wrap, IntKind.signed, IntKind.bits]; omega
        go_wp2_with fail
        go_ret2
        exact ⟨rfl, T3, G3, HD3.out, HS3.out⟩
      · have hq2 : (A != 0) = true := by simp [hA0]
        rw [if_pos hA0] at hr
        have hfin : DocI T G w4 p s ∧ Stp T G T G w w4 := by
          rcases HW.out with ⟨_, q2⟩ | ⟨q1, _⟩
          · exact ⟨(HD.out.below B3.out).below q2, (HS1.out.trans (Stp.of_below B3.out) trivial).trans (Stp.of_below q2) trivial⟩
          · exact absurd q1 hA0
        have HF := Lib.hid hfin
        subst hr
        clear hfin
        go_wp2_with fail
        go_ret2
        exact ⟨rfl, T, G, HF.out.1, HF.out.2⟩
  · have hq2 : (E != 0) = true := by simp [hE0]
    have hr := HR.out
    rw [if_pos hE0] at hr
    subst hr
    clear h hP hP1 hf hn' hE
    go_enter Try.func9, Try.ntmps9
    go_wp2_with fail
    rw [show w.alloc (.cells #[.int .i64 cv, .slice a n cap] 34) = W1 from HW1.out]
    refine (HCC.out W1 (Below.refl _ _)).mono ?_
    rintro e w2 ⟨rfl, b2⟩
    have B2 := Lib.hid b2
    clear b2
    go_wp2_with fail
    go_ret2
    exact ⟨rfl, T, G, HD.out.below B2.out, HS1.out.trans (Stp.of_below B2.out) trivial⟩

end Go.Proofs.Ytkehgoailhpenaa

/- The contract of New. It has no conditions. -/
namespace Go.Proofs.Ytkehgoailhpenaa
open Go.RowKit Go.Shelf Go.Maps
set_option linter.unusedVariables false

def newE (t : ByteArray) (v : Int) : Int := if 4096 < t.size then 4 else if v < 0 ∨ 1099511627776 < v then 1 else 0
def newS (t : ByteArray) (v : Int) : DS := ⟨v, [(t, [])], []⟩
def newB (w w' : World) (b : Nat) : Prop := w.heap.size ≤ b ∧ b < w'.heap.size

set_option maxRecDepth 100000 in
set_option maxHeartbeats 2000000 in
theorem new_any (t : ByteArray) (v : Int) (w : World) :
    Calls Try.prog 8 #[.string t, .int .i64 v] w fun e w' =>
      (newE t v ≠ 0 ∧ e = .returned (.tuple #[.pointer none, .int .i64 (newE t v)]) ∧ Below w.heap.size w w') ∨
      (newE t v = 0 ∧ ∃ p, e = .returned (.tuple #[.pointer (some ⟨p, 0, none⟩), .int .i64 0]) ∧ DocI (newB w w') (fun _ => False) w' p (newS t v) ∧ Below w.heap.size w w') := by
  have hmm := @run_makeMap Try.prog
  by_cases h1 : 4096 < t.size
  · have hE : newE t v = 4 := by unfold newE; rw [if_pos h1]
    rw [hE]
    have h2 : (4096 : Int) < (t.size : Int) := by omega
    clear hE
    go_enter Try.func8, Try.ntmps8
    go_wp2
    go_ret2
    first | exact .inl ⟨by decide, rfl, Below.refl _ _⟩ | exact ⟨rfl, Below.refl _ _⟩
  have h2 : ¬ (4096 : Int) < (t.size : Int) := by omega
  by_cases h3 : v < 0
  · have hE : newE t v = 1 := by unfold newE; rw [if_neg h1, if_pos (.inl h3)]
    rw [hE]
    clear hE
    go_enter Try.func8, Try.ntmps8
    go_wp2
    go_ret2
    first | exact .inl ⟨by decide, rfl, Below.refl _ _⟩ | exact ⟨rfl, Below.refl _ _⟩
  by_cases h4 : 1099511627776 < v
  · have hE : newE t v = 1 := by unfold newE; rw [if_neg h1, if_pos (.inr h4)]
    rw [hE]
    clear hE
    go_enter Try.func8, Try.ntmps8
    go_wp2
    go_ret2
    first | exact .inl ⟨by decide, rfl, Below.refl _ _⟩ | exact ⟨rfl, Below.refl _ _⟩
  have hE : newE t v = 0 := by unfold newE; rw [if_neg h1, if_neg (by omega)]
  rw [hE]
  obtain ⟨q, hq⟩ : ∃ q, w.heap.size = q := ⟨_, rfl⟩
  obtain ⟨W1, hW1⟩ : ∃ W, w.alloc (.cells #[.string t, .slice none 0 0] 68) = W := ⟨_, rfl⟩
  obtain ⟨W2, hW2⟩ : ∃ W, W1.alloc (.map #[] 0) = W := ⟨_, rfl⟩
  obtain ⟨W3, hW3⟩ : ∃ W, W2.alloc (.cells #[.int .i64 v, .slice (some ⟨q, 0, none⟩) 1 1, .map (some (q + 1))] 72) = W := ⟨_, rfl⟩
  have z1 : W1.heap.size = q + 1 := by rw [← hW1, ← hq]; simp
  have z2 : W2.heap.size = q + 2 := by rw [← hW2]; simp [z1]
  have z3 : W3.heap.size = q + 3 := by rw [← hW3]; simp [z2]
  have k1 : Blk W1 q 68 #[.string t, .slice none 0 0] := by rw [← hW1, ← hq]; exact Blk.new _ _ _
  have k1' : Blk W3 q 68 #[.string t, .slice none 0 0] := by rw [← hW3, ← hW2]; exact (k1.alloc _).alloc _
  have k3 : Blk W3 (q + 2) 72 #[.int .i64 v, .slice (some ⟨q, 0, none⟩) 1 1, .map (some (q + 1))] := by rw [← hW3, ← z2]; exact Blk.new _ _ _
  have hm2 : W2.ownsMap Try.prog 3 RH (q + 1) 0 (.map []) := by rw [← hW2, ← z1]; exact World.ownsMap_made _ _ _ _
  have hm3 : W3.ownsMap Try.prog 3 RH (q + 1) (Maps.size (.map [] : DataW Value)) (.map []) := by rw [← hW3]; exact hm2.alloc _
  have hb : Below w.heap.size w W3 := by
    rw [← hW3, ← hW2, ← hW1]
    exact (((Below.refl _ _).alloc (Nat.le_refl _) _).alloc (by simp) _).alloc (by simp; omega) _
  have hD : DocI (newB w W3) (fun _ => False) W3 (q + 2) (newS t v) := by
    refine ⟨⟨by show 0 ≤ v; omega, by show v ≤ _; omega, by simp [newS], by simp [newS], ?_, ?_, by simp [newS], ?_, ?_⟩, ⟨q, 1, q + 1, .map [], [(t, .slice none 0 0)], k3, ⟨rfl, .inr ⟨q, 1, _, rfl, Nat.zero_le _, k1', Nat.le_refl _, by unfold maxLen; omega, rfl, rfl⟩⟩, .cons ⟨rfl, EsG.none _ _⟩ .nil, hm3, HeldOk.empty _ _, ⟨by omega, by omega⟩, ⟨by omega, by omega⟩⟩, ⟨by omega, by omega⟩, fun b hb => hb.2, fun b hb => hb.elim, fun b _ h => h⟩
    · intro x hx; simp only [newS, List.mem_singleton] at hx; subst hx; show t.size ≤ 4096; omega
    · intro x hx; simp only [newS, List.mem_singleton] at hx; subst hx; exact ⟨Nat.zero_le _, fun e he => by simp at he⟩
    · intro x hx; simp [newS] at hx
    · intro x hx; simp [newS] at hx
  have HF := Lib.hid (And.intro hD hb)
  have HW : Hid (((w.alloc (.cells #[.string t, .slice none 0 0] 68)).alloc (.map #[] 0)).alloc (.cells #[.int .i64 v, .slice (some ⟨q, 0, none⟩) 1 1, .map (some (q + 1))] 72) = W3) := by rw [hW1, hW2]; exact hW3
  clear hE hD hb hm2 hm3 k1 k1' k3 hW1 hW2 hW3 z1 z2 z3
  go_enter Try.func8, Try.ntmps8
  go_wp2
  rw [show ((w.alloc (.cells #[.string t, .slice none 0 0] 68)).alloc (.map #[] 0)).alloc (.cells #[.int .i64 v, .slice (some ⟨q, 0, none⟩) 1 1, .map (some (q + 1))] 72) = W3 from HW.out]
  go_ret2
  have hb := HF.out.2
  first | exact ⟨q + 2, rfl, HF.out.1, hb⟩ | exact ⟨q + 2, rfl, HF.out.1, by rw [← hq]; exact hb⟩

end Go.Proofs.Ytkehgoailhpenaa

/- The contract of from. It has no conditions. -/
namespace Go.Proofs.Ytkehgoailhpenaa
open Go.RowKit Go.Shelf Go.Maps
set_option linter.unusedVariables false

/-- The oldest version that is remembered. -/
def oldS (s : DS) : Int := s.v - s.ss.length + 1
/-- The states of a document, wherever a walk reads them. -/
theorem DocI.states {T G : Nat → Prop} {w : World} {p : Nat} {s : DS} (h : DocI T G w p s) : ∃ g cap m vs, w.cell? ⟨p, 0, none⟩ = some (.int .i64 s.v) ∧ w.cell? ⟨p, 1, none⟩ = some (.slice (some ⟨g, 0, none⟩) s.ss.length cap) ∧ w.cell? ⟨p, 2, none⟩ = some (.map (some m)) ∧ s.ss.length ≤ cap ∧ T g ∧ All2 (StOk G w) vs s.ss ∧
    ∀ V : World, V.heap[g]? = w.heap[g]? → ∀ i (hi : i < vs.length), V.cell? ⟨g, i * 2, none⟩ = some (.string (vs[i]).1) ∧ V.cell? ⟨g, i * 2 + 1, none⟩ = some (vs[i]).2 := by
  obtain ⟨g, cap, m, D, vs, h1, h2, h3, h4, h5, h6, h7⟩ := h.mem
  have hl := h3.len
  have c0 := h1.cell 0
  have c1 := h1.cell 1
  have c2 := h1.cell 2
  simp only [List.getElem?_toArray, List.getElem?_cons_zero, List.getElem?_cons_succ] at c0 c1 c2
  have hcap : vs.length ≤ cap := by
    rcases h2.2 with ⟨hv, _⟩ | ⟨g', cp, cur, hv, _, _, h1, _⟩
    · simp at hv
    · simp only [Value.slice.injEq] at hv; omega
  rw [hl] at c1 hcap
  refine ⟨g, cap, m, vs, c0, c1, c2, hcap, h6, h3, fun V hV i hi => ?_⟩
  have e : ∀ j, V.cell? ⟨g, j, none⟩ = w.cell? ⟨g, j, none⟩ := fun j => by simp only [World.cell?, hV]
  rw [e, e, h2.cellAt (i * 2) (by omega), h2.cellAt (i * 2 + 1) (by omega)]
  exact svals_get vs i hi

set_option maxRecDepth 100000 in
set_option maxHeartbeats 2000000 in
theorem from_any (T G : Nat → Prop) (p : Nat) (s : DS) (w : World) (h : DocI T G w p s) (x : Int) (hx1 : -9223372036854775808 ≤ x) (hx2 : x ≤ 9223372036854775807) :
    Calls Try.prog 49 #[.pointer (some ⟨p, 0, none⟩), .int .i64 x] w fun e w' => Below w.heap.size w w' ∧
      ((¬ (oldS s ≤ x ∧ x ≤ s.v) ∧ e = .returned (.slice none 0 0)) ∨
       ((oldS s ≤ x ∧ x ≤ s.v) ∧ ∃ (g cap : Nat) (vs : List (ByteArray × Value)) (k : Nat), (k : Int) = x - oldS s ∧ k < s.ss.length ∧ e = .returned (.slice (some ⟨g, k * 2, none⟩) (s.ss.length - k) (cap - k)) ∧ s.ss.length ≤ cap ∧ T g ∧ All2 (StOk G w) vs s.ss ∧
         ∀ V : World, V.heap[g]? = w.heap[g]? → ∀ i (hi : i < vs.length), V.cell? ⟨g, i * 2, none⟩ = some (.string (vs[i]).1) ∧ V.cell? ⟨g, i * 2 + 1, none⟩ = some (vs[i]).2)) := by
  have hv0 := h.ok.v0
  have hv1 := h.ok.v1
  have hlen := h.ok.len
  have hne : 0 < s.ss.length := List.length_pos_iff.2 h.ok.ne
  obtain ⟨g, cap, m, vs, c0, c1, c2, hcap, hTg, h3, hst⟩ := h.states
  obtain ⟨v, hv⟩ : ∃ v, s.v = v := ⟨_, rfl⟩
  obtain ⟨n, hn⟩ : ∃ n, s.ss.length = n := ⟨_, rfl⟩
  obtain ⟨o, ho⟩ : ∃ o, oldS s = o := ⟨_, rfl⟩
  have ho2 : o = v - (n : Int) + 1 := by rw [← ho, ← hv, ← hn]; rfl
  rw [hv] at c0 hv0 hv1 ⊢
  rw [hn] at c1 hcap hlen hne ⊢
  rw [ho]
  have hw1 : IntKind.i64.wrap (v - (n : Int)) = v - (n : Int) := by simp [IntKind.wrap, IntKind.signed, IntKind.bits]; omega
  have hw2 : IntKind.i64.wrap (v - (n : Int) + 1) = o := by rw [ho2]; simp [IntKind.wrap, IntKind.signed, IntKind.bits]; omega
  have H3 := Lib.hid h3; have HST := Lib.hid hst; have HO := Lib.hid ho2
  have ho3 : -1000 ≤ o ∧ o ≤ 1099511627777 := by omega
  clear h h3 hst hv hn ho ho2 c2
  by_cases h1 : x < o
  · have hN : ¬ (o ≤ x ∧ x ≤ v) := by omega
    have HN := Lib.hid hN
    clear hN
    go_enter Try.func49, Try.ntmps49
    go_wp2_with fail
    go_quiet (fail)
    go_wp2
    go_ret
    exact ⟨below_drewN (Below.refl _ _) _, .inl ⟨HN.out, rfl⟩⟩
  · by_cases h2 : v < x
    · have hN : ¬ (o ≤ x ∧ x ≤ v) := by omega
      have HN := Lib.hid hN
      clear hN
      go_enter Try.func49, Try.ntmps49
      go_wp2_with fail
      go_quiet (fail)
      go_wp2
      go_ret
      exact ⟨below_drewN (Below.refl _ _) _, .inl ⟨HN.out, rfl⟩⟩
    · obtain ⟨k, hk⟩ : ∃ k : Nat, x - o = (k : Int) := ⟨(x - o).toNat, by omega⟩
      have hkn : k < n := by have := HO.out; omega
      have HN : Hid (o ≤ x ∧ x ≤ v) := ⟨by omega, by omega⟩
      have hkw : IntKind.i64.wrap (x - o) = (k : Int) := by rw [hk]; simp [IntKind.wrap, IntKind.signed, IntKind.bits]; omega
      have hk1 : (k : Int) ≤ (n : Int) := by omega
      have HK := Lib.hid hk
      clear hk
      go_enter Try.func49, Try.ntmps49
      go_wp2_with fail
      go_quiet (fail)
      go_wp2
      go_ret
      exact ⟨below_drewN (Below.refl _ _) _, .inr ⟨HN.out, g, cap, vs, k, HK.out.symm, hkn, rfl, hcap, hTg, H3.out, HST.out⟩⟩

end Go.Proofs.Ytkehgoailhpenaa

/- The contract of Since where no composition has an error. Conditions: as SncOk says. -/
namespace Go.Proofs.Ytkehgoailhpenaa
open Go.RowKit Go.Shelf Go.Maps
set_option linter.unusedVariables false

/-- The compositions go through, and end at r. -/
def SncOk (t : ByteArray) : List Er → List (List Er) → List Er → Prop
  | x, [], r => x = r
  | x, y :: l, r => cmE t x y = 0 ∧ (apS t x).size ≤ 1000000 ∧ (apS (apS t x) y).size ≤ 1000000 ∧ (∀ e ∈ cmS t x y, e.Fit) ∧ (cmS t x y).length ≤ 64 ∧ SncOk t (cmS t x y) l r
/-- The edits of the versions behind the k-th state. -/
def nexts (s : DS) (k : Nat) : List (List Er) := ((s.ss.drop k).take (s.ss.length - k - 1)).map Prod.snd
theorem nexts_len {s : DS} {k : Nat} (hk : k < s.ss.length) : (nexts s k).length = s.ss.length - k - 1 := by
  unfold nexts
  rw [List.length_map, List.length_take, List.length_drop]
  omega
theorem nexts_at {s : DS} {k i : Nat} (hk : k < s.ss.length) (hi : i < (nexts s k).length) : (nexts s k)[i]? = (s.ss[k + i]?).map Prod.snd := by
  rw [nexts_len hk] at hi
  unfold nexts
  rw [List.getElem?_map, List.getElem?_take, if_pos (by omega), List.getElem?_drop]
theorem nexts_get {s : DS} {k i : Nat} (hk : k < s.ss.length) (hi : i < (nexts s k).length) : (nexts s k)[i] = (s.ss[k + i]'(by rw [nexts_len hk] at hi; omega)).2 := by
  simp [nexts]

set_option maxRecDepth 100000 in
set_option maxHeartbeats 4000000 in
theorem since_any (T G : Nat → Prop) (p : Nat) (s : DS) (w : World) (h : DocI T G w p s) (x : Int) (hx1 : -9223372036854775808 ≤ x) (hx2 : x ≤ 9223372036854775807) (hin : oldS s ≤ x ∧ x ≤ s.v) (k : Nat) (hkx : (k : Int) = x - oldS s) (hk : k < s.ss.length) (R : List Er) (hok : SncOk (s.ss[k]).1 [] (nexts s k) R) :
    Calls Try.prog 24 #[.pointer (some ⟨p, 0, none⟩), .int .i64 x] w (NewES w R 0) := by
  have CF := Lib.hid (from_any T G p s w h x hx1 hx2)
  have HNG : Hid (∀ i, i < (nexts s k).length → (nexts s k)[i]? = (s.ss[k + i]?).map Prod.snd) := fun i hi => nexts_at hk hi
  have hlen := h.ok.len
  have hets := h.ok.eds
  obtain ⟨t, ht⟩ : ∃ t, (s.ss[k]).1 = t := ⟨_, rfl⟩
  rw [ht] at hok
  have htz : t.size ≤ 4096 := by rw [← ht]; exact h.ok.text _ (List.getElem_mem _)
  have hTl := h.lt
  have hGl := h.glt
  obtain ⟨n, hn⟩ : ∃ n, s.ss.length = n := ⟨_, rfl⟩
  have hnl := nexts_len hk
  have HET := Lib.hid hets; have HTX := Lib.hid ht; have HTL := Lib.hid hTl; have HGL := Lib.hid hGl; have HIN := Lib.hid hin; have HNL := Lib.hid hnl; have HNN := Lib.hid hn
  obtain ⟨L, hL⟩ : ∃ l, nexts s k = l := ⟨_, rfl⟩
  have HL := Lib.hid hL
  rw [hL] at hok
  have HOK := Lib.hid hok
  have HKX := Lib.hid hkx
  have HK := Lib.hid hk
  have hk' : k < n := by omega
  have hn17 : n ≤ 17 := by omega
  clear hok hL hnl hets hTl hGl hin ht hkx h hn hlen
  go_enter Try.func24, Try.ntmps24
  go_wp2_with fail
  refine CF.out.mono ?_
  rintro e w1 ⟨b1, hw⟩
  have B1 := Lib.hid b1
  obtain ⟨g, cap, vs, k2, hk2, hk3, he, hcap, hTg, h3, hst⟩ := (hw.resolve_left (fun hh => hh.1 HIN.out)).2
  obtain rfl : k2 = k := by have := HKX.out; omega
  subst he
  have hvl := h3.len
  have hglt := HTL.out g hTg
  have hgk : ∀ V, Below w.heap.size w V → V.heap[g]? = w.heap[g]? := fun V hV => hV.block g hglt
  rw [HNN.out] at hcap ⊢
  have hvn : vs.length = n := by rw [hvl]; exact HNN.out
  have HALL : Hid (∀ i, k2 + i < n → ∃ (y : ByteArray × List Er) (nx : Value), s.ss[k2 + i]? = some y ∧ EsG G w nx y.2 ∧ ∀ V, Below w.heap.size w V → V.cell? ⟨g, k2 * 2 + i * 2, none⟩ = some (.string y.1) ∧ V.cell? ⟨g, k2 * 2 + i * 2 + 1, none⟩ = some nx) := fun i hi => by
    have h9 := h3.at_ (k2 + i) (by omega) (by omega)
    refine ⟨s.ss[k2 + i]'(by omega), (vs[k2 + i]'(by omega)).2, List.getElem?_eq_getElem _, h9.2, fun V hV => ?_⟩
    have := hst V (hgk V hV) (k2 + i) (by omega)
    rw [show (k2 + i) * 2 = k2 * 2 + i * 2 by omega, h9.1] at this
    exact this
  obtain ⟨y0, nx0, hy0, _, hc0⟩ := HALL.out 0 (by omega)
  have c0 := (hc0 w1 B1.out).1
  have ht0 : y0.1 = t := by
    have hk9 := HK.out
    rw [Nat.add_zero, List.getElem?_eq_getElem hk9] at hy0
    rw [← Option.some.inj hy0]; exact HTX.out
  rw [ht0] at c0
  simp only [Nat.zero_mul, Nat.add_zero] at c0
  obtain ⟨N, hN⟩ : ∃ N, n - k2 = N := ⟨_, rfl⟩
  obtain ⟨M, hM⟩ : ∃ M, M + 1 = N := ⟨N - 1, by omega⟩
  have hML : L.length = M := by rw [← HL.out, HNL.out, HNN.out]; omega
  obtain ⟨cp, hcp⟩ : ∃ c, cap - k2 = c := ⟨_, rfl⟩
  rw [hN, hcp]
  have hN1 : IntKind.i64.wrap ((N : Int) - 1) = (M : Int) := by simp [IntKind.wrap, IntKind.signed, IntKind.bits]; omega
  have hNn : ¬ (N : Int) = 0 := by omega
  have hN0 : (0 : Int) < (N : Int) := by omega
  have hMN : (M : Int) ≤ (cp : Int) := by omega
  have hM17 : M ≤ 17 := by omega
  have hNz : ((N : Int) == 0) = false := by simp; omega
  have HVN := Lib.hid hvn; have HMM := Lib.hid (And.intro hM hN); have HML := Lib.hid hML
  have HE0 : Hid (ES w1.heap.size w1 none 0 [] ∧ (∀ e ∈ ([] : List Er), e.Fit) ∧ ([] : List Er).length ≤ 64 ∧ SncOk t [] (L.drop 0) R) := ⟨ES.none _ _, fun e he => by simp at he, Nat.zero_le _, HOK.out⟩
  clear hw b1 hk2 hk3 h3 hst hvl hgk hvn ht0 hN hM hML hcp hc0 hy0
  go_wp2_with fail
  go_loopw [8, 29] (fun u q wr => ∃ (i : Nat) (xs : List Er) (ax : Option Addr) (cx : Nat), i ≤ M ∧ q = .int .i64 (i : Int) ∧ u = .slice ax xs.length cx ∧ Hid (ES wr.heap.size wr ax cx xs ∧ (∀ e ∈ xs, e.Fit) ∧ xs.length ≤ 64 ∧ SncOk t xs (L.drop i) R) ∧ Hid (Below w.heap.size w wr)) (fun _ q _ => M - (intOf q).toNat)
  case atStart => exact ⟨0, [], none, 0, by omega, rfl, rfl, HE0, B1.out⟩
  case round =>
    obtain ⟨i, xs, ax, cx, hi, rfl, rfl, HX, HR⟩ := hrel
    by_cases hlt : i < M
    · have hkk : (i : Int) < (M : Int) := by omega
      obtain ⟨y, nx, hy, hnx, hcl⟩ := HALL.out i (by have := HMM.out; omega)
      obtain ⟨an, cn, rfl, hEn⟩ := hnx.es
      obtain ⟨d0, d1⟩ := hcl wr HR.out
      obtain ⟨yt, ye⟩ := y
      simp only at d0 d1 hEn hnx
      obtain ⟨e1, e2, e3, e4⟩ := HX.out
      have hLi : L.drop i = ye :: L.drop (i + 1) := by
        have h8 : i < L.length := by rw [HML.out]; exact hlt
        rw [List.drop_eq_getElem_cons h8]
        congr 1
        have := HNG.out i (by rw [HL.out]; exact h8)
        rw [hy, HL.out, List.getElem?_eq_getElem h8] at this
        simpa using this
      rw [hLi] at e4
      obtain ⟨q1, q2, q3, q4, q5, q6⟩ := e4
      have hye := HET.out (yt, ye) (List.mem_of_getElem? hy)
      simp only at hye
      obtain ⟨ln, hln⟩ : ∃ n, ye.length = n := ⟨_, rfl⟩
      rw [hln] at d1
      have HC : Hid (∀ W, Below wr.heap.size wr W → Calls Try.prog 51 #[.string t, .slice ax xs.length cx, .slice an ln cn] W fun e w' => NewES W (cmS t xs ye) 0 e w') := fun W hW => by
        have h1 : ES W.heap.size W an cn ye := hEn.on (HR.out.trans (hW.mono HR.out.size))
        have := pcompose_any t ax an cx cn xs ye W (by omega) q2 q3 (by omega) (by omega) e2 hye.2 (e1.on hW) h1
        rw [q1, hln] at this
        exact this
      obtain ⟨X, hX⟩ : ∃ x, cmS t xs ye = x := ⟨_, rfl⟩
      rw [hX] at q4 q5 q6 HC
      have HQ : Hid ((∀ e ∈ X, e.Fit) ∧ X.length ≤ 64 ∧ SncOk t X (L.drop (i + 1)) R) := ⟨q4, q5, q6⟩
      have HBW : Hid (Below wr.heap.size wr (wr.alloc (.cells #[.string yt, .slice an ln cn] 68))) := (Below.refl _ _).alloc (Nat.le_refl _) _
      clear hy hnx hcl hEn e1 e2 e3 hLi q1 q2 q3 q4 q5 q6 hye hln hX
      go_wp2_with fail
      refine (HC.out _ HBW.out).mono ?_
      rintro e w7 ⟨a7, c7, rfl, hE7, b7⟩
      have HX7 : Hid (ES w7.heap.size w7 a7 c7 X ∧ (∀ e ∈ X, e.Fit) ∧ X.length ≤ 64 ∧ SncOk t X (L.drop (i + 1)) R) := ⟨hE7, HQ.out.1, HQ.out.2.1, HQ.out.2.2⟩
      have H7 : Hid (Below w.heap.size w w7) := HR.out.trans ((HBW.out.trans (b7.mono HBW.out.size)).mono HR.out.size)
      clear hE7 b7
      go_wp2
      go_roundw
      case rel => exact ⟨i + 1, X, a7, c7, by omega, by go_num, rfl, HX7, H7⟩
      case measure => simp [intOf]; omega
    · obtain rfl : M = i := by omega
      have hR := HX.out.2.2.2
      rw [List.drop_eq_nil_of_le (by rw [HML.out]; omega)] at hR
      have hRR : xs = R := hR
      subst hRR
      clear hR
      go_wp2_with fail
      go_ret2
      exact ⟨ax, cx, rfl, HX.out.1, HR.out⟩

end Go.Proofs.Ytkehgoailhpenaa

/- The example of the chapter on documents, in the words of the specification. It has no conditions. -/
namespace Go.Proofs.Ytkehgoailhpenaa
open Go.RowKit Go.Shelf Go.Maps
set_option linter.unusedVariables false

abbrev lvA : ByteArray := ⟨#[97, 98]⟩
abbrev lvB : ByteArray := ⟨#[97, 120, 98]⟩
abbrev lvC : ByteArray := ⟨#[97, 120, 98, 121]⟩
abbrev lvX : ByteArray := ⟨#[120]⟩
abbrev lvY : ByteArray := ⟨#[121]⟩
def lp1 : PE := ⟨0, 3, 0, 3, lvY⟩
def lp2 : PE := ⟨0, 1, 0, 1, lvX⟩
def le1 : Er := ⟨1, 1, lvX⟩
def le2 : Er := ⟨3, 3, lvY⟩
def le3 : Er := ⟨2, 2, lvY⟩
theorem lv_sbA : sb lvA = [97, 98] := by decide +kernel
theorem lv_sbB : sb lvB = [97, 120, 98] := by decide +kernel
theorem lv_posA : Pos [97, 98] 1 0 1 := ⟨⟨1, bord_of (n := 12) (by decide +kernel)⟩, by decide +kernel, by rw [show (lf [97, 98] 1).2 = 0 by decide +kernel]; exact bord_of (n := 12) (by decide +kernel)⟩
theorem lv_posB : Pos [97, 120, 98] 3 0 3 := ⟨⟨3, bord_of (n := 12) (by decide +kernel)⟩, by decide +kernel, by rw [show (lf [97, 120, 98] 3).2 = 0 by decide +kernel]; exact bord_of (n := 12) (by decide +kernel)⟩
theorem lv_ed2 : edD (sb lvA) lp2 = (⟨1, 1, lvX⟩, 0) := by
  rw [lv_sbA]
  exact edD_eq (ed_there lvX lv_posA lv_posA (Nat.le_refl _))
theorem lv_ed1 : edD (sb lvB) lp1 = (⟨3, 3, lvY⟩, 0) := by
  rw [lv_sbB]
  exact edD_eq (ed_there lvY lv_posB lv_posB (Nat.le_refl _))
theorem lv_pE2 : pE lvA [lp2] = 0 ∧ pL lvA [lp2] = [le1] := by
  have h : pE lvA [lp2] = 0 := by
    unfold pE
    rw [if_neg (by decide)]
    simp only [pE0, lv_ed2, if_true]
  refine ⟨h, ?_⟩
  unfold pL
  rw [if_pos h]
  simp only [List.map_cons, List.map_nil, lv_ed2]
  rfl
theorem lv_pE1 : pE lvB [lp1] = 0 ∧ pL lvB [lp1] = [le2] := by
  have h : pE lvB [lp1] = 0 := by
    unfold pE
    rw [if_neg (by decide)]
    simp only [pE0, lv_ed1, if_true]
  refine ⟨h, ?_⟩
  unfold pL
  rw [if_pos h]
  simp only [List.map_cons, List.map_nil, lv_ed1]
  rfl
def lvS0 : DS := newS lvA 3
def lvS1 : DS := ⟨3, [(lvA, [])], [(5, [lp1])]⟩
def lvS2 : DS := ⟨4, [(lvA, [le1]), (lvB, [])], [(5, [lp1])]⟩
def lvS3 : DS := ⟨5, [(lvA, [le1]), (lvB, [le2]), (lvC, [])], []⟩
theorem lv_r1 : rcvF lvS0 5 [lp1] = ((0, 0), lvS1) := by
  have h1 : chkE lvS0 5 [lp1].length = 0 := by decide +kernel
  have h2 : lvS0.v + 1 < 5 := by decide +kernel
  unfold rcvF
  rw [h1, if_neg (by simp), if_pos h2]
  rfl
theorem lv_apl2 : aplE lvS1 [lp2] = 0 ∧ aplS lvS1 [lp2] = lvS2 := by
  have ht : lvS1.text = lvA := by kernel_rfl
  unfold aplE aplS
  rw [ht, lv_pE2.1, lv_pE2.2, if_pos rfl]
  exact ⟨by decide +kernel, by kernel_rfl⟩
theorem lv_apl1 : aplE (dropH lvS2) [lp1] = 0 ∧ aplS (dropH lvS2) [lp1] = lvS3 := by
  have ht : (dropH lvS2).text = lvB := by kernel_rfl
  unfold aplE aplS
  rw [ht, lv_pE1.1, lv_pE1.2, if_pos rfl]
  exact ⟨by decide +kernel, by kernel_rfl⟩
theorem lv_hld : hldF 1 lvS2 = (1, lvS3) := by
  have h1 : lvS2.v + 1 ∈ lvS2.hs.map Prod.fst := by decide +kernel
  have h2 : lookH lvS2.hs (lvS2.v + 1) = [lp1] := by kernel_rfl
  simp only [hldF]
  rw [if_pos h1, h2, if_pos lv_apl1.1, lv_apl1.2]
theorem lv_r2 : rcvF lvS1 4 [lp2] = ((2, 0), lvS3) := by
  have h1 : chkE lvS1 4 [lp2].length = 0 := by decide +kernel
  have h2 : ¬ lvS1.v + 1 < 4 := by decide +kernel
  unfold rcvF
  rw [h1, if_neg (by simp), if_neg h2, lv_apl2.1, if_neg (by simp), lv_apl2.2, show lvS1.hs.length = 1 from rfl, lv_hld]
  rfl
theorem lv_r3 : rcvF lvS3 4 [lp2] = ((0, 8), lvS3) := by
  have h1 : chkE lvS3 4 [lp2].length = 8 := by decide +kernel
  unfold rcvF
  rw [h1, if_pos (by decide)]
theorem lv_snc : SncOk lvA [] (nexts lvS3 0) [le1, le3] := by
  have h0 : nexts lvS3 0 = [[le1], [le2]] := by kernel_rfl
  have h1 : cmS lvA [] [le1] = [le1] := by kernel_rfl
  have h2 : cmS lvA [le1] [le2] = [le1, le3] := by kernel_rfl
  have f1 : le1.Fit := ⟨by decide, by decide, by decide, by decide, by decide⟩
  have f3 : le3.Fit := ⟨by decide, by decide, by decide, by decide, by decide⟩
  rw [h0]
  refine ⟨by decide +kernel, by decide +kernel, by decide +kernel, ?_, by rw [h1]; decide, ?_⟩
  · rw [h1]; intro e he; simp only [List.mem_singleton] at he; subst he; exact f1
  rw [h1]
  refine ⟨by decide +kernel, by decide +kernel, by decide +kernel, ?_, by rw [h2]; decide, h2⟩
  rw [h2]
  intro e he
  simp only [List.mem_cons, List.not_mem_nil, or_false] at he
  rcases he with rfl | rfl
  · exact f1
  · exact f3

end Go.Proofs.Ytkehgoailhpenaa

/- The documented example holds. It has no conditions. -/
namespace Go.Proofs.Ytkehgoailhpenaa
open Go.RowKit Go.Shelf Go.Maps
set_option linter.unusedVariables false

/-- One edit by positions in a new block. -/
theorem ps_one (w : World) (p : PE) : PS (w.alloc (.cells p.vals.toArray 59)).heap.size (w.alloc (.cells p.vals.toArray 59)) (some ⟨w.heap.size, 0, none⟩) 1 [p] := by
  refine ⟨Nat.le_refl _, by omega, .inr ⟨w.heap.size, 0, rfl, by simp, fun k hk i hi => ?_⟩⟩
  obtain rfl : k = 0 := by simp at hk; exact hk
  rw [(Blk.new w 59 p.vals.toArray).cell]
  simp [pG]
theorem es_two (w : World) (x y : Er) : ES (w.alloc (.cells (rv [x, y]).toArray 82)).heap.size (w.alloc (.cells (rv [x, y]).toArray 82)) (some ⟨w.heap.size, 0, none⟩) 2 [x, y] := by
  refine ⟨Nat.le_refl _, by omega, (fun h => by cases h), .inr ⟨w.heap.size, 0, rfl, by simp, fun k hk i hi => ?_⟩⟩
  rw [(Blk.new w 82 (rv [x, y]).toArray).cell, List.getElem?_toArray, Nat.zero_add]
  exact rv_get [x, y] k i hk hi
theorem lp_fit (p : PE) (h : p = lp1 ∨ p = lp2) : p.fit ∧ p.t.size ≤ 100000 := by
  rcases h with rfl | rfl <;> exact ⟨⟨⟨by decide, by decide⟩, ⟨by decide, by decide⟩, ⟨by decide, by decide⟩, ⟨by decide, by decide⟩⟩, by decide⟩

/-- What lay when the example began lies as it lay. -/
structure LvO (w W : World) (T : Nat → Prop) : Prop where
  b : Below w.heap.size w W
  t : ∀ b, T b → w.heap.size ≤ b
theorem LvO.below {w W W' : World} {T : Nat → Prop} (h : LvO w W T) (hb : Below W.heap.size W W') : LvO w W' T := ⟨h.b.trans (hb.mono h.b.size), h.t⟩
theorem LvO.step {w W W' : World} {T G T' G' : Nat → Prop} (h : LvO w W T) (k : Stp T G T' G' W W') : LvO w W' T' :=
  ⟨h.b.trans (k.below h.b.size h.t), fun b hb => (k.t b hb).elim (h.t b) (fun e => by have := h.b.size; omega)⟩

set_option maxRecDepth 100000 in
set_option maxHeartbeats 4000000 in
theorem lives_any (w : World) : Calls Try.prog 14 #[] w fun e w' => e = .returned (.bool true) ∧ Below w.heap.size w w' := by
  have CN := Lib.hid (new_any lvA 3 w)
  have hE : newE lvA 3 = 0 := by decide +kernel
  rw [hE] at CN
  have HCR : Hid (∀ (T G : Nat → Prop) (p : Nat) (s s' : DS) (cv : Int) (q : PE) (x y : Int) (W : World) (a : Option Addr), DocI T G W p s → (cv = 5 ∨ cv = 4) → (q = lp1 ∨ q = lp2) → PS W.heap.size W a 1 [q] → rcvF s cv [q] = ((x, y), s') →
      Calls Try.prog 9 #[.pointer (some ⟨p, 0, none⟩), .agg #[.int .i64 cv, .slice a 1 1]] W fun e w' => e = .returned (.tuple #[.int .i64 x, .int .i64 y]) ∧ ∃ T' G', DocI T' G' w' p s' ∧ Stp T G T' G' W w') := fun T G p s s' cv q x y W a hd hc hq hp hr => by
    have := receive_any T G p s W hd cv (by rcases hc with rfl | rfl <;> decide) (by rcases hc with rfl | rfl <;> decide) a 1 [q] hp (by simp) (fun r h => by simp only [List.mem_singleton] at h; subst h; exact lp_fit r hq)
    rw [hr] at this
    exact this
  clear hE
  go_enter Try.func14, Try.ntmps14
  go_wp2_with fail
  refine CN.out.mono ?_
  rintro e w1 hw
  obtain ⟨p, rfl, hd1, b1⟩ : ∃ p, e = .returned (.tuple #[.pointer (some ⟨p, 0, none⟩), .int .i64 0]) ∧ DocI (newB w w1) (fun _ => False) w1 p lvS0 ∧ Below w.heap.size w w1 := by
    rcases hw with ⟨h, _⟩ | ⟨_, p, h1, h2, h3⟩
    · exact absurd rfl h
    · exact ⟨p, h1, h2, h3⟩
  have HL1 : Hid (LvO w w1 (newB w w1)) := ⟨b1, fun b hb => hb.1⟩
  have HD1 := Lib.hid hd1
  clear hw hd1 b1
  obtain ⟨W1, hW1⟩ : ∃ W, w1.alloc (.cells lp1.vals.toArray 59) = W := ⟨_, rfl⟩
  have k1 : Below w1.heap.size w1 W1 := by rw [← hW1]; exact (Below.refl _ _).alloc (Nat.le_refl _) _
  have C1 := HCR.out _ _ p lvS0 lvS1 5 lp1 0 0 W1 (some ⟨w1.heap.size, 0, none⟩) (HD1.out.below k1) (.inl rfl) (.inl rfl) (by rw [← hW1]; exact ps_one w1 lp1) lv_r1
  have HC1 := Lib.hid C1; have HK1 := Lib.hid k1; have HW1 : Hid (w1.alloc (.cells #[.int .i64 0, .int .i64 3, .int .i64 0, .int .i64 3, .string ⟨#[121]⟩] 59) = W1) := hW1
  clear C1 k1 hW1
  go_wp2_with fail
  rw [HW1.out]
  refine HC1.out.mono ?_
  rintro e w2 ⟨rfl, T2, G2, hd2, hs2⟩
  have HL2 : Hid (LvO w w2 T2) := (HL1.out.below HK1.out).step hs2
  have HD2 := Lib.hid hd2
  clear hd2 hs2 HC1 HW1 HK1
  obtain ⟨q, hq⟩ : ∃ q, w2.heap.size = q := ⟨_, rfl⟩
  obtain ⟨W2, hW2⟩ : ∃ W, w2.alloc (.cells lp2.vals.toArray 59) = W := ⟨_, rfl⟩
  obtain ⟨W3, hW3⟩ : ∃ W, W2.alloc (.cells #[.int .i64 4, .slice (some ⟨q, 0, none⟩) 1 1] 34) = W := ⟨_, rfl⟩
  have z2 : W2.heap.size = q + 1 := by rw [← hW2, ← hq]; simp
  have k2 : Below w2.heap.size w2 W2 := by rw [← hW2]; exact (Below.refl _ _).alloc (Nat.le_refl _) _
  have k3 : Below W2.heap.size W2 W3 := by rw [← hW3]; exact (Below.refl _ _).alloc (Nat.le_refl _) _
  have kc : Blk W3 (q + 1) 34 #[.int .i64 4, .slice (some ⟨q, 0, none⟩) 1 1] := by rw [← hW3, ← z2]; exact Blk.new _ _ _
  have hp2 : PS W2.heap.size W2 (some ⟨q, 0, none⟩) 1 [lp2] := by rw [← hW2, ← hq]; exact ps_one w2 lp2
  have k23 : Below w2.heap.size w2 W3 := k2.trans (k3.mono k2.size)
  have hp3 := hp2.on k3
  have C2 := HCR.out _ _ p lvS1 lvS3 4 lp2 2 0 W3 (some ⟨q, 0, none⟩) (HD2.out.below k23) (.inr rfl) (.inr rfl) hp3 lv_r2
  have u0 := kc.cell 0
  have u1 := kc.cell 1
  simp only [List.getElem?_toArray, List.getElem?_cons_zero, List.getElem?_cons_succ] at u0 u1
  have HC2 := Lib.hid C2; have HK23 := Lib.hid k23; have HKC := Lib.hid kc; have HP3 := Lib.hid hp3
  have HW3 : Hid ((w2.alloc (.cells #[.int .i64 0, .int .i64 1, .int .i64 0, .int .i64 1, .string ⟨#[120]⟩] 59)).alloc (.cells #[.int .i64 4, .slice (some ⟨q, 0, none⟩) 1 1] 34) = W3) := by rw [← hW3, ← hW2]; rfl
  have HTQ : Hid (∀ b, T2 b → b < q) := fun b hb => by rw [← hq]; exact HD2.out.lt b hb
  have hzq : q + 2 = W3.heap.size := by rw [← hW3]; simp [z2]
  have HZQ := Lib.hid hzq
  clear C2 k23 kc hp3 hp2 k3 k2 z2 hW3 hW2 hzq
  go_wp2_with fail
  rw [HW3.out]
  refine HC2.out.mono ?_
  rintro e w4 ⟨rfl, T4, G4, hd4, hs4⟩
  have hzz := hs4.only.size
  have hbk : ∀ b, q ≤ b → b < W3.heap.size → w4.heap[b]? = W3.heap[b]? := fun b h1 h2 => hs4.only.block b h2 (fun hT => by have := HTQ.out b hT; omega)
  have hz9 := HZQ.out
  have v0 : w4.cell? ⟨q + 1, 0, none⟩ = some (.int .i64 4) := by rw [← u0]; simp only [World.cell?, hbk (q + 1) (by omega) (by omega)]
  have v1 : w4.cell? ⟨q + 1, 1, none⟩ = some (.slice (some ⟨q, 0, none⟩) 1 1) := by rw [← u1]; simp only [World.cell?, hbk (q + 1) (by omega) (by omega)]
  have hp4 : PS w4.heap.size w4 (some ⟨q, 0, none⟩) 1 [lp2] := by
    have h1 := (PsG.of (G := fun b => b = q) HP3.out (fun _ b hb => by obtain ⟨_, hb⟩ := hb; cases hb; rfl)).keep (G' := fun b => b = q) hzz (fun b hb hlt => by subst hb; exact hbk b (Nat.le_refl _) hlt) (fun _ h => h)
    obtain ⟨a', c', e1, e2⟩ := h1.ps
    simp only [Value.slice.injEq, true_and] at e1
    obtain ⟨rfl, rfl⟩ := e1
    exact e2
  have C3 := HCR.out _ _ p lvS3 lvS3 4 lp2 0 8 w4 (some ⟨q, 0, none⟩) hd4 (.inr rfl) (.inr rfl) hp4 lv_r3
  have HC3 := Lib.hid C3
  have HL4 : Hid (LvO w w4 T4) := (HL2.out.below HK23.out).step hs4
  clear C3 hp4 hbk hzz hz9 hs4 hd4 u0 u1 HC2 HW3
  go_wp2_with fail
  refine HC3.out.mono ?_
  rintro e w5 ⟨rfl, T5, G5, hd5, hs5⟩
  have HL5 : Hid (LvO w w5 T5) := HL4.out.step hs5
  have HD5 := Lib.hid hd5
  have C4 := Lib.hid (since_any T5 G5 p lvS3 w5 hd5 3 (by decide) (by decide) (by decide +kernel) 0 (by decide +kernel) (by decide) [le1, le3] lv_snc)
  clear hd5 hs5 HC3 v0 v1
  go_wp2_with fail
  refine C4.out.mono ?_
  rintro e w6 ⟨a6, c6, rfl, hE6, b6⟩
  have HE6 := Lib.hid hE6; have B56 := Lib.hid b6
  have C5 := Lib.hid (text_any T5 G5 p lvS3 w6 (HD5.out.below b6))
  have htx : lvS3.text = ⟨#[97, 120, 98, 121]⟩ := by kernel_rfl
  rw [htx] at C5
  have HL6 : Hid (LvO w w6 T5) := HL5.out.below b6
  clear hE6 b6 htx
  go_wp2_with fail
  refine C5.out.mono ?_
  rintro e w7 ⟨rfl, b7⟩
  have B67 := Lib.hid b7
  have HL7 : Hid (LvO w w7 T5) := HL6.out.below b7
  clear b7
  obtain ⟨W8, hW8⟩ : ∃ W, w7.alloc (.cells (rv [le1, le3]).toArray 82) = W := ⟨_, rfl⟩
  have k8 : Below w7.heap.size w7 W8 := by rw [← hW8]; exact (Below.refl _ _).alloc (Nat.le_refl _) _
  have C6 := Lib.hid (same_any a6 (some ⟨w7.heap.size, 0, none⟩) c6 2 [le1, le3] W8 (by decide) ((HE6.out.on B67.out).on k8) (by rw [← hW8]; exact es_two w7 le1 le3))
  have HL8 : Hid (LvO w W8 T5) := HL7.out.below k8
  have HW8 : Hid (w7.alloc (.cells #[.int .i64 1, .int .i64 1, .string ⟨#[120]⟩, .int .i64 2, .int .i64 2, .string ⟨#[121]⟩] 82) = W8) := hW8
  clear k8 hW8
  go_wp2_with fail
  rw [HW8.out]
  refine C6.out.mono ?_
  rintro e w9 ⟨rfl, b9⟩
  have HL9 : Hid (LvO w w9 T5) := HL8.out.below b9
  clear b9
  go_wp2_with fail
  go_ret
  exact ⟨rfl, HL9.out.b⟩

end Go.Proofs.Ytkehgoailhpenaa

/- Changes that fit one after the other, received in any order: mathematics, no conditions. -/
namespace Go.Proofs.Ytkehgoailhpenaa
open Go.RowKit Go.Shelf Go.Maps
set_option linter.unusedVariables false

/-- A change fits a text. -/
structure Fit1 (S : ByteArray) (p : List PE) : Prop where
  e : pE S p = 0
  v : vErr (S.size : Int) (pL S p) = 0
  sz : (apS S (pL S p)).size ≤ 4096
  n : p.length ≤ 64
  f : ∀ q ∈ p, q.fit ∧ q.t.size ≤ 100000
/-- Changes fit one after the other. -/
def Fits : ByteArray → List (List PE) → Prop
  | _, [] => True
  | S, p :: l => Fit1 S p ∧ Fits (apS S (pL S p)) l
/-- The text behind changes. -/
noncomputable def endT : ByteArray → List (List PE) → ByteArray
  | S, [] => S
  | S, p :: l => endT (apS S (pL S p)) l
theorem endT_snoc : ∀ (l : List (List PE)) (S : ByteArray) (p : List PE), endT S (l ++ [p]) = apS (endT S l) (pL (endT S l) p) := by
  intro l
  induction l with
  | nil => intro S p; rfl
  | cons q l ih => intro S p; exact ih _ p
theorem Fits.snoc : ∀ {l : List (List PE)} {S : ByteArray} {p : List PE}, Fits S l → Fit1 (endT S l) p → Fits S (l ++ [p]) := by
  intro l
  induction l with
  | nil => intro S p _ h; exact ⟨h, trivial⟩
  | cons q l ih => intro S p h k; exact ⟨h.1, ih h.2 k⟩
theorem Fits.at_ : ∀ {cs : List (List PE)} {S : ByteArray}, Fits S cs → ∀ (m : Nat) (h : m < cs.length), Fit1 (endT S (cs.take m)) cs[m] := by
  intro cs
  induction cs with
  | nil => intro S _ m h; simp at h
  | cons q l ih =>
    intro S h m hm
    cases m with
    | zero => exact h.1
    | succ m => exact ih h.2 m (by simpa using hm)
theorem endT_take {cs : List (List PE)} {S : ByteArray} {m : Nat} (h : m < cs.length) : endT S (cs.take (m + 1)) = apS (endT S (cs.take m)) (pL (endT S (cs.take m)) cs[m]) := by
  rw [List.take_succ_eq_append_getElem h, endT_snoc]
theorem Fits.mem {cs : List (List PE)} {S : ByteArray} (h : Fits S cs) {m : Nat} (hm : m < cs.length) : cs[m].length ≤ 64 ∧ ∀ q ∈ cs[m], q.fit ∧ q.t.size ≤ 100000 := ⟨(h.at_ m hm).n, (h.at_ m hm).f⟩

theorem delH_keys2 (hs : List (Int × List PE)) (k : Int) : (delH hs k).map Prod.fst = (hs.map Prod.fst).filter (fun x => decide (x ≠ k)) := by
  unfold delH
  induction hs with
  | nil => rfl
  | cons x l ih =>
    simp only [List.filter_cons, List.map_cons]
    split <;> simp_all
theorem nodup_len : ∀ (n : Nat) (l : List Int), l.Nodup → (∀ x ∈ l, 1 ≤ x ∧ x ≤ n) → l.length ≤ n := by
  intro n
  induction n with
  | zero =>
    intro l _ h
    cases l with
    | nil => exact Nat.le_refl _
    | cons x l => have := h x List.mem_cons_self; omega
  | succ n ih =>
    intro l hn h
    have h1 := ih (l.filter (fun x => decide (x ≠ ((n : Int) + 1)))) (hn.filter _) (fun x hx => by
      obtain ⟨h1, h2⟩ := List.mem_filter.1 hx
      have := h x h1
      simp at h2
      omega)
    have h2 : l.length ≤ (l.filter (fun x => decide (x ≠ ((n : Int) + 1)))).length + 1 := by
      clear h1 ih h
      induction l with
      | nil => simp
      | cons x l ih =>
        rw [List.nodup_cons] at hn
        by_cases hx : x = (n : Int) + 1
        · have : l.filter (fun x => decide (x ≠ ((n : Int) + 1))) = l := List.filter_eq_self.2 (fun y hy => by
            simp only [decide_eq_true_eq]
            exact fun e => hn.1 (by rw [hx, ← e]; exact hy))
          rw [List.filter_cons, if_neg (by simp [hx]), this]; simp
        · rw [List.filter_cons, if_pos (by simp [hx])]
          have := ih hn.2
          simp only [List.length_cons]; omega
    omega

/-- A document that has applied the first changes, and holds some of the others: those behind the next are held (g = 1), or the next may be held, too (g = 0). -/
structure OrdG (g : Int) (S : ByteArray) (cs : List (List PE)) (s : DS) : Prop where
  m : ∃ m : Nat, m ≤ cs.length ∧ s.v = (m : Int) ∧ s.text = endT S (cs.take m)
  hs : ∀ x ∈ s.hs, ∃ (k : Nat) (h : k < cs.length), x.1 = (k : Int) + 1 ∧ x.2 = cs[k] ∧ s.v + g ≤ (k : Int)
  nd : (s.hs.map Prod.fst).Nodup
abbrev Ord (S : ByteArray) (cs : List (List PE)) (s : DS) : Prop := OrdG 1 S cs s
theorem OrdG.weak {S : ByteArray} {cs : List (List PE)} {s : DS} (h : Ord S cs s) : OrdG 0 S cs s := ⟨h.m, fun x hx => by obtain ⟨k, h1, h2, h3, h4⟩ := h.hs x hx; exact ⟨k, h1, h2, h3, by omega⟩, h.nd⟩
theorem Ord.new (S : ByteArray) (cs : List (List PE)) : Ord S cs (newS S 0) := ⟨⟨0, by omega, rfl, rfl⟩, fun x hx => by simp [newS] at hx, by simp [newS]⟩
/-- The next change is applied. -/
theorem ord_apl {S : ByteArray} {cs : List (List PE)} {s : DS} (hF : Fits S cs) {m : Nat} (hm : m < cs.length) (hv : s.v = (m : Int)) (ht : s.text = endT S (cs.take m)) :
    aplE s cs[m] = 0 ∧ (aplS s cs[m]).v = (m : Int) + 1 ∧ (aplS s cs[m]).text = endT S (cs.take (m + 1)) ∧ (aplS s cs[m]).hs = s.hs := by
  have h := hF.at_ m hm
  rw [← ht] at h
  refine ⟨?_, by rw [aplS_v, hv], by rw [aplS_text, endT_take hm, ht], rfl⟩
  unfold aplE
  rw [h.e, if_pos rfl]
  unfold advE
  rw [if_pos h.v, if_neg (by have := h.sz; omega)]
theorem key_of {s : DS} {k : Int} (h : k ∈ s.hs.map Prod.fst) : ∃ x ∈ s.hs, x.1 = k := by
  obtain ⟨x, h1, h2⟩ := List.mem_map.1 h
  exact ⟨x, h1, h2⟩
theorem ord_held {S : ByteArray} {cs : List (List PE)} (hF : Fits S cs) : ∀ (f : Nat) (s : DS), OrdG 0 S cs s → s.hs.length ≤ f →
    Ord S cs (hldF f s).2 ∧ (hldF f s).2.v = s.v + ((hldF f s).1 : Int) ∧ ∀ k ∈ s.hs.map Prod.fst, k ≤ (hldF f s).2.v ∨ k ∈ (hldF f s).2.hs.map Prod.fst := by
  intro f
  induction f with
  | zero =>
    intro s h hl
    have : s.hs = [] := List.eq_nil_of_length_eq_zero (by omega)
    exact ⟨⟨h.m, fun x hx => by rw [show (hldF 0 s).2 = s from rfl, this] at hx; simp at hx, h.nd⟩, by simp [hldF], fun k hk => .inr hk⟩
  | succ f ih =>
    intro s h hl
    obtain ⟨m, hm1, hm2, hm3⟩ := h.m
    simp only [hldF]
    by_cases hin : s.v + 1 ∈ s.hs.map Prod.fst
    · obtain ⟨k, hk, e1, e2, e3⟩ := h.hs _ (lookH_mem hin)
      simp only at e1 e2
      obtain rfl : k = m := by omega
      have ht : (dropH s).text = endT S (cs.take k) := hm3
      obtain ⟨a1, a2, a3, a4⟩ := ord_apl (s := dropH s) hF hk hm2 ht
      rw [if_pos hin, e2, if_pos a1]
      have hlen := delH_len h.nd hin
      have hkeys := delH_keys2 s.hs (s.v + 1)
      have hd : (dropH s).hs = delH s.hs (s.v + 1) := rfl
      obtain ⟨i1, i2, i3⟩ := ih (aplS (dropH s) cs[k]) ⟨⟨k + 1, by omega, by rw [a2]; rfl, a3⟩, fun x hx => by
        rw [a4, hd] at hx
        obtain ⟨q1, q2⟩ := List.mem_filter.1 hx
        obtain ⟨j, hj, j1, j2, j3⟩ := h.hs x q1
        simp only [decide_eq_true_eq] at q2
        exact ⟨j, hj, j1, j2, by rw [a2]; omega⟩, by rw [a4, hd, hkeys]; exact h.nd.filter _⟩ (by rw [a4, hd]; omega)
      refine ⟨i1, ?_, fun x hx => ?_⟩
      · simp only [i2, a2]; omega
      · by_cases hxe : x = s.v + 1
        · subst hxe
          refine .inl ?_
          simp only [i2, a2]; omega
        · exact i3 x (by rw [a4, hd, hkeys]; exact List.mem_filter.2 ⟨hx, by simp [hxe]⟩)
    · rw [if_neg hin]
      refine ⟨⟨h.m, fun x hx => ?_, h.nd⟩, by simp, fun k hk => .inr hk⟩
      obtain ⟨k, hk, e1, e2, e3⟩ := h.hs x hx
      refine ⟨k, hk, e1, e2, ?_⟩
      have hne : x.1 ≠ s.v + 1 := fun e => hin (e ▸ List.mem_map.2 ⟨x, hx, rfl⟩)
      simp only
      omega
theorem chk_twice {s : DS} {cv : Int} {n : Nat} (h1 : 1 ≤ cv) (h2 : cv ≤ 1099511627776) (hn : n ≤ 64) (h : cv ≤ s.v ∨ cv ∈ s.hs.map Prod.fst) : chkE s cv n = 8 := by
  unfold chkE
  rw [if_neg (by omega), if_neg (by omega), if_pos (h.elim .inl .inr)]
theorem chk_zero {s : DS} {cv : Int} {n : Nat} (h1 : 1 ≤ cv) (h2 : cv ≤ 1099511627776) (hn : n ≤ 64) (h3 : s.v < cv) (h4 : cv ∉ s.hs.map Prod.fst) (h5 : s.v + 1 < cv → s.hs.length < 16) : chkE s cv n = 0 := by
  unfold chkE
  rw [if_neg (by omega), if_neg (by omega), if_neg (fun e => e.elim (fun e => by omega) h4), if_neg (fun e => by have := h5 e.1; omega)]
/-- A change arrives. -/
theorem ord_step {S : ByteArray} {cs : List (List PE)} (hF : Fits S cs) (hn : cs.length ≤ 16) {s : DS} (h : Ord S cs s) {k : Nat} (hk : k < cs.length) :
    ∃ (n e : Int) (s' : DS), rcvF s ((k : Int) + 1) cs[k] = ((n, e), s') ∧ Ord S cs s' ∧ s'.v = s.v + n ∧ 0 ≤ n ∧ (e = 0 ∨ e = 8) ∧ ((k : Int) + 1 ≤ s'.v ∨ (k : Int) + 1 ∈ s'.hs.map Prod.fst) ∧ ∀ r ∈ s.hs.map Prod.fst, r ≤ s'.v ∨ r ∈ s'.hs.map Prod.fst := by
  obtain ⟨m, hm1, hm2, hm3⟩ := h.m
  have hl := (hF.mem hk).1
  by_cases h1 : (k : Int) + 1 ≤ s.v ∨ (k : Int) + 1 ∈ s.hs.map Prod.fst
  · refine ⟨0, 8, s, ?_, h, by omega, by omega, .inr rfl, h1, fun r hr => .inr hr⟩
    unfold rcvF
    rw [chk_twice (by omega) (by omega) hl h1, if_pos (by decide)]
  · have hlen : s.hs.length ≤ 15 := by
      have := nodup_len 15 ((s.hs.map Prod.fst).map (fun x => x - 1)) (by
        refine List.Pairwise.map _ (fun a b hab => ?_) h.nd
        omega) (fun x hx => by
        obtain ⟨y, hy, rfl⟩ := List.mem_map.1 hx
        obtain ⟨z, hz, rfl⟩ := key_of hy
        obtain ⟨j, hj, j1, j2, j3⟩ := h.hs z hz
        omega)
      simpa using this
    have hc : chkE s ((k : Int) + 1) cs[k].length = 0 := chk_zero (by omega) (by omega) hl (by omega) (fun e => h1 (.inr e)) (fun _ => by omega)
    by_cases h2 : s.v + 1 < (k : Int) + 1
    · refine ⟨0, 0, holdS s ((k : Int) + 1) cs[k], ?_, ?_, by show s.v = _; omega, by omega, .inl rfl, .inr ?_, fun r hr => .inr ?_⟩
      · unfold rcvF
        rw [hc, if_neg (by simp), if_pos h2]
      · refine ⟨⟨m, hm1, hm2, hm3⟩, fun x hx => ?_, ?_⟩
        · rcases List.mem_append.1 hx with hx | hx
          · exact h.hs x hx
          · simp only [List.mem_singleton] at hx
            subst hx
            exact ⟨k, hk, rfl, rfl, by show s.v + 1 ≤ _; omega⟩
        · show ((s.hs ++ [((k : Int) + 1, cs[k])]).map Prod.fst).Nodup
          rw [List.map_append]
          exact List.nodup_append.2 ⟨h.nd, by simp, fun a ha b hb => by simp at hb; subst hb; exact fun e => h1 (.inr (e ▸ ha))⟩
      · show _ ∈ (s.hs ++ [((k : Int) + 1, cs[k])]).map Prod.fst
        simp
      · show _ ∈ (s.hs ++ [((k : Int) + 1, cs[k])]).map Prod.fst
        rw [List.map_append]
        exact List.mem_append_left _ hr
    · obtain rfl : k = m := by omega
      obtain ⟨a1, a2, a3, a4⟩ := ord_apl (s := s) hF hk hm2 hm3
      have hw : OrdG 0 S cs (aplS s cs[k]) := ⟨⟨k + 1, by omega, by rw [a2]; rfl, a3⟩, fun x hx => by
        rw [a4] at hx
        obtain ⟨j, hj, j1, j2, j3⟩ := h.hs x hx
        exact ⟨j, hj, j1, j2, by rw [a2]; omega⟩, by rw [a4]; exact h.nd⟩
      obtain ⟨i1, i2, i3⟩ := ord_held hF s.hs.length (aplS s cs[k]) hw (by rw [a4]; exact Nat.le_refl _)
      refine ⟨1 + ((hldF s.hs.length (aplS s cs[k])).1 : Int), 0, (hldF s.hs.length (aplS s cs[k])).2, ?_, i1, by rw [i2, a2]; omega, by omega, .inl rfl, .inl (by rw [i2, a2]; omega), fun r hr => i3 r (by rw [a4]; exact hr)⟩
      unfold rcvF
      rw [hc, if_neg (by simp), if_neg h2, a1, if_neg (by simp)]
/-- The changes in order. -/
theorem ord_next {S : ByteArray} {cs : List (List PE)} (hF : Fits S cs) (hn : cs.length ≤ 16) {s : DS} {k : Nat} (hk : k < cs.length) (hv : s.v = (k : Int)) (ht : s.text = endT S (cs.take k)) (hh : s.hs = []) :
    ∃ s', rcvF s ((k : Int) + 1) cs[k] = ((1, 0), s') ∧ s'.v = (k : Int) + 1 ∧ s'.text = endT S (cs.take (k + 1)) ∧ s'.hs = [] := by
  have hl := (hF.mem hk).1
  have hc : chkE s ((k : Int) + 1) cs[k].length = 0 := chk_zero (by omega) (by omega) hl (by omega) (by simp [hh]) (fun _ => by simp [hh])
  obtain ⟨a1, a2, a3, a4⟩ := ord_apl (s := s) hF hk hv ht
  refine ⟨aplS s cs[k], ?_, a2, a3, by rw [a4, hh]⟩
  unfold rcvF
  rw [hc, if_neg (by simp), if_neg (by omega), a1, if_neg (by simp), hh]
  rfl
/-- All have arrived. -/
theorem ord_all {S : ByteArray} {cs : List (List PE)} {s : DS} (h : Ord S cs s) (ha : ∀ k, k < cs.length → (k : Int) + 1 ≤ s.v ∨ (k : Int) + 1 ∈ s.hs.map Prod.fst) : s.v = (cs.length : Int) ∧ s.text = endT S cs ∧ s.hs = [] := by
  obtain ⟨m, hm1, hm2, hm3⟩ := h.m
  have hm : m = cs.length := by
    refine Nat.le_antisymm hm1 (Nat.le_of_not_lt (fun hlt => ?_))
    rcases ha m hlt with h1 | h1
    · omega
    · obtain ⟨x, hx, hx1⟩ := key_of h1
      obtain ⟨k, hk, e1, _, e3⟩ := h.hs x hx
      omega
  subst hm
  rw [List.take_length] at hm3
  refine ⟨hm2, hm3, ?_⟩
  cases hh : s.hs with
  | nil => rfl
  | cons x l =>
    obtain ⟨k, hk, e1, _, e3⟩ := h.hs x (by rw [hh]; exact List.mem_cons_self)
    omega

end Go.Proofs.Ytkehgoailhpenaa

/- Lists of changes in memory. It has no conditions. -/
namespace Go.Proofs.Ytkehgoailhpenaa
open Go.RowKit Go.Shelf Go.Maps
set_option linter.unusedVariables false

theorem infoCh : (Try.prog.info? 34).map (fun i => (i.zero, i.size, i.bytes)) = some (some (.agg #[.int .i64 0, .slice none 0 0]), 2, 32) := by kernel_rfl
/-- The cells of changes: a version and a list of edits each. -/
def cv (vs : List (Int × Value)) : List Value := vs.flatMap fun x => [.int .i64 x.1, x.2]
def cG (vs : List (Int × Value)) (k : Nat) : Int × Value := vs[k]?.getD (0, .slice none 0 0)
theorem cv_len (vs : List (Int × Value)) : (cv vs).length = vs.length * 2 := by
  induction vs with
  | nil => rfl
  | cons x vs ih => simp only [cv, List.flatMap_cons, List.length_append] at ih ⊢; rw [ih]; simp; omega
theorem cv_app (a b : List (Int × Value)) : cv (a ++ b) = cv a ++ cv b := by simp [cv]
theorem cv_get : ∀ (vs : List (Int × Value)) (k : Nat), k < vs.length → (cv vs)[k * 2]? = some (.int .i64 (cG vs k).1) ∧ (cv vs)[k * 2 + 1]? = some (cG vs k).2 := by
  intro vs
  induction vs with
  | nil => intro k h; simp at h
  | cons x vs ih =>
    intro k h
    have e : cv (x :: vs) = Value.int .i64 x.1 :: x.2 :: cv vs := rfl
    rw [e]
    cases k with
    | zero => exact ⟨rfl, rfl⟩
    | succ k =>
      have := ih k (by simpa using h)
      rw [show (k + 1) * 2 = k * 2 + 1 + 1 by omega]
      exact this
theorem cG_app1 {a b : List (Int × Value)} {k : Nat} (h : k < a.length) : cG (a ++ b) k = cG a k := by unfold cG; rw [List.getElem?_append_left h]
theorem cG_app2 (a : List (Int × Value)) (x : Int × Value) : cG (a ++ [x]) a.length = x := by unfold cG; simp
theorem cG_mem {vs : List (Int × Value)} {k : Nat} (h : k < vs.length) : cG vs k ∈ vs := by unfold cG; rw [List.getElem?_eq_getElem h]; exact List.getElem_mem h
/-- The values of changes are slices. -/
def VOk (vs : List (Int × Value)) : Prop := ∀ x ∈ vs, ∃ a n c, x.2 = .slice a n c
theorem VOk.one {vs : List (Int × Value)} (h : VOk vs) : ∀ u ∈ cv vs, u.oneCell' = true := by
  intro u hu
  obtain ⟨p, hp1, hp⟩ := List.mem_flatMap.1 hu
  simp only [List.mem_cons, List.not_mem_nil, or_false] at hp
  rcases hp with rfl | rfl
  · rfl
  · obtain ⟨a, n, c, e⟩ := h p hp1
    rw [e]; rfl
/-- A slice of changes lies in memory, below block B. -/
structure VS (B : Nat) (w : World) (a : Option Addr) (cap : Nat) (vs : List (Int × Value)) : Prop where
  le : vs.length ≤ cap
  mx : cap ≤ 9223372036854775807
  nil : a = none → cap = 0
  cells : vs.length = 0 ∨ ∃ b off, a = some ⟨b, off, none⟩ ∧ b < B ∧ ∀ k, k < vs.length → w.cell? ⟨b, off + k * 2, none⟩ = some (.int .i64 (cG vs k).1) ∧ w.cell? ⟨b, off + k * 2 + 1, none⟩ = some (cG vs k).2
theorem VS.keep {B : Nat} {w w' : World} {a : Option Addr} {cap : Nat} {vs : List (Int × Value)} (h : VS B w a cap vs) (hb : ∀ b, blkOf a b → b < B → w'.heap[b]? = w.heap[b]?) : VS B w' a cap vs := by
  refine ⟨h.le, h.mx, h.nil, ?_⟩
  rcases h.cells with h0 | ⟨b, off, h1, h2, h3⟩
  · exact .inl h0
  · have he := hb b ⟨off, h1⟩ h2
    refine .inr ⟨b, off, h1, h2, fun k hk => ?_⟩
    have := h3 k hk
    simp only [World.cell?, he] at this ⊢
    exact this
theorem VS.mono {B B' : Nat} {w : World} {a : Option Addr} {cap : Nat} {vs : List (Int × Value)} (h : VS B w a cap vs) (hb : B ≤ B') : VS B' w a cap vs := by
  refine ⟨h.le, h.mx, h.nil, ?_⟩
  rcases h.cells with h0 | ⟨b, off, h1, h2, h3⟩
  · exact .inl h0
  · exact .inr ⟨b, off, h1, by omega, h3⟩
theorem VS.on {w w' : World} {a : Option Addr} {cap : Nat} {vs : List (Int × Value)} (h : VS w.heap.size w a cap vs) (hb : Below w.heap.size w w') : VS w'.heap.size w' a cap vs := (h.keep (fun b _ hlt => hb.block b hlt)).mono hb.size
theorem vs_of_own {w : World} {lo n : Nat} {v : Value} {vs : List (Int × Value)} (h : w.ownsRow lo 34 2 v n (cv vs)) : n = vs.length ∧ ∃ a cap, v = .slice a vs.length cap ∧ VS w.heap.size w a cap vs ∧ (∀ b, blkOf a b → lo ≤ b) ∧ v.ownBlock = a.map Addr.block := by
  have hn : n = vs.length := by have := h.1; rw [cv_len] at this; omega
  subst hn
  refine ⟨rfl, ?_⟩
  rcases h.2 with ⟨rfl, h0⟩ | ⟨g, cap, cur, rfl, hb, hg, hle, hmx, _⟩
  · rw [h0]
    exact ⟨none, 0, rfl, ⟨by omega, by omega, fun _ => rfl, .inl h0⟩, (fun b hb => by obtain ⟨_, hb⟩ := hb; cases hb), rfl⟩
  · refine ⟨_, cap, rfl, ⟨hle, by unfold maxLen at hmx; omega, (fun h => by cases h), .inr ⟨g, 0, rfl, (Array.getElem?_eq_some_iff.1 hg).1, fun k hk => ?_⟩⟩, (fun b hb' => by obtain ⟨_, hb'⟩ := hb'; cases hb'; exact hb), rfl⟩
    have hl := cv_len vs
    have hg2 := cv_get vs k hk
    rw [Nat.zero_add, h.cellAt (k * 2) (by omega), h.cellAt (k * 2 + 1) (by omega)]
    exact hg2
/-- The cells of the first changes, for an append of them. -/
theorem vscells_at {w : World} {b off : Nat} {vs : List (Int × Value)} (h : ∀ k, k < vs.length → w.cell? ⟨b, off + k * 2, none⟩ = some (.int .i64 (cG vs k).1) ∧ w.cell? ⟨b, off + k * 2 + 1, none⟩ = some (cG vs k).2) : ∀ j u, (cv vs)[j]? = some u → w.cell? ((⟨b, off, none⟩ : Addr).add j) = some u := by
  intro j u hj
  have hlt : j < vs.length * 2 := by
    have := (List.getElem?_eq_some_iff.1 hj).1
    rwa [cv_len] at this
  obtain ⟨k, i, rfl, hi, hk⟩ := div_ex (by omega) hlt
  have h1 := cv_get vs k hk
  have h2 := h k hk
  rw [addr_add]
  have h3 : i = 0 ∨ i = 1 := by omega
  rcases h3 with rfl | rfl
  · rw [Nat.add_zero] at hj ⊢
    rw [h1.1] at hj; rw [h2.1, hj]
  · rw [h1.2] at hj; rw [← Nat.add_assoc, h2.2, hj]
/-- What changes hold: versions from 1 on, and their edits, in blocks of G. -/
def Held1 (G : Nat → Prop) (w : World) (vs : List (Int × Value)) (cs : List (List PE)) : Prop := vs.length = cs.length ∧ ∀ k, k < cs.length → (cG vs k).1 = (k : Int) + 1 ∧ PsG G w (cG vs k).2 (cs[k]?.getD [])
theorem Held1.keep {G G' : Nat → Prop} {w w' : World} {vs : List (Int × Value)} {cs : List (List PE)} (h : Held1 G w vs cs) (hz : w.heap.size ≤ w'.heap.size) (hG : ∀ b, G b → b < w.heap.size → w'.heap[b]? = w.heap[b]?) (hg : ∀ b, G b → b < w.heap.size → G' b) : Held1 G' w' vs cs := by
  refine ⟨h.1, fun k hk => ⟨(h.2 k hk).1, ?_⟩⟩
  obtain ⟨a, cap, h1, h2, h3, h5⟩ := (h.2 k hk).2
  refine ⟨a, cap, h1, h2, h3, ?_⟩
  rcases h5 with h5 | ⟨b, off, k1, k2, k3, k4⟩
  · exact .inl h5
  · refine .inr ⟨b, off, k1, hg b k2 k3, by omega, fun k hk i hi => ?_⟩
    rw [← k4 k hk i hi]
    simp only [World.cell?, hG b k2 k3]
theorem Held1.ok {G : Nat → Prop} {w : World} {vs : List (Int × Value)} {cs : List (List PE)} (h : Held1 G w vs cs) : VOk vs := by
  intro x hx
  obtain ⟨k, hk, rfl⟩ := List.getElem_of_mem hx
  obtain ⟨a, cap, h1, _⟩ := (h.2 k (by have := h.1; omega)).2
  have : cG vs k = vs[k] := by unfold cG; rw [List.getElem?_eq_getElem hk]; rfl
  exact ⟨a, _, cap, by rw [← this, h1]⟩
theorem Held1.snoc {G : Nat → Prop} {w : World} {vs : List (Int × Value)} {cs : List (List PE)} {p : List PE} {u : Value} (h : Held1 G w vs cs) (hu : PsG G w u p) : Held1 G w (vs ++ [((cs.length : Int) + 1, u)]) (cs ++ [p]) := by
  have hl := h.1
  refine ⟨by simp [hl], fun k hk => ?_⟩
  by_cases hk2 : k < cs.length
  · rw [cG_app1 (by omega), List.getElem?_append_left hk2]
    exact h.2 k hk2
  · obtain rfl : k = cs.length := by simp at hk; omega
    have : cG (vs ++ [((cs.length : Int) + 1, u)]) cs.length = ((cs.length : Int) + 1, u) := by rw [← hl]; exact cG_app2 _ _
    rw [this]
    simp
    exact hu

end Go.Proofs.Ytkehgoailhpenaa

/- The contracts of part, and of Chain where no change is asked for. It has no conditions. -/
namespace Go.Proofs.Ytkehgoailhpenaa
open Go.RowKit Go.Shelf
set_option linter.unusedVariables false

set_option maxRecDepth 100000 in
set_option maxHeartbeats 2000000 in
theorem part_any (a : Option Addr) (cap : Nat) (ls : List Int) (x n : Nat) (w : World) (h : Sli .i64 w a cap ls) (hx : x ≤ 1000000) (hn : n ≤ 1000000) :
    Calls Try.prog 33 #[.slice a ls.length cap, .int .i64 (x : Int), .int .i64 (n : Int)] w fun e w' => w = w' ∧ ∃ a' c', e = .returned (.slice a' ((ls.drop x).take n).length c') ∧ Sli .i64 w a' c' ((ls.drop x).take n) := by
  obtain ⟨hle, hmx, hnil, hc⟩ := h
  obtain ⟨N, hN⟩ : ∃ N, ls.length = N := ⟨_, rfl⟩
  obtain ⟨A, hA⟩ : ∃ A, min x N = A := ⟨_, rfl⟩
  obtain ⟨H, hH⟩ : ∃ H, min N (A + n) = H := ⟨_, rfl⟩
  have hlen : ((ls.drop x).take n).length = H - A := by rw [List.length_take, List.length_drop]; omega
  have m1 : min (x : Int) (N : Int) = (A : Int) := by omega
  have m2 : min (N : Int) ((A : Int) + (n : Int)) = (H : Int) := by omega
  have hAH : (A : Int) ≤ (H : Int) := by omega
  have hHc : (H : Int) ≤ (cap : Int) := by omega
  have hA0 : (0 : Int) ≤ (A : Int) := by omega
  rw [hN, hlen]
  have HC := Lib.hid hc; have HN := Lib.hid hN; have HA := Lib.hid hA; have HH := Lib.hid hH; have HL := Lib.hid hlen
  cases a with
  | none =>
    obtain rfl : cap = 0 := hnil rfl
    obtain rfl : N = 0 := by omega
    obtain rfl : A = 0 := by omega
    obtain rfl : H = 0 := by omega
    have r1 : min (x : Int) 0 = 0 := by omega
    have r2 : min (0 : Int) (n : Int) = 0 := by omega
    have r3 : min (0 : Int) (0 + (n : Int)) = 0 := by omega
    clear hc hN hA hH hlen hnil m1 m2
    go_enter Try.func33, Try.ntmps33
    go_wp2
    go_ret
    have h0 : (ls.drop x).take n = [] := List.eq_nil_of_length_eq_zero HL.out
    exact ⟨rfl, none, 0, rfl, ⟨by rw [h0]; simp, by omega, fun _ => rfl, by rw [h0]; exact .inl rfl⟩⟩
  | some ad =>
    have HS : Hid (∀ a' c', (H - A = 0 ∧ c' = 0 ∧ a' ≠ none) ∨ (a' = some (ad.add A) ∧ c' = cap - A) → Sli .i64 w a' c' ((ls.drop x).take n)) := by
      intro a' c' h
      rcases h with ⟨h0, rfl, h1⟩ | ⟨rfl, rfl⟩
      · have he : (ls.drop x).take n = [] := List.eq_nil_of_length_eq_zero (by omega)
        exact ⟨by rw [he]; simp, by omega, fun _ => rfl, by rw [he]; exact .inl rfl⟩
      · refine ⟨by omega, by omega, (fun h => by cases h), ?_⟩
        by_cases h0 : H - A = 0
        · exact .inl (List.eq_nil_of_length_eq_zero (by omega))
        · rcases hc with rfl | ⟨b, off, ha, hlt, hcc⟩
          · simp at hN; omega
          · cases ha
            have hAx : A = x := by omega
            refine .inr ⟨b, off + A, ?_, hlt, fun j hj => ?_⟩
            · by_cases hz : A = 0 <;> simp [Addr.add, hz]
            · rw [show off + A + j = off + (x + j) by omega, hcc (x + j) (by omega)]
              rw [List.getElem?_take, if_pos (by omega), List.getElem?_drop]
    clear hc hN hA hH hlen hnil
    go_enter Try.func33, Try.ntmps33
    go_wp2
    all_goals
      go_ret
      first
        | exact ⟨rfl, _, _, rfl, HS.out _ _ (.inr ⟨rfl, rfl⟩)⟩
        | exact ⟨rfl, _, _, rfl, HS.out _ _ (.inl ⟨by omega, by omega, by simp⟩)⟩

set_option maxRecDepth 100000 in
set_option maxHeartbeats 2000000 in
theorem chain0_any (a : Option Addr) (cap : Nat) (ls : List Int) (w : World) (h : Sli .i64 w a cap ls) (hi : ∀ n ∈ ls, -9223372036854775808 ≤ n ∧ n ≤ 9223372036854775807) :
    Calls Try.prog 7 #[.slice a ls.length cap, .int .i64 0] w fun e w' => ∃ S, e = .returned (.tuple #[.string S, .slice none 0 0]) ∧ S.size ≤ 96 ∧ Whl (sb S) ∧ Below w.heap.size w w' := by
  have C1 := Lib.hid (part_any a cap ls 0 12 w h (by omega) (by omega))
  have hi2 : ∀ n ∈ (ls.drop 0).take 12, -9223372036854775808 ≤ n ∧ n ≤ 9223372036854775807 := fun n hn => hi n (List.mem_of_mem_drop (List.mem_of_mem_take hn))
  obtain ⟨L, hL⟩ : ∃ l, (ls.drop 0).take 12 = l := ⟨_, rfl⟩
  obtain ⟨N, hN⟩ : ∃ l, ls.length = l := ⟨_, rfl⟩
  rw [hL] at C1 hi2
  rw [hN] at C1 ⊢
  have HI2 := Lib.hid hi2
  clear h hi hi2 hL hN
  go_enter Try.func7, Try.ntmps7
  go_wp2_with fail
  refine C1.out.mono ?_
  rintro e w0 ⟨rfl, a1, c1, rfl, hs⟩
  have C2 := Lib.hid (rtext_any a1 c1 L w hs HI2.out)
  clear hs
  go_wp2_with fail
  refine C2.out.mono ?_
  rintro e w1 ⟨S, rfl, hSl, hSw, b1⟩
  have HB := Lib.hid b1; have HW := Lib.hid hSw
  clear b1 hSw
  go_wp2_with fail
  go_loopw [7, 8, 9] (fun s o q wr => s = .string S ∧ o = .slice none 0 0 ∧ q = .int .i64 0 ∧ Hid (Below w.heap.size w wr)) (fun _ _ _ _ => 0)
  case atStart => exact ⟨rfl, rfl, rfl, HB⟩
  case round =>
    obtain ⟨rfl, rfl, rfl, HR⟩ := hrel
    go_wp2_with fail
    go_ret2
    exact ⟨S, rfl, hSl, HW.out, HR.out⟩

end Go.Proofs.Ytkehgoailhpenaa
