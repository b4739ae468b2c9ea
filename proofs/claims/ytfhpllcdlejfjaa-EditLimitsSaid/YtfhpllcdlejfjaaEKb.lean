/- The contract of keptByBoth's iterator: it yields what both lists keep. Conditions: valid lists, texts of at most 10000000 bytes. -/
import Derived.Test.YtfhpllcdlejfjaaECo
import Derived.Test.YtfhpllcdlejfjaaEPart
import Derived.Test.YtfhpllcdlejfjaaEIv
namespace Go.Proofs.Ytfhpllcdlejfjaa
open Go.RowKit Go.Shelf
set_option linter.unusedVariables false
attribute [local go_sem] Oper.semAt_some

theorem kept_any (s t : ByteArray) (a b : Option Addr) (n1 c1 n2 c2 : Nat) (w : World) :
    Calls Try.prog 42 #[.string s, .slice a n1 c1, .string t, .slice b n2 c2] w fun e w' =>
      e = .returned (.func (.func 64) #[] #[.pointer (some ⟨w.heap.size + 2, 0, none⟩), .pointer (some ⟨w.heap.size + 3, 0, none⟩), .pointer (some ⟨w.heap.size, 0, none⟩), .pointer (some ⟨w.heap.size + 1, 0, none⟩)]) ∧
        w' = (((w.alloc (.cells #[.string s] 9)).alloc (.cells #[.slice a n1 c1] 22)).alloc (.cells #[.string t] 9)).alloc (.cells #[.slice b n2 c2] 22) := by
  go_enter Try.func42, Try.ntmps42
  go_wp2
  go_ret
  exact ⟨rfl, rfl⟩

/-- All that both lists keep. -/
def KB (s t : ByteArray) (es1 es2 : List Er) : List Pc := (kbl (prl s 0 0 es1) (prl t 0 0 es2)).filter (·.k)
/-- How many of the first m pairs keep something. -/
def cnt (L : List Pc) (m : Nat) : Nat := ((L.take m).filter (·.k)).length
theorem cnt_zero (L : List Pc) : cnt L 0 = 0 := rfl
theorem cnt_all {L : List Pc} {m : Nat} (h : L.length ≤ m) : cnt L m = (L.filter (·.k)).length := by unfold cnt; rw [List.take_of_length_le h]
theorem cnt_succ {L : List Pc} {m : Nat} (h : m < L.length) : cnt L (m + 1) = cnt L m + (if (pg L m).k then 1 else 0) := by
  unfold cnt
  rw [List.take_add_one, List.getElem?_eq_getElem h, Option.toList_some, List.filter_append, List.length_append]
  have hp : pg L m = L[m] := by simp [pg, List.getElem?_eq_getElem h]
  rw [hp]
  cases hk : L[m].k <;> simp [hk]
theorem cnt_get {L : List Pc} {m : Nat} (h : m < L.length) (hk : (pg L m).k = true) : cnt L m < (L.filter (·.k)).length ∧ pg (L.filter (·.k)) (cnt L m) = pg L m := by
  have hp : pg L m = L[m] := by simp [pg, List.getElem?_eq_getElem h]
  rw [hp] at hk ⊢
  have e : L.filter (·.k) = (L.take m).filter (·.k) ++ (L[m] :: (L.drop (m + 1)).filter (·.k)) := by
    conv => lhs; rw [← List.take_append_drop m L, List.drop_eq_getElem_cons h]
    rw [List.filter_append, List.filter_cons, if_pos hk]
  unfold cnt
  rw [e]
  refine ⟨by simp, ?_⟩
  unfold pg
  rw [List.getElem?_append_right (Nat.le_refl _), Nat.sub_self]
  rfl
theorem kbl_len (P1 P2 : List Pc) : (kbl P1 P2).length = P2.length * P1.length := by
  unfold kbl
  induction P2 with
  | nil => simp
  | cons p P ih => rw [List.flatMap_cons, List.length_append, ih, List.length_map, List.length_cons, Nat.succ_mul, Nat.add_comm]
theorem kbl_at {P1 : List Pc} : ∀ {P2 : List Pc} {i j : Nat}, i < P2.length → j < P1.length → pg (kbl P1 P2) (i * P1.length + j) = comm (pg P1 j) (pg P2 i) := by
  intro P2
  induction P2 with
  | nil => intro i j h; simp at h
  | cons p P ih =>
    intro i j hi hj
    have e : kbl P1 (p :: P) = (P1.map fun p1 => comm p1 p) ++ kbl P1 P := rfl
    rw [e]
    unfold pg
    cases i with
    | zero =>
      rw [Nat.zero_mul, Nat.zero_add, List.getElem?_append_left (by rw [List.length_map]; exact hj), List.getElem?_map, List.getElem?_eq_getElem hj]
      rfl
    | succ i =>
      rw [List.getElem?_append_right (by rw [List.length_map, Nat.succ_mul]; omega), List.length_map, show (i + 1) * P1.length + j - P1.length = i * P1.length + j by rw [Nat.succ_mul]; omega]
      have := ih (i := i) (j := j) (by simp at hi; omega) hj
      unfold pg at this
      rw [this]
      rfl
/-- The blocks of a list. -/
def Rl (a : Option Addr) (n k : Nat) : Prop := 0 < n ∧ ∃ off, a = some ⟨k, off, none⟩

theorem prl_ok {s : ByteArray} {es : List Er} (hs : s.size ≤ 10000000) (hv : vErr (s.size : Int) es = 0) (hx : ∀ e ∈ es, e.x.size ≤ 100000) (k : Nat) :
    (0 ≤ (pg (prl s 0 0 es) k).f ∧ (pg (prl s 0 0 es) k).f ≤ 1099511627776) ∧ (0 ≤ (pg (prl s 0 0 es) k).t ∧ (pg (prl s 0 0 es) k).t ≤ 1099511627776) ∧ (0 ≤ (pg (prl s 0 0 es) k).q ∧ (pg (prl s 0 0 es) k).q ≤ 1099511627776) ∧ (pg (prl s 0 0 es) k).x.size ≤ 1099511627776 := by
  obtain ⟨hl, hvl, hok⟩ := vErr_ok hv
  by_cases hk : k < (prl s 0 0 es).length
  · have hm : pg (prl s 0 0 es) k ∈ prl s 0 0 es := by
      unfold pg
      rw [List.getElem?_eq_getElem hk]
      exact List.getElem_mem hk
    have hv0 : vE (s.size : Int) ((0 : Nat) : Int) es = 0 := by
      have := hv
      unfold vErr at this
      rw [if_neg (by omega)] at this
      exact this
    obtain ⟨h1, h2, h3, h4, h5, h6⟩ := prl_fit (f := 0) (q := 0) (c := 0) (Nat.zero_le _) (Nat.zero_le _) hv0 hx _ hm
    obtain ⟨_, hc⟩ := prl_seg (q := 0) hvl hok
    have hx2 : (pg (prl s 0 0 es) k).x.size ≤ 10000000 := by
      cases hkk : (pg (prl s 0 0 es) k).k with
      | false => have := h6 hkk; omega
      | true =>
        have : ∀ {P : List Pc} {r : Nat}, Chn s r P → ∀ p ∈ P, p.k = true → p.x.size ≤ s.size := by
          intro P
          induction P with
          | nil => intro r _ p hp; simp at hp
          | cons c P ih =>
            intro r hcc p hp hkp
            obtain ⟨g1, g2, g3⟩ := hcc
            rcases List.mem_cons.1 hp with rfl | hp
            · obtain ⟨f, t, e1, e2, e3, e4, e5⟩ := g2 hkp
              rw [e5, cut_size e3 e4]; omega
            · exact ih g3 p hp hkp
        have := this hc _ hm hkk
        omega
    omega
  · have : pg (prl s 0 0 es) k = dP := by unfold pg; rw [List.getElem?_eq_none (by omega)]; rfl
    rw [this]
    exact ⟨⟨by decide, by decide⟩, ⟨by decide, by decide⟩, ⟨by decide, by decide⟩, by decide⟩

set_option maxRecDepth 100000 in
set_option maxHeartbeats 4000000 in
theorem kb_giv (s t : ByteArray) (xt xb xs xa : Nat) (a b : Option Addr) (c1 c2 : Nat) (es1 es2 : List Er) (w : World) (hs : s.size ≤ 10000000) (ht : t.size ≤ 10000000)
    (hv1 : vErr (s.size : Int) es1 = 0) (hv2 : vErr (t.size : Int) es2 = 0) (hf1 : ∀ e ∈ es1, e.x.size ≤ 100000) (hf2 : ∀ e ∈ es2, e.x.size ≤ 100000)
    (bt : Boxed w xt 9 (.string t)) (bb : Boxed w xb 22 (.slice b es2.length c2)) (bs : Boxed w xs 9 (.string s)) (ba : Boxed w xa 22 (.slice a es1.length c1))
    (hS1 : ES w.heap.size w a c1 es1) (hS2 : ES w.heap.size w b c2 es2) :
    Giv Try.prog 64 #[.pointer (some ⟨xt, 0, none⟩), .pointer (some ⟨xb, 0, none⟩), .pointer (some ⟨xs, 0, none⟩), .pointer (some ⟨xa, 0, none⟩)]
      (fun k => #[(pg (KB s t es1 es2) k).val]) (KB s t es1 es2).length (fun k => k = xs ∨ k = xa ∨ Rl a es1.length k ∨ Rl b es2.length k) w := by
  intro l J T₀ W hW hR hB hO hY h0
  dsimp only at hY hR
  have bt1 : Boxed W xt 9 (.string t) := (hW.block xt bt.lt).trans bt
  have bb1 : Boxed W xb 22 (.slice b es2.length c2) := (hW.block xb bb.lt).trans bb
  have bs1 : Boxed W xs 9 (.string s) := (hW.block xs bs.lt).trans bs
  have ba1 : Boxed W xa 22 (.slice a es1.length c1) := (hW.block xa ba.lt).trans ba
  have cs1 := hS1.on hW
  have cs2 := hS2.on hW
  obtain ⟨b0, hb0⟩ : ∃ b, W.heap.size = b := ⟨_, rfl⟩
  obtain ⟨n1, hn1⟩ : ∃ n, es1.length = n := ⟨_, rfl⟩
  obtain ⟨n2, hn2⟩ : ∃ n, es2.length = n := ⟨_, rfl⟩
  have ct := (bt1.alloc (.cells #[.func (.yield l) #[] #[]] 101)).cell
  have cb := (bb1.alloc (.cells #[.func (.yield l) #[] #[]] 101)).cell
  obtain ⟨W1, hW1⟩ : ∃ V, ((W.alloc (.cells #[.func (.yield l) #[] #[]] 101)).alloc (.cells #[.string t] 9)).alloc (.cells #[.slice b n2 c2] 22) = V := ⟨_, rfl⟩
  have hs1 : W1.heap.size = b0 + 3 := by rw [← hW1, ← hb0]; simp
  have hB1 : Below W.heap.size W W1 := by rw [← hW1]; exact (((Below.refl _ _).alloc (Nat.le_refl _) _).alloc (by simp) _).alloc (by simp; omega) _
  have by1 : Boxed W1 b0 101 (.func (.yield l) #[] #[]) := by rw [← hW1, ← hb0]; exact ((Boxed.new _ _ _).alloc _).alloc _
  have bS : Boxed W1 (b0 + 1) 9 (.string t) := by
    rw [← hW1, ← hb0]
    have := Boxed.new (W.alloc (.cells #[.func (.yield l) #[] #[]] 101)) 9 (.string t)
    rw [World.size_alloc] at this; exact this.alloc _
  have bL : Boxed W1 (b0 + 2) 22 (.slice b n2 c2) := by
    rw [← hW1, ← hb0]
    have := Boxed.new ((W.alloc (.cells #[.func (.yield l) #[] #[]] 101)).alloc (.cells #[.string t] 9)) 22 (.slice b n2 c2)
    rw [World.size_alloc, World.size_alloc] at this; exact this
  rw [hn2] at cb
  have hG := part_giv t (b0 + 2) (b0 + 1) b c2 es2 W1 ht hv2 hf2 (by rw [hn2]; exact bL) bS (cs2.on hB1)
  have hTlt := hB 0 T₀ W h0
  have hJ1 := hO 0 T₀ W W1 h0 (Oth.of_below hB1)
  have hRb : ∀ k, T₀ k → k < W1.heap.size ∧ ¬ (k = b0 + 1 ∨ 0 < es2.length ∧ ∃ off, b = some ⟨k, off, none⟩) := fun k hk => by
    have h1 := hTlt k hk
    refine ⟨by omega, ?_⟩
    rintro (h | h)
    · omega
    · exact hR k (.inr (.inr (.inr h))) hk
  have HR := Lib.hid hR; have HB := Lib.hid hB; have HO := Lib.hid hO; have HY := Lib.hid hY; have HS1 := Lib.hid (cs1.on hB1); have HBS : Hid (Boxed W1 xs 9 (.string s)) := (hB1.block xs bs1.lt).trans bs1
  have HBA : Hid (Boxed W1 xa 22 (.slice a es1.length c1)) := (hB1.block xa ba1.lt).trans ba1
  have HBY := Lib.hid by1; have HG := Lib.hid hG
  have HN1 := Lib.hid hn1; have HN2 := Lib.hid hn2; have HF1 := Lib.hid hf1; have HF2 := Lib.hid hf2; have HV1 := Lib.hid hv1; have HV2 := Lib.hid hv2; have HJ1 := Lib.hid hJ1; have HW1 := Lib.hid hW1; have HB0 := Lib.hid hb0; have HRb := Lib.hid hRb; have HTL := Lib.hid hTlt
  obtain ⟨P1, hP1⟩ : ∃ P, prl s 0 0 es1 = P := ⟨_, rfl⟩
  obtain ⟨P2, hP2⟩ : ∃ P, prl t 0 0 es2 = P := ⟨_, rfl⟩
  have hl1 : P1.length = 2 * n1 + 1 := by rw [← hP1, prl_len, hn1]
  have hl2 : P2.length = 2 * n2 + 1 := by rw [← hP2, prl_len, hn2]
  have ok1 := fun k => prl_ok hs hv1 hf1 k
  have ok2 := fun k => prl_ok ht hv2 hf2 k
  rw [hP1] at ok1
  rw [hP2] at ok2
  obtain ⟨L, hL⟩ : ∃ L, kbl P1 P2 = L := ⟨_, rfl⟩
  have hLL : KB s t es1 es2 = L.filter (·.k) := by unfold KB; rw [hP1, hP2, hL]
  have hLlen : L.length = (2 * n2 + 1) * (2 * n1 + 1) := by rw [← hL, kbl_len, hl1, hl2]
  have hLat : ∀ i j, i < 2 * n2 + 1 → j < 2 * n1 + 1 → pg L (i * (2 * n1 + 1) + j) = comm (pg P1 j) (pg P2 i) := fun i j hi hj => by rw [← hL, ← hl1]; exact kbl_at (by omega) (by omega)
  rw [hLL] at HY ⊢
  have OK1 := Lib.hid ok1; have OK2 := Lib.hid ok2; have HP1 := Lib.hid hP1; have HP2 := Lib.hid hP2; have HLA := Lib.hid hLat; have HLN := Lib.hid hLlen
  clear hR hB hO hY cs1 cs2 bs1 ba1 bt1 bb1 bt bb bs ba hS1 hS2 hn1 hn2 hf1 hf2 hv1 hv2 h0 by1 bS bL hG hTlt hJ1 hRb hW1 hb0 hP1 hP2 ok1 ok2 hL hLL hLat hLlen
  refine callsIn_of_wp_marks Try.func64 rfl trivial ?_ rfl
  simp only [Try.ntmps64, List.size_toArray, List.length_cons, List.length_nil, Nat.reduceAdd, Nat.reduceSub, Array.replicate_succ, Array.replicate_zero, List.push_toArray, List.append_toArray, List.nil_append, List.cons_append]
  gi_wp2_with (first | (refine ⟨trivial, rfl, ?_⟩; gi_at_call 46; refine (callsIn_wide.2 (parts_any _ _ _ _ _)).mono ?_; rintro e w' ⟨rfl, rfl⟩))
  rw [HW1.out, HB0.out]
  have hmx : Try.prog.follows .mixedOrders = true := by kernel_rfl
  have hG := HG.out
  rw [HP2.out, HN2.out] at hG
  have hRb := HRb.out
  rw [HN2.out] at hRb
  have I0 : Rnd T₀ T₀ W1 W1 := Rnd.refl _ _
  refine wpIn_giv (gf := 67) (lb := #[.pointer (some ⟨b0 + 1 + 1, 0, none⟩), .pointer (some ⟨b0 + 1, 0, none⟩)]) rfl (enters_of Try.func67 (by kernel_rfl) rfl)
    hG (fun _ => rfl)
    (fun i T A => J (cnt L (i * (2 * n1 + 1))) T A ∧ Rnd T₀ T W1 A)
    (fun i T A C hi ho => ⟨HO.out _ _ _ _ hi.1 (ho.mono hB1.size (fun _ h => h)), ⟨Nat.le_trans hi.2.size ho.size, fun k hk hT => (ho.block k (by have := hi.2.size; omega) (.inl hk)).trans (hi.2.block k hk hT), hi.2.grew⟩⟩)
    (fun i T A hi => HB.out _ _ _ hi.1)
    T₀ hRb ⟨by rw [Nat.zero_mul, cnt_zero]; exact HJ1.out, I0⟩
    (fun k B => { tmps := #[.func (.yield l) #[] #[], .pointer (some ⟨xt, 0, none⟩), .pointer (some ⟨xb, 0, none⟩), .pointer (some ⟨xs, 0, none⟩), .pointer (some ⟨xa, 0, none⟩), .pointer (some ⟨b0, 0, none⟩), .pointer (some ⟨B, 0, none⟩), undef, undef, .string t, .slice b n2 c2,
      .func (.func 67) #[] #[.pointer (some ⟨b0 + 1 + 1, 0, none⟩), .pointer (some ⟨b0 + 1, 0, none⟩)], (pg P2 k).val, undef, undef, undef, undef, undef, undef, undef, undef, undef, undef, undef, undef, undef, undef, undef], defers := [] })
    (fun k => (pg P2 k).cells) 74 ?assign ?body ?done
  case assign =>
    intro l' k A K hK
    simp only [Pc.val, Pc.cells] at hK ⊢
    gi_wp2
    exact hK
  case body =>
    rintro l' i T B A hi hl hlB hBk hTB hl' hTl ⟨hJ, hRn⟩
    have hi2 : i < P2.length := by omega
    obtain ⟨p2, hp2⟩ : ∃ p, pg P2 i = p := ⟨_, rfl⟩
    have o2 := OK2.out i
    rw [hp2] at o2
    have hp2L : ∀ j, j < 2 * n1 + 1 → pg L (i * (2 * n1 + 1) + j) = comm (pg P1 j) p2 := fun j hj => by rw [← hp2]; exact HLA.out i j hi hj
    simp only [hp2] at hBk ⊢
    have hAs := hRn.size
    have hnT : ∀ k, (k = xs ∨ k = xa ∨ Rl a es1.length k ∨ Rl b es2.length k) → ¬ T₀ k := HR.out
    have hTz := HB.out _ _ _ hJ
    have kS : Boxed A xs 9 (.string s) := (hRn.block xs HBS.out.lt (hnT xs (.inl rfl))).trans HBS.out
    have kA : Boxed A xa 22 (.slice a es1.length c1) := (hRn.block xa HBA.out.lt (hnT xa (.inr (.inl rfl)))).trans HBA.out
    have hb0T : ¬ T₀ b0 := fun h => by have := HTL.out b0 h; have := HB0.out; omega
    have kY : Boxed A b0 101 (.func (.yield l) #[] #[]) := (hRn.block b0 HBY.out.lt hb0T).trans HBY.out
    have kE : ES A.heap.size A a c1 es1 := by
      obtain ⟨g1, g2, g3, g4⟩ := HS1.out
      refine ⟨g1, g2, g3, ?_⟩
      rcases g4 with h | ⟨b, off, e1, e2, e3⟩
      · exact .inl h
      · by_cases hz : es1.length = 0
        · exact .inl hz
        · refine .inr ⟨b, off, e1, by omega, fun j hj x hx => ?_⟩
          rw [← e3 j hj x hx]
          exact World.cell?_of_block (a := ⟨b, off + j * 3 + x, none⟩) (hRn.block b e2 (hnT b (.inr (.inr (.inl ⟨by omega, off, e1⟩)))))
    have c0 := kS.cell
    have c1' := kA.cell
    obtain ⟨A2, hA2⟩ : ∃ V, (A.alloc (.cells #[.string s] 9)).alloc (.cells #[.slice a n1 c1] 22) = V := ⟨_, rfl⟩
    have hs2 : A2.heap.size = A.heap.size + 2 := by rw [← hA2]; simp
    have hBA2 : Below A.heap.size A A2 := by rw [← hA2]; exact ((Below.refl _ _).alloc (Nat.le_refl _) _).alloc (by simp) _
    obtain ⟨g, hg⟩ : ∃ g, A.heap.size = g := ⟨_, rfl⟩
    have bS : Boxed A2 g 9 (.string s) := by rw [← hA2, ← hg]; exact (Boxed.new _ _ _).alloc _
    have bL : Boxed A2 (g + 1) 22 (.slice a n1 c1) := by
      rw [← hA2, ← hg]
      have := Boxed.new (A.alloc (.cells #[.string s] 9)) 22 (.slice a n1 c1)
      rw [World.size_alloc] at this; exact this
    rw [HN1.out] at c1'
    have hG1 := part_giv s (g + 1) g a c1 es1 A2 hs HV1.out HF1.out (by rw [HN1.out]; exact bL) bS (kE.on hBA2)
    rw [HP1.out, HN1.out] at hG1
    have hlA : l' < A.heap.size := by obtain ⟨r, hr⟩ := hl'; exact (Array.getElem?_eq_some_iff.1 hr).1
    have hl2' : ∃ r, A2.heap[l']? = some (.loop r) := by obtain ⟨r, hr⟩ := hl'; exact ⟨r, (hBA2.block l' hlA).trans hr⟩
    have hJ2 := HO.out _ _ _ _ hJ (Oth.of_below (hBA2.mono (by omega)) : Oth T W.heap.size A A2)
    have hT2 : ∀ k, T k → k < A2.heap.size ∧ ¬ (k = g ∨ 0 < n1 ∧ ∃ off, a = some ⟨k, off, none⟩) := fun k hk => by
      have h1 := hTz k hk
      refine ⟨by omega, ?_⟩
      rintro (h | ⟨h, off, ho⟩)
      · omega
      · rcases hRn.grew k hk with h2 | h2
        · exact hnT k (.inr (.inr (.inl ⟨by rw [HN1.out]; exact h, off, ho⟩))) h2
        · rcases HS1.out.cells with h3 | ⟨b', off', e1, e2, _⟩
          · have := HN1.out; omega
          · rw [ho] at e1; cases e1; omega
    have hbA2 : Blk A2 B 74 p2.cells := hBk.same (hBA2.block B hBk.lt)
    have HJ2 := Lib.hid hJ2; have HBK := Lib.hid hbA2; have HRN := Lib.hid hRn; have HA2 := Lib.hid hA2; have HGG := Lib.hid hg; have HG1 := Lib.hid hG1; have HL2 := Lib.hid hl2'; have HBA2 := Lib.hid hBA2
    have HKY : Hid (Boxed A2 b0 101 (.func (.yield l) #[] #[])) := (hBA2.block b0 kY.lt).trans kY
    have HP2L := Lib.hid hp2L; have HT2 := Lib.hid hT2; have HTZ := Lib.hid hTz; have HNB := Lib.hid hTB
    have hBlt := hBk.lt
    have zW : W.heap.size ≤ A2.heap.size := by have := hB1.size; omega
    clear hJ hJ2 hBk hRn hA2 hg hG1 hl2' hBA2 bS bL kS kA kY kE hp2 hp2L hT2 hTz hTB hTl hl' hnT
    gi_wp2_with (first | (refine ⟨trivial, rfl, ?_⟩; gi_at_call 46; refine (CallsIn.inRound l' (callsIn_wide.2 (parts_any _ _ _ _ _))).mono ?_; rintro e w' ⟨rfl, rfl⟩))
    rw [HA2.out, HGG.out]
    refine wpIn_givN HL2.out (gf := 67) (lb := #[.pointer (some ⟨g + 1, 0, none⟩), .pointer (some ⟨g, 0, none⟩)]) rfl (enters_of Try.func67 (by kernel_rfl) rfl)
      HG1.out (fun _ => rfl)
      (fun j T' A' => J (cnt L (i * (2 * n1 + 1) + j)) T' A' ∧ Rnd T T' A2 A')
      (fun j T' A' C hi ho => ⟨HO.out _ _ _ _ hi.1 (ho.mono (by omega) (fun _ h => h)), ⟨Nat.le_trans hi.2.size ho.size, fun k hk hT => (ho.block k (by have := hi.2.size; omega) (.inl hk)).trans (hi.2.block k hk hT), hi.2.grew⟩⟩)
      (fun j T' A' hi => HB.out _ _ _ hi.1)
      T HT2.out ⟨HJ2.out, Rnd.refl _ _⟩
      (fun k B' => { tmps := #[.func (.yield l) #[] #[], .pointer (some ⟨xt, 0, none⟩), .pointer (some ⟨xb, 0, none⟩), .pointer (some ⟨xs, 0, none⟩), .pointer (some ⟨xa, 0, none⟩), .pointer (some ⟨b0, 0, none⟩), .pointer (some ⟨B, 0, none⟩), .pointer (some ⟨B', 0, none⟩), undef, .string t, .slice b n2 c2,
        .func (.func 67) #[] #[.pointer (some ⟨b0 + 1 + 1, 0, none⟩), .pointer (some ⟨b0 + 1, 0, none⟩)], p2.val, .string s, .slice a n1 c1, .func (.func 67) #[] #[.pointer (some ⟨g + 1, 0, none⟩), .pointer (some ⟨g, 0, none⟩)], (pg P1 k).val, undef, undef, undef, undef, undef, undef, undef, undef, undef, undef, undef], defers := [] })
      (fun k => (pg P1 k).cells) 74 ?assign2 ?body2 ?done2
    case assign2 =>
      intro l2 k A' K hK
      simp only [Pc.val, Pc.cells] at hK ⊢
      gi_wp2
      exact hK
    case body2 =>
      rintro l2 j T' B' A' hj hl3 hlB3 hBk3 hTB3 hl3' hTl3 ⟨hJ3, hRn3⟩
      obtain ⟨p1, hp1⟩ : ∃ p, pg P1 j = p := ⟨_, rfl⟩
      have o1 := OK1.out j
      have hat := HP2L.out j hj
      rw [hp1] at o1 hat
      simp only [hp1] at hBk3 ⊢
      have hz3 := hRn3.size
      have kB : Blk A' B 74 p2.cells := HBK.out.same (hRn3.block B HBK.out.lt HNB.out)
      have kY : Boxed A' b0 101 (.func (.yield l) #[] #[]) := (hRn3.block b0 HKY.out.lt (fun h => (HRN.out.grew b0 h).elim hb0T (fun e => by omega))).trans HKY.out
      have CC := Lib.hid (common_any p1 p2 A' o1.1 o1.2.2.1 o1.2.2.2 o2.1 o2.2.1 o2.2.2.1)
      obtain ⟨R, hR⟩ : ∃ R, comm p1 p2 = R := ⟨_, rfl⟩
      rw [hR] at CC hat
      obtain ⟨f1, t1, q1, x1, k1⟩ := p1
      obtain ⟨f2, t2, q2, x2, k2⟩ := p2
      simp only [Pc.val, Pc.cells] at hBk3 kB CC ⊢
      obtain ⟨u0, u1, u2, u3, u4⟩ := cells5 hBk3
      obtain ⟨v0, v1, v2, v3, v4⟩ := cells5 kB
      have HJ3 := Lib.hid hJ3; have HRN3 := Lib.hid hRn3; have HKY3 := Lib.hid kY
      have hmm : i * (2 * n1 + 1) + j < L.length := by
        rw [HLN.out]
        have : (i + 1) * (2 * n1 + 1) ≤ (2 * n2 + 1) * (2 * n1 + 1) := Nat.mul_le_mul_right _ hi
        rw [Nat.succ_mul] at this
        omega
      have hcs := cnt_succ hmm
      have hcg := fun h => cnt_get hmm h
      rw [hat] at hcs hcg
      have HCS := Lib.hid hcs; have HCG := Lib.hid hcg
      clear hBk3 kB kY hJ3 hRn3 hat hR hp1 o1 o2 hTB3 hTl3 hl3' hcs hcg
      obtain ⟨rf, rt, rq, rx, rk⟩ := R
      have hzA : A'.heap.size ≤ A'.heap.size := Nat.le_refl _
      simp only at CC HCG HCS
      cases rk with
      | false =>
        gi_wp2_with (refine ⟨trivial, rfl, ?_⟩; gi_at_call 65; refine (CallsIn.inRound l2 (callsIn_wide.2 CC.out)).mono ?_; rintro e w5 ⟨rfl, hb5⟩)
        refine ⟨fun _ h => (by cases h), ?_⟩
        have hb6 : Below A'.heap.size A' (w5.alloc (.cells #[.int .i64 rf, .int .i64 rt, .int .i64 rq, .string rx, .bool false] 74)) := hb5.alloc hb5.size _
        have hJ6 := HO.out _ _ _ _ HJ3.out (Oth.of_below hb6 : Oth T' W.heap.size A' _)
        have hr6 : Rnd T' T' A' (w5.alloc (.cells #[.int .i64 rf, .int .i64 rt, .int .i64 rq, .string rx, .bool false] 74)) := Rnd.of_below hb6
        have hcs := HCS.out
        simp only [Bool.false_eq_true, if_false, Nat.add_zero] at hcs
        rw [← hcs] at hJ6
        have HF := Lib.hid (And.intro hJ6 hr6)
        clear hb6 hJ6 hr6 hcs hb5
        gi_wp2
        exact ⟨T', ⟨HF.out.1, HRN3.out.trans HF.out.2⟩, HF.out.2⟩
      | true =>
        obtain ⟨hc1, hc2⟩ := HCG.out rfl
        gi_wp2_with (refine ⟨trivial, rfl, ?_⟩; gi_at_call 65; refine (CallsIn.inRound l2 (callsIn_wide.2 CC.out)).mono ?_; rintro e w5 ⟨rfl, hb5⟩; have hb6 : Below A'.heap.size A' (w5.alloc (.cells #[.int .i64 rf, .int .i64 rt, .int .i64 rq, .string rx, .bool true] 74)) := hb5.alloc hb5.size _; have c9 := Boxed.cell (show Boxed _ b0 101 (.func (.yield l) #[] #[]) from (hb6.block b0 HKY3.out.lt).trans HKY3.out); have hJ6 := HO.out _ _ _ _ HJ3.out (Oth.of_below hb6 : Oth T' W.heap.size A' _); have hY1 := HY.out _ T' _ hc1 (by have := hb6.size; omega) hJ6; rw [hc2] at hY1; obtain ⟨fn, tm, asg, bo, hy, hR1⟩ := hY1; simp only [Pc.val] at hy; have HR1 := Lib.hid hR1; have HB6 := Lib.hid hb6; clear hR1 hb6 hJ6 hb5)
        refine ⟨rfl, HR1.out.mono ?_⟩
        rintro e w6 ⟨rfl, T6, hJ7, hr7⟩
        have hr8 : Rnd T' T6 A' w6 := (Rnd.of_below HB6.out).trans hr7
        have hcs := HCS.out
        simp only [if_true] at hcs
        rw [← hcs] at hJ7
        have HF := Lib.hid (And.intro hJ7 hr8)
        clear hJ7 hr7 hr8 hcs
        gi_wp2
        exact ⟨T6, ⟨HF.out.1, HRN3.out.trans HF.out.2⟩, HF.out.2⟩
    case done2 =>
      rintro T' A' hA' ⟨hJ3, hRn3⟩
      rw [show i * (2 * n1 + 1) + (2 * n1 + 1) = (i + 1) * (2 * n1 + 1) from (Nat.succ_mul i (2 * n1 + 1)).symm] at hJ3
      have HJ3 := Lib.hid hJ3; have HRN3 := Lib.hid hRn3
      clear hJ3 hRn3
      gi_wp2
      have hr : Rnd T T' A A' := (Rnd.of_below HBA2.out).trans HRN3.out
      exact ⟨T', ⟨HJ3.out, HRN.out.trans hr⟩, hr⟩
  case done =>
    rintro T A hA ⟨hJ, hRn⟩ hTw hK
    rw [cnt_all (by rw [HLN.out]; exact Nat.le_refl _)] at hJ
    have HJJ := Lib.hid hJ
    clear hJ
    gi_wp2
    refine ⟨by simp, .inl ⟨_, _, rfl, run_takeDeferred hK, ?_⟩⟩
    refine ⟨_, results_none rfl _ _ _, ⟨_, rfl⟩, T, HO.out _ _ _ _ HJJ.out (Oth.putObj _ hB1.size hTw)⟩

end Go.Proofs.Ytfhpllcdlejfjaa
