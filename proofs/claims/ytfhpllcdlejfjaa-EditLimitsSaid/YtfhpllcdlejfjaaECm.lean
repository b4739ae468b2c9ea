/- The mathematics of the program's Compose: the parts that both lists keep are the pieces of the composition. It has no conditions. -/
import Derived.Test.YtfhpllcdlejfjaaECk
namespace Go.Proofs.Ytfhpllcdlejfjaa
open Go.RowKit Go.Shelf
set_option linter.unusedVariables false

/-- What is kept of a part of the first list and of one of the second list. -/
def comm (p1 p2 : Pc) : Pc :=
  if p1.k = true ∧ p2.k = true ∧ max p1.q p2.f < min (p1.q + p1.x.size) p2.t then
    ⟨p1.f + (max p1.q p2.f - p1.q), p1.f + (max p1.q p2.f - p1.q) + min (p1.q + p1.x.size) p2.t - max p1.q p2.f, p2.q + max p1.q p2.f - p2.f,
      p1.x.extract (max p1.q p2.f - p1.q).toNat (max p1.q p2.f - p1.q + min (p1.q + p1.x.size) p2.t - max p1.q p2.f).toNat, true⟩
  else ⟨0, 0, 0, ⟨#[]⟩, false⟩
def seg (S : List Int) (p : Pc) : List (Int × Option Nat) := if p.k then pcs S p.f.toNat (p.t - p.f).toNat else (sb p.x).map fun c => (c, none)
/-- Parts that follow each other, from r on. -/
def Chn (s : ByteArray) : Nat → List Pc → Prop
  | _, [] => True
  | r, p :: P => p.q = r ∧ (p.k = true → ∃ f t : Nat, p.f = f ∧ p.t = t ∧ f ≤ t ∧ t ≤ s.size ∧ p.x = s.extract f t) ∧ Chn s (r + p.x.size) P
theorem cut_size {s : ByteArray} {f t : Nat} (h : f ≤ t) (ht : t ≤ s.size) : (s.extract f t).size = t - f := by rw [ByteArray.size_extract]; omega
theorem cut_cut (s : ByteArray) (f t a b : Nat) (h : f + b ≤ t) : (s.extract f t).extract a b = s.extract (f + a) (f + b) := by
  refine sb_inj ?_
  rw [sb_cut, sb_cut, sb_cut, List.drop_take, List.take_take, List.drop_drop]
  congr 1
  omega
theorem seg_len {s : ByteArray} {r : Nat} {p : Pc} {P : List Pc} (h : Chn s r (p :: P)) : (seg (sb s) p).length = p.x.size := by
  obtain ⟨h1, h2, h3⟩ := h
  unfold seg
  split
  · rename_i hk
    obtain ⟨f, t, e1, e2, e3, e4, e5⟩ := h2 hk
    rw [e1, e2, e5, cut_size e3 e4, Int.toNat_natCast, show ((t : Int) - (f : Int)).toNat = t - f by omega, pcs_len (by rw [sb_len]; omega)]
  · rw [List.length_map, sb_len]
/-- A place within a range. -/
def cl (lo hi r : Nat) : Nat := max lo (min r hi)
theorem kept_one {s : ByteArray} {p1 p2 : Pc} {r lo hi q2 : Nat} (h1 : p1.q = r) (h2 : p1.k = true → ∃ f t : Nat, p1.f = f ∧ p1.t = t ∧ f ≤ t ∧ t ≤ s.size ∧ p1.x = s.extract f t)
    (k2 : p2.k = true) (hf : p2.f = lo) (ht : p2.t = hi) (hq : p2.q = q2) (hlh : lo ≤ hi) :
    ∃ K : List Kp, [comm p1 p2].filter (·.k) = K.map (Kp.pc s) ∧ Dcm (sb s) (q2 + (cl lo hi r - lo)) (((seg (sb s) p1).drop (lo - r)).take (hi - cl lo hi r)) K := by
  by_cases hk : p1.k = true
  · obtain ⟨f, t, e1, e2, e3, e4, e5⟩ := h2 hk
    have hsz : p1.x.size = t - f := by rw [e5, cut_size e3 e4]
    have hseg : seg (sb s) p1 = pcs (sb s) f (t - f) := by
      unfold seg
      rw [if_pos hk, e1, e2, Int.toNat_natCast, show ((t : Int) - (f : Int)).toNat = t - f by omega]
    have hlen := pcs_len (S := sb s) (k := f) (m := t - f) (by rw [sb_len]; omega)
    unfold comm
    rw [h1, hf, ht, hq, hsz]
    by_cases hc : max r lo < min (r + (t - f)) hi
    · have hcl : cl lo hi r = max r lo := by unfold cl; omega
      refine ⟨[⟨f + (max r lo - r), min (r + (t - f)) hi - max r lo, q2 + (max r lo - lo)⟩], ?_, ?_⟩
      · rw [if_pos ⟨hk, k2, by omega⟩]
        simp only [List.filter_cons, List.filter_nil, if_true, List.map_cons, List.map_nil, Kp.pc]
        rw [e1, e5, show ((max (r : Int) (lo : Int)) - (r : Int)).toNat = max r lo - r by omega,
          show ((max (r : Int) (lo : Int)) - (r : Int) + min ((r : Int) + ((t - f : Nat) : Int)) (hi : Int) - max (r : Int) (lo : Int)).toNat = max r lo - r + (min (r + (t - f)) hi - max r lo) by omega, cut_cut _ _ _ _ _ (by omega)]
        congr 2
        · omega
        · omega
        · omega
        · congr 1
          omega
      · rw [hseg, hcl]
        refine ⟨[], [], ?_, (fun y hy => by simp at hy), ?_, ?_, ?_, (fun y hy => by simp at hy)⟩
        · simp only [List.nil_append, List.append_nil]
          refine List.ext_getElem? fun i => ?_
          rw [List.getElem?_take, List.getElem?_drop, pcs_at, pcs_at]
          by_cases hi1 : i < min (r + (t - f)) hi - max r lo
          · rw [if_pos (by omega), if_pos (by omega), if_pos hi1, show f + (lo - r + i) = f + (max r lo - r) + i by omega]
          · rw [if_neg hi1]
            by_cases hi2 : i < hi - max r lo
            · rw [if_pos hi2, if_neg (by omega)]
            · rw [if_neg hi2]
        · simp
        · simp only; omega
        · simp only [sb_len]; omega
    · refine ⟨[], ?_, ?_⟩
      · rw [if_neg (by omega)]
        rfl
      · rw [hseg]
        have hz : (((pcs (sb s) f (t - f)).drop (lo - r)).take (hi - cl lo hi r)).length = 0 := by
          rw [List.length_take, List.length_drop, hlen]
          unfold cl
          omega
        rw [List.eq_nil_of_length_eq_zero hz]
        intro y hy
        simp at hy
  · refine ⟨[], ?_, ?_⟩
    · unfold comm
      rw [if_neg (fun h => hk h.1)]
      rfl
    · have : seg (sb s) p1 = (sb p1.x).map fun c => (c, none) := by unfold seg; rw [if_neg hk]
      rw [this]
      exact (all_new _).slice _ _
/-- Of all parts of the first list, what one part of the second list keeps. -/
theorem kept_in {s : ByteArray} {p2 : Pc} {lo hi q2 : Nat} (k2 : p2.k = true) (hf : p2.f = lo) (ht : p2.t = hi) (hq : p2.q = q2) (hlh : lo ≤ hi) : ∀ {P : List Pc} {r : Nat}, Chn s r P →
    ∃ K : List Kp, (P.map fun p1 => comm p1 p2).filter (·.k) = K.map (Kp.pc s) ∧ Dcm (sb s) (q2 + (cl lo hi r - lo)) (((P.flatMap (seg (sb s))).drop (lo - r)).take (hi - cl lo hi r)) K := by
  intro P
  induction P with
  | nil => intro r _; exact ⟨[], rfl, by simp; intro y hy; simp at hy⟩
  | cons p P ih =>
    intro r h
    have hl := seg_len h
    obtain ⟨h1, h2, h3⟩ := h
    obtain ⟨K1, a1, a2⟩ := kept_one h1 h2 k2 hf ht hq hlh
    obtain ⟨K2, b1, b2⟩ := ih h3
    refine ⟨K1 ++ K2, ?_, ?_⟩
    · rw [List.map_cons, ← List.singleton_append, List.filter_append, a1, b1, List.map_append]
    · rw [List.flatMap_cons, List.drop_append, List.take_append, hl]
      refine a2.append ?_
      rw [List.length_take, List.length_drop, hl]
      have e1 : q2 + (cl lo hi r - lo) + min (hi - cl lo hi r) (p.x.size - (lo - r)) = q2 + (cl lo hi (r + p.x.size) - lo) := by unfold cl; omega
      have e2 : lo - r - p.x.size = lo - (r + p.x.size) := by omega
      have e3 : hi - cl lo hi r - (p.x.size - (lo - r)) = hi - cl lo hi (r + p.x.size) := by unfold cl; omega
      rw [e1, e2, e3]
      exact b2

theorem thru_slice {z1 : List (Int × Option Nat)} {T : List Int} (hz : z1.map Prod.fst = T) (lo m : Nat) : thru z1 (pcs T lo m) = (z1.drop lo).take m := by
  refine List.ext_getElem? fun i => ?_
  unfold thru
  rw [List.getElem?_map, pcs_at, List.getElem?_take]
  split
  · rw [List.getElem?_drop, ← hz, List.getElem?_map]
    cases h : z1[lo + i]? with
    | none => rfl
    | some y => simp [h]
  · rfl
/-- All that both lists keep, in the order of the second one's parts. -/
def kbl (P1 P2 : List Pc) : List Pc := P2.flatMap fun p2 => P1.map fun p1 => comm p1 p2
theorem kept_all {s t : ByteArray} {P1 : List Pc} (h1 : Chn s 0 P1) (hz : (P1.flatMap (seg (sb s))).map Prod.fst = sb t) : ∀ {P2 : List Pc} {q : Nat}, Chn t q P2 →
    ∃ K : List Kp, (kbl P1 P2).filter (·.k) = K.map (Kp.pc s) ∧ Dcm (sb s) q (thru (P1.flatMap (seg (sb s))) (P2.flatMap (seg (sb t)))) K := by
  intro P2
  induction P2 with
  | nil => intro q _; exact ⟨[], rfl, fun y hy => by simp [thru] at hy⟩
  | cons p P ih =>
    intro q h
    have hl := seg_len h
    obtain ⟨g1, g2, g3⟩ := h
    obtain ⟨K2, b1, b2⟩ := ih g3
    have hfil : (kbl P1 (p :: P)).filter (·.k) = (P1.map fun p1 => comm p1 p).filter (·.k) ++ (kbl P1 P).filter (·.k) := by
      unfold kbl
      rw [List.flatMap_cons, List.filter_append]
    have hthr : thru (P1.flatMap (seg (sb s))) ((p :: P).flatMap (seg (sb t))) = thru (P1.flatMap (seg (sb s))) (seg (sb t) p) ++ thru (P1.flatMap (seg (sb s))) (P.flatMap (seg (sb t))) := by
      rw [List.flatMap_cons, thru_append]
    have hln : (thru (P1.flatMap (seg (sb s))) (seg (sb t) p)).length = p.x.size := by unfold thru; rw [List.length_map, hl]
    rw [hfil, hthr, b1]
    suffices hk : ∃ K1 : List Kp, (P1.map fun p1 => comm p1 p).filter (·.k) = K1.map (Kp.pc s) ∧ Dcm (sb s) q (thru (P1.flatMap (seg (sb s))) (seg (sb t) p)) K1 by
      obtain ⟨K1, a1, a2⟩ := hk
      exact ⟨K1 ++ K2, by rw [a1, List.map_append], a2.append (by rw [hln]; exact b2)⟩
    by_cases hk : p.k = true
    · obtain ⟨f, e, e1, e2, e3, e4, e5⟩ := g2 hk
      obtain ⟨K1, a1, a2⟩ := kept_in (s := s) hk e1 e2 g1 e3 h1
      refine ⟨K1, a1, ?_⟩
      have hs : seg (sb t) p = pcs (sb t) f (e - f) := by unfold seg; rw [if_pos hk, e1, e2, Int.toNat_natCast, show ((e : Int) - (f : Int)).toNat = e - f by omega]
      rw [hs, thru_slice hz]
      have c1 : cl f e 0 = f := by unfold cl; omega
      rw [c1, Nat.sub_self, Nat.add_zero, Nat.sub_zero] at a2
      exact a2
    · refine ⟨[], ?_, ?_⟩
      · rw [List.map_nil, List.filter_eq_nil_iff]
        intro c hc
        obtain ⟨p1, _, rfl⟩ := List.mem_map.1 hc
        unfold comm
        rw [if_neg (fun h => hk h.2.1)]
        decide
      · have hs : seg (sb t) p = (sb p.x).map fun c => (c, none) := by unfold seg; rw [if_neg hk]
        rw [hs, thru_none]
        exact all_new _
/-- The parts of a new text are its bytes with their sources, and follow each other. -/
theorem prl_seg {s : ByteArray} : ∀ {es : List Er} {f q : Nat}, Vld s.size f (ees es) → (∀ e ∈ es, 0 ≤ e.f ∧ e.f ≤ e.t ∧ e.t ≤ (s.size : Int)) →
    (prl s f q es).flatMap (seg (sb s)) = srcl (sb s) f (ees es) ∧ Chn s q (prl s f q es) := by
  intro es
  induction es with
  | nil =>
    intro f q h _
    have hf : f ≤ s.size := h
    refine ⟨?_, rfl, (fun _ => ⟨f, s.size, rfl, rfl, hf, Nat.le_refl _, rfl⟩), trivial⟩
    simp only [prl, List.flatMap_cons, List.flatMap_nil, List.append_nil, seg, if_true, ees, List.map_nil, srcl]
    rw [Int.toNat_natCast, show ((s.size : Int) - (f : Int)).toNat = s.size - f by omega]
    unfold pcs
    rw [List.take_of_length_le (by rw [List.length_drop, sb_len]; exact Nat.le_refl _)]
  | cons e es ih =>
    intro f q h hok
    obtain ⟨o1, o2, o3⟩ := hok e (by simp)
    obtain ⟨v1, v2, v3, v4⟩ := h
    simp only [Er.ee] at v1 v2 v3 v4
    obtain ⟨i1, i2⟩ := ih (f := e.t.toNat) (q := q + (e.f.toNat - f) + e.x.size) v4 (fun x hx => hok x (by simp [hx]))
    have hsz : (s.extract f e.f.toNat).size = e.f.toNat - f := cut_size v1 (by omega)
    refine ⟨?_, ?_⟩
    · simp only [prl, List.flatMap_cons, i1, ees_cons, srcl, Er.ee, seg, if_true]
      rw [Int.toNat_natCast, show (e.f - (f : Int)).toNat = e.f.toNat - f by omega]
      rfl
    · simp only [prl]
      refine ⟨rfl, (fun _ => ⟨f, e.f.toNat, rfl, by show e.f = ((e.f.toNat : Nat) : Int); omega, v1, by omega, rfl⟩), ?_, (fun h => by cases h), ?_⟩
      · rw [hsz]; simp only; omega
      · rw [hsz]; exact i2
/-- The pieces that both lists keep, and the edits around them: the composition. -/
theorem kept_comp {s t u : ByteArray} {a b : List Er} (ha : vErr (s.size : Int) a = 0) (hb : vErr (t.size : Int) b = 0) (ht : sb t = appl (sb s) 0 (ees a)) (hu : sb u = appl (sb t) 0 (ees b)) :
    ∃ K : List Kp, (kbl (prl s 0 0 a) (prl t 0 0 b)).filter (·.k) = K.map (Kp.pc s) ∧ Ordk s.size u.size 0 0 K ∧ ees (arl s u 0 0 K) = cmpl (sb s) (ees a) (ees b) := by
  obtain ⟨_, va, oa⟩ := vErr_ok ha
  obtain ⟨_, vb, ob⟩ := vErr_ok hb
  obtain ⟨s1, c1⟩ := prl_seg (q := 0) va oa
  obtain ⟨s2, c2⟩ := prl_seg (q := 0) vb ob
  obtain ⟨K, k1, k2⟩ := kept_all c1 (by rw [s1, srcl_fst, ht]) c2
  rw [s1, s2] at k2
  have va' : Vld (sb s).length 0 (ees a) := by rw [sb_len]; exact va
  have vb' : Vld (sb t).length 0 (ees b) := by rw [sb_len]; exact vb
  have hsrc := thru_src (srcl_src va') (by rw [srcl_fst, ← ht] : _ = sb t) (srcl_src vb')
  have hfst : (thru (srcl (sb s) 0 (ees a)) (srcl (sb t) 0 (ees b))).map Prod.fst = sb u := by rw [thru_fst, srcl_fst, hu]
  have hlen : (thru (srcl (sb s) 0 (ees a)) (srcl (sb t) 0 (ees b))).length = u.size := by rw [← sb_len, ← hfst, List.length_map]
  have ho := dcm_ord hsrc k2 (by rw [Nat.zero_add, hlen])
  rw [sb_len] at ho
  refine ⟨K, k1, ho, ?_⟩
  rw [arl_canon (by rw [hfst, List.drop_zero]) k2 ho]
  unfold cmpl norml
  rw [joinl_of_sep (canon_sep (x := []) (by rw [← ht]; exact hsrc)), sb_len, ht]

end Go.Proofs.Ytfhpllcdlejfjaa
