/- The program's clone of a node. Conditions: trees of at most 100000 nodes. -/
import Derived.Test.YtfecajeenmnoeaaSCl
import Derived.Deep.RegionLaw
namespace Go.Proofs.Ytfecajeenmnoeaa
open Go.RowKit Go.Shelf
set_option linter.unusedVariables false

/-- What the loop over the kids keeps: the node in block q, the result behind it. -/
structure CLs (d : Nat) (w : World) (q : Nat) (id kd : Int) (tx : ByteArray) (ks : List Nd) (uo : List (Option Addr × Nat × Nat)) (av : Option Addr) (c n i : Nat) (us : List (Option Addr × Nat × Nat)) (W : World) : Prop where
  len : us.length = ks.length
  old : ∀ k, i ≤ k → us[k]? = uo[k]?
  own : W.ownsRow (q + 2) 25 4 (.slice av n c) n (kcs ks us)
  new : ∀ g, av = some ⟨g, 0, none⟩ → KL (KI d W) (g + 1) W.heap.size (ks.take i) (us.take i)
  kq : Blk W q 25 #[.int .i64 id, .int .i64 kd, .string tx, .slice av n c]
  kr : Blk W (q + 1) 25 #[.int .i64 0, .int .i64 0, .string ⟨#[]⟩, .slice none 0 0]
  o : Below q w W
theorem KL.keepI (d : Nat) {w w' : World} {hi : Nat} : ∀ (l : List Nd) (us : List (Option Addr × Nat × Nat)) (lo : Nat), KL (KI d w) lo hi l us → (∀ b, lo ≤ b → b < hi → w'.heap[b]? = w.heap[b]?) → KL (KI d w') lo hi l us
  | [], us, lo, h, _ => h
  | _ :: _, [], lo, h, _ => h.elim
  | x :: l, v :: us, lo, h, hb => by
    obtain ⟨m, k1, k2⟩ := h
    have l1 := KI.le d k1
    have l2 := KL.le (fun lo mid a n c ks h => KI.le d h) _ _ _ _ k2
    exact ⟨m, KI.keep d k1 (fun b h1 h2 => hb b h1 (by omega)), KL.keepI d l us m k2 (fun b h1 h2 => hb b (by omega) h2)⟩
theorem set4 (W : World) (g o : Nat) (v0 v1 v2 v3 : Value) : (∀ b, b ≠ g → ((((W.setCell ⟨g, o, none⟩ v0).setCell ⟨g, o + 1, none⟩ v1).setCell ⟨g, o + 2, none⟩ v2).setCell ⟨g, o + 3, none⟩ v3).heap[b]? = W.heap[b]?) ∧ ((((W.setCell ⟨g, o, none⟩ v0).setCell ⟨g, o + 1, none⟩ v1).setCell ⟨g, o + 2, none⟩ v2).setCell ⟨g, o + 3, none⟩ v3).heap.size = W.heap.size :=
  ⟨fun b hb => (((Below.heap_setCell _ ⟨g, o + 3, none⟩ _ b hb).trans (Below.heap_setCell _ ⟨g, o + 2, none⟩ _ b hb)).trans (Below.heap_setCell _ ⟨g, o + 1, none⟩ _ b hb)).trans (Below.heap_setCell _ ⟨g, o, none⟩ _ b hb), by simp [World.setCell]⟩
theorem CLs.step {d : Nat} {w : World} {q : Nat} {id kd : Int} {tx : ByteArray} {ks : List Nd} {uo us : List (Option Addr × Nat × Nat)} {g c n i : Nat} {W w6 : World} {x : Nd} {a' : Option Addr} {n' c' lo : Nat} (h : CLs d w q id kd tx ks uo (some ⟨g, 0, none⟩) c n i us W) (hkl : ks.length = n) (hx : ks[i]? = some x)
    (b5 : Below W.heap.size W w6) (hki : KI d w6 lo w6.heap.size a' n' c' x.kids) (hlo : W.heap.size ≤ lo) :
    CLs d w q id kd tx ks uo (some ⟨g, 0, none⟩) c n i us w6 ∧
    CLs d w q id kd tx ks uo (some ⟨g, 0, none⟩) c n (i + 1) (us.set i (a', n', c')) ((((w6.setCell ⟨g, i * 4, none⟩ (.int .i64 x.id)).setCell ⟨g, i * 4 + 1, none⟩ (.int .i64 x.kind)).setCell ⟨g, i * 4 + 2, none⟩ (.string x.text)).setCell ⟨g, i * 4 + 3, none⟩ (.slice a' n' c')) := by
  have hgl := h.own.lt g rfl
  have hz := b5.size
  have hik : i < ks.length := (List.getElem?_eq_some_iff.1 hx).1
  have hiu : i < us.length := by rw [h.len]; exact hik
  have hw6 : CLs d w q id kd tx ks uo (some ⟨g, 0, none⟩) c n i us w6 :=
    ⟨h.len, h.old, own_same h.own (fun b hb => b5.block b (by cases hb; exact hgl.2)), fun g' hg' => by
      cases hg'
      exact KL.hi _ _ _ _ _ hz (KL.keepI d _ _ _ (h.new g rfl) (fun b h1 h2 => b5.block b h2)), h.kq.same (b5.block q h.kq.lt), h.kr.same (b5.block _ h.kr.lt), h.o.trans (b5.mono (by omega))⟩
  refine ⟨hw6, ?_⟩
  obtain ⟨hb, hs⟩ := set4 w6 g (i * 4) (.int .i64 x.id) (.int .i64 x.kind) (.string x.text) (.slice a' n' c')
  refine ⟨by rw [List.length_set]; exact h.len, fun k hk => ?_, ?_, fun g' hg' => ?_, ?_, ?_, ?_⟩
  · rw [List.getElem?_set_ne (by omega)]; exact h.old k (by omega)
  · have h1 := ((((hw6.own.stored (i * 4) (.int .i64 x.id)).1.stored (i * 4 + 1) (.int .i64 x.kind)).1.stored (i * 4 + 2) (.string x.text)).1.stored (i * 4 + 3) (.slice a' n' c')).1
    rw [kcs_set ks us i x (a', n', c') hx hiu] at h1
    exact h1
  · cases hg'
    rw [hs]
    have ht : (us.set i (a', n', c')).take (i + 1) = us.take i ++ [(a', n', c')] := by
      rw [List.take_succ_eq_append_getElem (by rw [List.length_set]; exact hiu), List.getElem_set_self, List.take_set_of_le (Nat.le_refl _)]
    have hk : ks.take (i + 1) = ks.take i ++ [x] := by
      rw [List.take_succ_eq_append_getElem hik]
      congr 1
      rw [(List.getElem?_eq_some_iff.1 hx).2]
    rw [ht, hk]
    refine KL.snoc (mid := W.heap.size) (t := x) (u := (a', n', c')) ?_ hz _ _ _ ?_ (fun lo mid' a n c ks _ h1 h2 => KI.lo d h1 h2)
    · exact KI.lo d (KI.keep d hki (fun b h1 _ => hb b (by omega))) hlo
    · exact KL.keepI d _ _ _ (h.new g rfl) (fun b h1 h2 => (hb b (by omega)).trans (b5.block b h2))
  · exact hw6.kq.same (hb q (by omega))
  · exact hw6.kr.same (hb (q + 1) (by omega))
  · exact (((hw6.o.setCell (p := ⟨g, i * 4, none⟩) (by show q ≤ g; omega) _).setCell (p := ⟨g, i * 4 + 1, none⟩) (by show q ≤ g; omega) _).setCell (p := ⟨g, i * 4 + 2, none⟩) (by show q ≤ g; omega) _).setCell (p := ⟨g, i * 4 + 3, none⟩) (by show q ≤ g; omega) _
/-- A call hands back a node of its own. -/
def ClP (d : Nat) (id kd : Int) (tx : ByteArray) (ks : List Nd) (n : Nat) (w : World) (e : Ending) (w' : World) : Prop :=
  ∃ (a : Option Addr) (c : Nat), e = .returned (.agg #[.int .i64 id, .int .i64 kd, .string tx, .slice a n c]) ∧ KI d w' w.heap.size w'.heap.size a n c ks ∧ Below w.heap.size w w'

theorem CLs.fin {d : Nat} {w : World} {q : Nat} {id kd : Int} {tx : ByteArray} {ks : List Nd} {uo us : List (Option Addr × Nat × Nat)} {av : Option Addr} {c n : Nat} {W : World} (h : CLs d w q id kd tx ks uo av c n n us W) (hq : w.heap.size = q) (hkl : ks.length = n) :
    Blk ((((W.setCell ⟨q + 1, 0, none⟩ (.int .i64 id)).setCell ⟨q + 1, 1, none⟩ (.int .i64 kd)).setCell ⟨q + 1, 2, none⟩ (.string tx)).setCell ⟨q + 1, 3, none⟩ (.slice av n c)) (q + 1) 25 #[.int .i64 id, .int .i64 kd, .string tx, .slice av n c] ∧
    ClP (d + 1) id kd tx ks n w (.returned (.agg #[.int .i64 id, .int .i64 kd, .string tx, .slice av n c])) ((((W.setCell ⟨q + 1, 0, none⟩ (.int .i64 id)).setCell ⟨q + 1, 1, none⟩ (.int .i64 kd)).setCell ⟨q + 1, 2, none⟩ (.string tx)).setCell ⟨q + 1, 3, none⟩ (.slice av n c)) := by
  obtain ⟨hb, hs⟩ := set4 W (q + 1) 0 (.int .i64 id) (.int .i64 kd) (.string tx) (.slice av n c)
  simp only [Nat.zero_add] at hb hs
  have ho : Below q w ((((W.setCell ⟨q + 1, 0, none⟩ (.int .i64 id)).setCell ⟨q + 1, 1, none⟩ (.int .i64 kd)).setCell ⟨q + 1, 2, none⟩ (.string tx)).setCell ⟨q + 1, 3, none⟩ (.slice av n c)) :=
    (((h.o.setCell (p := ⟨q + 1, 0, none⟩) (by show q ≤ q + 1; omega) _).setCell (p := ⟨q + 1, 1, none⟩) (by show q ≤ q + 1; omega) _).setCell (p := ⟨q + 1, 2, none⟩) (by show q ≤ q + 1; omega) _).setCell (p := ⟨q + 1, 3, none⟩) (by show q ≤ q + 1; omega) _
  refine ⟨by simpa using (((h.kr.set 0 (.int .i64 id)).set 1 (.int .i64 kd)).set 2 (.string tx)).set 3 (.slice av n c), av, c, rfl, ?_, by rw [hq]; exact ho⟩
  rw [hq, hs]
  have hkq := h.kq.lt
  by_cases h0 : n = 0
  · refine .inl ⟨List.eq_nil_of_length_eq_zero (by omega), h0, by omega, ?_⟩
    rcases h.own.2 with ⟨e, _⟩ | ⟨g, c', cur, e, _, _, _, e5, _⟩
    · simp only [Value.slice.injEq] at e
      exact ⟨fun _ => e.2.2, by omega⟩
    · simp only [Value.slice.injEq] at e
      exact ⟨(fun ea => by rw [e.1] at ea; cases ea), by unfold maxLen at e5; omega⟩
  · rcases h.own.2 with ⟨_, e⟩ | ⟨g, c', cur, e, _⟩
    · exact absurd e h0
    · simp only [Value.slice.injEq] at e
      obtain ⟨rfl, _, rfl⟩ := e
      have hgl := h.own.lt g rfl
      subst hkl
      refine .inr ⟨g, us, h.len, rfl, rfl, own_same (own_base2 h.own (by omega)) (fun b hb' => by cases hb'; exact hb g (by omega)), fun e => h0 (by rw [e]; rfl), ?_⟩
      have := h.new g rfl
      rw [List.take_length, ← h.len, List.take_length] at this
      exact KL.keepI d _ _ _ this (fun b h1 _ => hb b (by omega))
set_option maxRecDepth 100000 in
set_option maxHeartbeats 4000000 in
theorem clone_any : ∀ (d : Nat) (t : Nd) (a : Option Addr) (n cap : Nat) (w : World) (G : Nat → Prop), t.dep ≤ d → KV G w a n cap t.kids → t.cnt ≤ 100000 →
    Calls Try.prog 54 #[ndv t a n cap] w (ClP d t.id t.kind t.text t.kids n w)
  | 0, t, a, n, cap, w, G, hd, hK, hc => by have := t.dep_eq; omega
  | d + 1, t, a, n, cap, w, G, hd, hK, hc => by
    obtain ⟨hkl, hnc, hcm⟩ := hK.len
    obtain ⟨uo, huo, hsub, hrow⟩ := hK.row
    obtain ⟨q, hq⟩ : ∃ q, w.heap.size = q := ⟨_, rfl⟩
    obtain ⟨W2, hW2⟩ : ∃ W, (w.alloc (.cells (ndc t a n cap) 25)).alloc (.cells #[.int .i64 0, .int .i64 0, .string ⟨#[]⟩, .slice none 0 0] 25) = W := ⟨_, rfl⟩
    have b2 : Below q w W2 := by rw [← hW2, ← hq]; exact ((Below.refl _ _).alloc (Nat.le_refl _) _).alloc (by simp) _
    have k1 : Blk W2 q 25 (ndc t a n cap) := by rw [← hW2, ← hq]; exact (Blk.new _ _ _).alloc _
    have k2 : Blk W2 (q + 1) 25 #[.int .i64 0, .int .i64 0, .string ⟨#[]⟩, .slice none 0 0] := by
      rw [← hW2, ← hq]
      have := Blk.new (w.alloc (.cells (ndc t a n cap) 25)) 25 #[.int .i64 0, .int .i64 0, .string ⟨#[]⟩, .slice none 0 0]
      rw [World.size_alloc] at this
      exact this
    have s2 : W2.heap.size = q + 2 := by rw [← hW2, ← hq]; simp
    have hkn := t.kids_len
    have hrow2 : ∀ ad, a = some ad → ∀ j u, (kcs t.kids uo)[j]? = some u → W2.cell? (ad.add j) = some u := fun ad h j u hj => by
      have h1 := hrow ad h j u hj
      have hlt := World.block_lt_of_cell? w _ h1
      exact (World.cell?_of_block (w := w) (a := ad.add j) (b2.block _ (by rw [hq] at hlt; exact hlt))).trans h1
    have HC := Lib.hid (cloneNode_any a n cap (kcs t.kids uo) W2 (by omega) hnc hcm (by rw [kcs_len _ _ huo, hkl]) (kcs_one _ _) (fun h => (hK.nil_ h).1) hrow2)
    have HREC : Hid (∀ (x : Nd) (a' : Option Addr) (n' c' : Nat) (W : World), x ∈ t.kids → KV G W a' n' c' x.kids → Calls Try.prog 54 #[ndv x a' n' c'] W (ClP d x.id x.kind x.text x.kids n' W)) := fun x a' n' c' W hx hk => clone_any d x a' n' c' W G (by have := t.kid_dep hx; omega) hk (by have := t.kid_cnt hx; omega)
    obtain ⟨id, hid⟩ : ∃ x, t.id = x := ⟨_, rfl⟩
    obtain ⟨kd, hkd⟩ : ∃ x, t.kind = x := ⟨_, rfl⟩
    obtain ⟨tx, htx⟩ : ∃ x, t.text = x := ⟨_, rfl⟩
    obtain ⟨ks, hks⟩ : ∃ x, t.kids = x := ⟨_, rfl⟩
    unfold ndv ndc at *
    rw [hid, hkd, htx] at hW2 k1
    rw [hid, hkd, htx, hks]
    rw [hks] at HC HREC hkl huo hsub hkn
    have c3 := k1.cell 3
    have f3 := k1.frozen 3
    simp only [List.getElem?_toArray, List.getElem?_cons_zero, List.getElem?_cons_succ] at c3
    have HW2 := Lib.hid hW2; have HQ := Lib.hid hq; have HK1 := Lib.hid k1; have HK2 := Lib.hid k2; have HB2 := Lib.hid b2; have HS2 := Lib.hid s2; have HKL := Lib.hid hkl; have HUO := Lib.hid huo; have HSUB := Lib.hid hsub
    have hn5 : n ≤ 100000 := by omega
    clear hK hd hc hkl huo hsub hrow hrow2 hW2 b2 k1 k2 s2 hkn hid hkd htx hks hq
    go_enter Try.func54, Try.ntmps54
    go_wp2_with fail
    rw [HW2.out, HQ.out]
    go_wp2_with fail
    refine HC.out.mono ?_
    rintro e w3 ⟨v, rfl, hown, b3⟩
    obtain ⟨av, c, rfl⟩ := own_slice hown
    have k3 := HK1.out.same (b3.block q HK1.out.lt)
    have k4 := HK2.out.same (b3.block (q + 1) HK2.out.lt)
    have d3 := k3.cell 3
    have g3 := k3.frozen 3
    simp only [List.getElem?_toArray, List.getElem?_cons_zero, List.getElem?_cons_succ] at d3
    obtain ⟨W4, hW4⟩ : ∃ W, w3.setCell ⟨q, 3, none⟩ (.slice av n c) = W := ⟨_, rfl⟩
    have hs4 : Hid (CLs d w q id kd tx ks uo av c n 0 uo W4) := by
      rw [HS2.out] at hown b3
      refine ⟨HUO.out, fun _ _ => rfl, ?_, fun g hg => ?_, ?_, ?_, ?_⟩
      · rw [← hW4]
        exact own_same hown (fun g hg => Below.heap_setCell w3 ⟨q, 3, none⟩ _ g (by have := (hown.lt g hg).1; show g ≠ q; omega))
      · subst hg
        rw [List.take_zero, List.take_zero]
        have := (hown.lt g rfl).2
        refine ⟨rfl, ?_⟩
        rw [← hW4]; simp [World.setCell]; omega
      · rw [← hW4]; simpa using k3.set 3 (.slice av n c)
      · rw [← hW4]; exact k4.same (Below.heap_setCell w3 ⟨q, 3, none⟩ _ (q + 1) (by show q + 1 ≠ q; omega))
      · rw [← hW4]
        exact (HB2.out.trans (b3.mono (by omega))).setCell (p := ⟨q, 3, none⟩) (Nat.le_refl _) _
    have e3 := hs4.out.kq.cell 3
    simp only [List.getElem?_toArray, List.getElem?_cons_zero, List.getElem?_cons_succ] at e3
    rw [← hW4] at e3
    have HW4 := Lib.hid hW4
    clear hown b3 k3 k4 hW4 c3 f3
    go_wp2_with fail
    rw [HW4.out]
    go_loopw [12] (fun g wr => ∃ (i : Nat) (us : List (Option Addr × Nat × Nat)), g = .int .i64 (i : Int) ∧ i ≤ n ∧ Hid (CLs d w q id kd tx ks uo av c n i us wr)) (fun g _ => n - (intOf g).toNat)
    case atStart => exact ⟨0, uo, rfl, by omega, hs4⟩
    case round =>
      obtain ⟨i, us, rfl, hi, HC4⟩ := hrel
      by_cases hin : i < n
      · have hin2 : (i : Int) < (n : Int) := by omega
        have m1 : IntKind.i64.wrap ((i : Int) + 1) = (i : Int) + 1 := by simp [IntKind.wrap, IntKind.signed, IntKind.bits]; omega
        obtain ⟨m', hm'⟩ : ∃ m', n = m' + 1 := ⟨n - 1, by omega⟩
        obtain ⟨g, rfl⟩ : ∃ g, av = some ⟨g, 0, none⟩ := by
          have h1 := HC4.out.own
          rw [hm'] at h1
          obtain ⟨g, cp, h2⟩ := ownsRow_succ h1
          simp only [Value.slice.injEq] at h2
          exact ⟨g, h2.1⟩
        have hik : i < ks.length := by rw [HKL.out]; exact hin
        obtain ⟨x, hx⟩ : ∃ x, ks[i]? = some x := ⟨_, List.getElem?_eq_getElem hik⟩
        obtain ⟨⟨a', n', c'⟩, hu⟩ : ∃ u, uo[i]? = some u := ⟨_, List.getElem?_eq_getElem (by rw [HUO.out]; exact hik)⟩
        have hu2 := (HC4.out.old i (Nat.le_refl _)).trans hu
        have hxm : x ∈ ks := List.mem_of_getElem? hx
        have hkv := (HSUB.out i x _ hx hu)
        obtain ⟨g0, g1, g2, g3'⟩ := kcs_get ks us i x _ hx hu2
        have y0 := HC4.out.own.cellAt (i * 4) (by omega)
        have y1 := HC4.out.own.cellAt (i * 4 + 1) (by omega)
        have y2 := HC4.out.own.cellAt (i * 4 + 2) (by omega)
        have y3 := HC4.out.own.cellAt (i * 4 + 3) (by omega)
        rw [g0] at y0; rw [g1] at y1; rw [g2] at y2; rw [g3'] at y3
        obtain ⟨W5, hW5⟩ : ∃ W, wr.alloc (.cells (ndc x a' n' c') 25) = W := ⟨_, rfl⟩
        have b5 : Below wr.heap.size wr W5 := by rw [← hW5]; exact (Below.refl _ _).alloc (Nat.le_refl _) _
        have s5 : wr.heap.size < W5.heap.size := by rw [← hW5]; simp
        have k5 : Blk W5 wr.heap.size 25 (ndc x a' n' c') := by rw [← hW5]; exact Blk.new _ _ _
        have hbw := HC4.out.o.trans (b5.mono (by have := HC4.out.o.size; have := HQ.out; omega))
        have HC5 := Lib.hid (HREC.out x a' n' c' W5.drew hxm (hkv.on (by rw [HQ.out]; exact hbw.drew)))
        have HSTEP : Hid (∀ (a2 : Option Addr) (c2 : Nat) (w6 : World), KI d w6 W5.drew.heap.size w6.heap.size a2 n' c2 x.kids → Below W5.drew.heap.size W5.drew w6 → CLs d w q id kd tx ks uo (some ⟨g, 0, none⟩) c n i us w6 ∧
            CLs d w q id kd tx ks uo (some ⟨g, 0, none⟩) c n (i + 1) (us.set i (a2, n', c2)) ((((w6.setCell ⟨g, i * 4, none⟩ (.int .i64 x.id)).setCell ⟨g, i * 4 + 1, none⟩ (.int .i64 x.kind)).setCell ⟨g, i * 4 + 2, none⟩ (.string x.text)).setCell ⟨g, i * 4 + 3, none⟩ (.slice a2 n' c2))) := fun a2 c2 w6 h1 h2 =>
          HC4.out.step HKL.out hx (b5.drew.trans (h2.mono (by show wr.heap.size ≤ W5.heap.size; omega))) h1 (by show wr.heap.size ≤ W5.heap.size; omega)
        obtain ⟨xi, hxi⟩ : ∃ z, x.id = z := ⟨_, rfl⟩
        obtain ⟨xk, hxk⟩ : ∃ z, x.kind = z := ⟨_, rfl⟩
        obtain ⟨xt, hxt⟩ : ∃ z, x.text = z := ⟨_, rfl⟩
        obtain ⟨xs, hxs⟩ : ∃ z, x.kids = z := ⟨_, rfl⟩
        unfold ndv at HC5
        unfold ndc at k5 hW5
        rw [hxi, hxk, hxt, hxs] at HC5 HSTEP
        rw [hxi, hxk, hxt] at k5 hW5
        rw [hxi] at y0; rw [hxk] at y1; rw [hxt] at y2
        have z0 := k5.cell 0
        have z1 := k5.cell 1
        have z2 := k5.cell 2
        have z3 := k5.cell 3
        have hkq5 : Blk W5 q 25 #[.int .i64 id, .int .i64 kd, .string tx, .slice (some ⟨g, 0, none⟩) n c] := HC4.out.kq.same (b5.block q HC4.out.kq.lt)
        have q3 := hkq5.cell 3
        simp only [List.getElem?_toArray, List.getElem?_cons_zero, List.getElem?_cons_succ] at z0 z1 z2 z3 q3
        have HM' := Lib.hid hm'
        have HW5 := Lib.hid hW5
        clear hm' hx hu hu2 hxm hkv g0 g1 g2 g3' b5 k5 hbw hxi hxk hxt hxs hkq5 hW5 e3 d3 g3
        go_wp2_with fail
        rw [HW5.out]
        go_region_law (first | (go_simp; go_at_call 54; refine HC5.out.mono ?_; rintro e w6 ⟨a2, c2, rfl, hki, b6⟩; obtain ⟨hs6, hs7⟩ := HSTEP.out a2 c2 w6 hki b6; have q6 := hs6.kq.cell 3; have HN := Lib.hid hs7; simp only [List.getElem?_toArray, List.getElem?_cons_zero, List.getElem?_cons_succ] at q6; have u0 : ∃ u, w6.cell? ⟨g, i * 4, none⟩ = some u := ⟨_, (hs6.own.cellAt (i * 4) (by have := HM'.out; omega)).trans (List.getElem?_eq_getElem (by rw [kcs_len _ _ hs6.len]; omega))⟩; have u1 : ∃ u, w6.cell? ⟨g, i * 4 + 1, none⟩ = some u := ⟨_, (hs6.own.cellAt (i * 4 + 1) (by have := HM'.out; omega)).trans (List.getElem?_eq_getElem (by rw [kcs_len _ _ hs6.len]; omega))⟩; have u2 : ∃ u, w6.cell? ⟨g, i * 4 + 2, none⟩ = some u := ⟨_, (hs6.own.cellAt (i * 4 + 2) (by have := HM'.out; omega)).trans (List.getElem?_eq_getElem (by rw [kcs_len _ _ hs6.len]; omega))⟩; have u3 : ∃ u, w6.cell? ⟨g, i * 4 + 3, none⟩ = some u := ⟨_, (hs6.own.cellAt (i * 4 + 3) (by have := HM'.out; omega)).trans (List.getElem?_eq_getElem (by rw [kcs_len _ _ hs6.len]; omega))⟩; obtain ⟨p0, u0⟩ := u0; obtain ⟨p1, u1⟩ := u1; obtain ⟨p2, u2⟩ := u2; obtain ⟨p3, u3⟩ := u3; have f0 := hs6.own.frozenAt (i * 4); have f1 := hs6.own.frozenAt (i * 4 + 1); have f2 := hs6.own.frozenAt (i * 4 + 2); have f3 := hs6.own.frozenAt (i * 4 + 3); clear hki b6 hs6 hs7))
        all_goals
          go_wp2
          go_roundw
          case rel => exact ⟨i + 1, _, by go_num, by omega, HN⟩
          case measure => simp [intOf]; omega
      · have hin2 : ¬ ((i : Int) < (n : Int)) := by omega
        obtain rfl : i = n := by omega
        have hfin := HC4.out.fin HQ.out HKL.out
        have y0 := HC4.out.kq.cell 0
        have y1 := HC4.out.kq.cell 1
        have y2 := HC4.out.kq.cell 2
        have y3 := HC4.out.kq.cell 3
        have z0 := HC4.out.kr.cell 0
        have z1 := HC4.out.kr.cell 1
        have z2 := HC4.out.kr.cell 2
        have z3 := HC4.out.kr.cell 3
        have f0 := HC4.out.kr.frozen 0
        have f1 := HC4.out.kr.frozen 1
        have f2 := HC4.out.kr.frozen 2
        have f3 := HC4.out.kr.frozen 3
        simp only [List.getElem?_toArray, List.getElem?_cons_zero, List.getElem?_cons_succ] at y0 y1 y2 y3 z0 z1 z2 z3
        have HFIN := Lib.hid hfin
        clear hfin hi e3 d3 g3
        go_wp2_with fail
        obtain ⟨z, hz⟩ := HFIN.out
        have z0 := z.cell 0
        have z1 := z.cell 1
        have z2 := z.cell 2
        have z3 := z.cell 3
        simp only [List.getElem?_toArray, List.getElem?_cons_zero, List.getElem?_cons_succ] at z0 z1 z2 z3
        refine bodyPost_ret (v := .agg #[.int .i64 id, .int .i64 kd, .string tx, .slice av i c]) (by simp [results, Try.results54, go_sem, z0, z1, z2, z3]) rfl hz

end Go.Proofs.Ytfecajeenmnoeaa
