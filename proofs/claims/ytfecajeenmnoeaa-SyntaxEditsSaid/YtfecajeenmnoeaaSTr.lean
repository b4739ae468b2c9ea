/- The generator's tree. It has no conditions. -/
import Derived.Test.YtfecajeenmnoeaaSKr
import Derived.Deep.RegionLaw
import Derived.Deep.AppendLies
namespace Go.Proofs.Ytfecajeenmnoeaa
open Go.RowKit Go.Shelf
set_option linter.unusedVariables false

/-- A tree of at most a depth is handed back, in memory of its own; of what lay the generator alone has turned. -/
def Tr (p : Nat) (l : Option Addr) (nl cl d : Nat) (w : World) (e : Ending) (w' : World) : Prop :=
  ∃ (t : Nd) (a : Option Addr) (n cap : Nat), e = .returned (ndv t a n cap) ∧ KV (fun b => w.heap.size ≤ b) w' a n cap t.kids ∧ Sm d t ∧ GG p l nl cl w' ∧ Only (fun b => b = p) w w'

abbrev zcs : Array Value := #[.int .i64 0, .int .i64 0, .string ⟨#[]⟩, .slice none 0 0]
abbrev tcs : Array Value := #[.string ⟨#[97]⟩, .string ⟨#[32]⟩, .string ⟨#[43]⟩, .string ⟨#[49, 50]⟩, .string ⟨#[]⟩, .string ⟨#[108, 101, 116]⟩, .string ⟨#[10]⟩, .string ⟨#[34, 120, 34]⟩, .string ⟨#[97, 98, 95, 49]⟩, .string ⟨#[195, 169]⟩]
theorem ten_texts : ∀ k, k < 10 → ∃ x : ByteArray, tcs[k]? = some (.string x) ∧ x.size ≤ 8
  | 0, _ => ⟨_, rfl, by decide⟩
  | 1, _ => ⟨_, rfl, by decide⟩
  | 2, _ => ⟨_, rfl, by decide⟩
  | 3, _ => ⟨_, rfl, by decide⟩
  | 4, _ => ⟨_, rfl, by decide⟩
  | 5, _ => ⟨_, rfl, by decide⟩
  | 6, _ => ⟨_, rfl, by decide⟩
  | 7, _ => ⟨_, rfl, by decide⟩
  | 8, _ => ⟨_, rfl, by decide⟩
  | 9, _ => ⟨_, rfl, by decide⟩
  | n + 10, h => absurd h (by omega)
/-- The state of the call: the generator at p, the result at q, the texts behind it, the node at r. -/
structure TS (p : Nat) (l : Option Addr) (nl cl : Nat) (w : World) (q r : Nat) (cs : Array Value) (W : World) : Prop where
  hq : w.heap.size = q
  hp : p < q
  hr : q + 2 ≤ r
  o : Only (fun b => b = p) w W
  g : GG p l nl cl W
  kr : Blk W r 25 cs
  kq : Blk W q 25 zcs
  kt : Blk W (q + 1) 9 tcs
theorem TS.on {p : Nat} {l : Option Addr} {nl cl : Nat} {w : World} {q r : Nat} {cs : Array Value} {W W' : World} (h : TS p l nl cl w q r cs W) (g : GG p l nl cl W') (o : Only (fun b => b = p) W W') : TS p l nl cl w q r cs W' :=
  have h1 := h.hp; have h2 := h.hr
  ⟨h.hq, h.hp, h.hr, h.o.trans o, g, h.kr.same (o.block r h.kr.lt (by omega)), h.kq.same (o.block q h.kq.lt (by omega)), h.kt.same (o.block _ h.kt.lt (by omega))⟩
theorem TS.set {p : Nat} {l : Option Addr} {nl cl : Nat} {w : World} {q r : Nat} {cs : Array Value} {W : World} (h : TS p l nl cl w q r cs W) (i : Nat) (v : Value) : TS p l nl cl w q r (cs.setIfInBounds i v) (W.setCell ⟨r, i, none⟩ v) :=
  have h1 := h.hp; have h2 := h.hr; have h3 := h.hq
  have hb : ∀ b, b ≠ r → (W.setCell ⟨r, i, none⟩ v).heap[b]? = W.heap[b]? := fun b hb => Below.heap_setCell W ⟨r, i, none⟩ v b hb
  ⟨h.hq, h.hp, h.hr, h.o.setCell (p := ⟨r, i, none⟩) (.inl (by show w.heap.size ≤ r; omega)) v, h.g.same (hb p (by omega)), h.kr.set i v, h.kq.same (hb q (by omega)), h.kt.same (hb _ (by omega))⟩
/-- The node is handed back. -/
theorem TS.fin {p : Nat} {l : Option Addr} {nl cl d : Nat} {w : World} {q r : Nat} {cs : Array Value} {W : World} (h : TS p l nl cl w q r cs W) {t : Nd} {a : Option Addr} {n cap : Nat} (hcs : cs = #[.int .i64 t.id, .int .i64 t.kind, .string t.text, .slice a n cap]) (hk : KV (fun b => q + 1 ≤ b) W a n cap t.kids) (hs : Sm d t) :
    Blk ((((W.setCell ⟨q, 0, none⟩ (.int .i64 t.id)).setCell ⟨q, 1, none⟩ (.int .i64 t.kind)).setCell ⟨q, 2, none⟩ (.string t.text)).setCell ⟨q, 3, none⟩ (.slice a n cap)) q 25 #[.int .i64 t.id, .int .i64 t.kind, .string t.text, .slice a n cap] ∧
    Tr p l nl cl d w (.returned (.agg #[.int .i64 t.id, .int .i64 t.kind, .string t.text, .slice a n cap])) ((((W.setCell ⟨q, 0, none⟩ (.int .i64 t.id)).setCell ⟨q, 1, none⟩ (.int .i64 t.kind)).setCell ⟨q, 2, none⟩ (.string t.text)).setCell ⟨q, 3, none⟩ (.slice a n cap)) := by
  have h1 := h.hp; have h2 := h.hr; have h3 := h.hq
  obtain ⟨W', hW'⟩ : ∃ W', (((W.setCell ⟨q, 0, none⟩ (.int .i64 t.id)).setCell ⟨q, 1, none⟩ (.int .i64 t.kind)).setCell ⟨q, 2, none⟩ (.string t.text)).setCell ⟨q, 3, none⟩ (.slice a n cap) = W' := ⟨_, rfl⟩
  have hb : ∀ b, b ≠ q → W'.heap[b]? = W.heap[b]? := fun b hb => by
    rw [← hW']
    exact (((Below.heap_setCell _ ⟨q, 3, none⟩ _ b hb).trans (Below.heap_setCell _ ⟨q, 2, none⟩ _ b hb)).trans (Below.heap_setCell _ ⟨q, 1, none⟩ _ b hb)).trans (Below.heap_setCell _ ⟨q, 0, none⟩ _ b hb)
  have hz : W'.heap.size = W.heap.size := by rw [← hW']; simp [World.setCell]
  have ho : Only (fun b => b = p) w W' := by
    rw [← hW']
    exact (((h.o.setCell (p := ⟨q, 0, none⟩) (.inl (by show w.heap.size ≤ q; omega)) _).setCell (p := ⟨q, 1, none⟩) (.inl (by show w.heap.size ≤ q; omega)) _).setCell (p := ⟨q, 2, none⟩) (.inl (by show w.heap.size ≤ q; omega)) _).setCell (p := ⟨q, 3, none⟩) (.inl (by show w.heap.size ≤ q; omega)) _
  have hk0 : Blk W' q 25 #[.int .i64 t.id, .int .i64 t.kind, .string t.text, .slice a n cap] := by
    rw [← hW']
    simpa using (((h.kq.set 0 (.int .i64 t.id)).set 1 (.int .i64 t.kind)).set 2 (.string t.text)).set 3 (.slice a n cap)
  rw [hW']
  exact ⟨hk0, t, a, n, cap, rfl, hk.keep (by omega) (fun b hb' hlt => hb b (by omega)) (fun b hb' hlt => by omega), hs, h.g.same (hb p (by omega)), ho⟩

/-- What the loop over the kids keeps. -/
def TL (p : Nat) (l : Option Addr) (nl cl : Nat) (w : World) (q r : Nat) (x0 x1 : Int) (d : Nat) (i : Nat) (W : World) : Prop :=
  ∃ (kids : List Nd) (us : List (Option Addr × Nat × Nat)) (a : Option Addr) (n c : Nat), kids.length = n ∧ n + i ≤ 4 ∧ TS p l nl cl w q r #[.int .i64 x0, .int .i64 x1, .string ⟨#[]⟩, .slice a n c] W ∧ KRow (fun b => r + 1 ≤ b) (r + 1) W (.slice a n c) kids us ∧ Sms d kids
theorem TL.step {p : Nat} {l : Option Addr} {nl cl : Nat} {w : World} {q r : Nat} {x0 x1 : Int} {W w5 w6 : World} {kids : List Nd} {us : List (Option Addr × Nat × Nat)} {a ka : Option Addr} {n c kn kc gg c1 : Nat} {t : Nd} (hn : kids.length = n)
    (ts : TS p l nl cl w q r #[.int .i64 x0, .int .i64 x1, .string ⟨#[]⟩, .slice a n c] W) (hk : KRow (fun b => r + 1 ≤ b) (r + 1) W (.slice a n c) kids us) (hkv : KV (fun b => W.heap.size ≤ b) w5 ka kn kc t.kids) (g5 : GG p l nl cl w5) (o5 : Only (fun b => b = p) W w5)
    (hown : w6.ownsRow (r + 1) 25 4 (.slice (some ⟨gg, 0, none⟩) (n + 1) c1) (n + 1) (kcs kids us ++ [.int .i64 t.id, .int .i64 t.kind, .string t.text, .slice ka kn kc]))
    (hg : (w5.alloc (.cells #[.int .i64 t.id, .int .i64 t.kind, .string t.text, .slice ka kn kc] 25)).grownBy w6 (Value.slice a n c).ownBlock) (hat : (Value.slice a n c).ownBlock = some gg ∨ gg = w5.heap.size + 1) :
    w6.cell? ⟨r, 3, none⟩ = some (.slice a n c) ∧ w6.frozen? ⟨r, 3, none⟩ = false ∧ TS p l nl cl w q r #[.int .i64 x0, .int .i64 x1, .string ⟨#[]⟩, .slice (some ⟨gg, 0, none⟩) (n + 1) c1] (w6.setCell ⟨r, 3, none⟩ (.slice (some ⟨gg, 0, none⟩) (n + 1) c1)) ∧
      KRow (fun b => r + 1 ≤ b) (r + 1) (w6.setCell ⟨r, 3, none⟩ (.slice (some ⟨gg, 0, none⟩) (n + 1) c1)) (.slice (some ⟨gg, 0, none⟩) (n + 1) c1) (kids ++ [t]) (us ++ [(ka, kn, kc)]) := by
  subst hn
  have h1 := ts.hp; have h2 := ts.hr; have h3 := ts.hq
  have hz5 := o5.size
  have hol := hk.own.lt
  have ts5 := ts.on g5 o5
  have hrl := ts5.kr.lt
  have hk5 : KRow (fun b => r + 1 ≤ b) (r + 1) w5 (.slice a kids.length c) kids us := hk.keep hz5 (fun b hb hlt => o5.block b hlt (fun e => hb.elim (fun hb => by have hb : r + 1 ≤ b := hb; have e : b = p := e; omega) (fun hb => by have hb := (hol b hb).1; have e : b = p := e; omega)))
  have hkv5 : KV (fun b => r + 1 ≤ b ∧ (Value.slice a kids.length c).ownBlock ≠ some b) w5 ka kn kc t.kids := hkv.keep (Nat.le_refl _) (fun _ _ _ => rfl) (fun b hb _ => ⟨by have := ts.kr.lt; omega, fun e => by have := (hol b e).2; omega⟩)
  have hX : Below w5.heap.size w5 (w5.alloc (.cells #[.int .i64 t.id, .int .i64 t.kind, .string t.text, .slice ka kn kc] 25)) := (Below.refl _ _).alloc (Nat.le_refl _) _
  have hk6 := hk5.push hkv5 hX hg (hat.imp id (fun e => by omega)) hown
  have hne : ∀ b, b ≤ r → some b ≠ (Value.slice a kids.length c).ownBlock := fun b hb e => by have := (hol b e.symm).1; omega
  have hb6 : ∀ b, b ≤ r → w6.heap[b]? = w5.heap[b]? := fun b hb => (hg.block b (by have := hX.size; omega) (hne b hb)).trans (hX.block b (by omega))
  have o6 : Only (fun b => b = p) w w6 := (ts5.o.trans (Only.of_below hX)).grown hg (fun k e => .inl (by have := (hol k e).1; omega))
  have ts6 : TS p l nl cl w q r #[.int .i64 x0, .int .i64 x1, .string ⟨#[]⟩, .slice a kids.length c] w6 := ⟨h3, h1, h2, o6, g5.same (hb6 p (by omega)), ts5.kr.same (hb6 r (Nat.le_refl _)), ts5.kq.same (hb6 q (by omega)), ts5.kt.same (hb6 (q + 1) (by omega))⟩
  refine ⟨ts6.kr.cell 3, ts6.kr.frozen 3, by simpa using ts6.set 3 (.slice (some ⟨gg, 0, none⟩) (kids.length + 1) c1), ?_⟩
  refine hk6.keep (by simp [World.setCell]) (fun b hb hlt => Below.heap_setCell w6 ⟨r, 3, none⟩ _ b ?_)
  rcases hb with hb | hb
  · show b ≠ r; omega
  · have := (hown.lt b hb).1; show b ≠ r; omega

set_option maxRecDepth 100000 in
set_option maxHeartbeats 4000000 in
theorem tree_step (B p : Nat) (l : Option Addr) (nl cl : Nat) (hcap : nl ≤ cl) (hcap2 : cl ≤ 9223372036854775807) (hB : B ≤ p) (d : Nat) (w : World) (hd : d ≤ 4) (h : SlJ B w l nl) (hg : GG p l nl cl w)
    (ih : ∀ d', d' + 1 = d → ∀ w, SlJ B w l nl → GG p l nl cl w → Calls Try.prog 45 #[.pointer (some ⟨p, 0, none⟩), .int .i64 (d' : Int)] w (Tr p l nl cl d' w)) :
    Calls Try.prog 45 #[.pointer (some ⟨p, 0, none⟩), .int .i64 (d : Int)] w (Tr p l nl cl d w) := by
  have hpw := hg.lt
  obtain ⟨q, hq⟩ : ∃ q, w.heap.size = q := ⟨_, rfl⟩
  have HN : Hid (∀ (m : Nat) (W : World), 1 ≤ m → m ≤ 1000 → Only (fun b => b = p) w W → GG p l nl cl W → Calls Try.prog 44 #[.pointer (some ⟨p, 0, none⟩), .int .i64 (m : Int)] W (Nx p l nl cl m W)) := fun m W h1 h2 ho hg' => next_any B p l nl cl m W (h.only (by omega) ho (fun k e => by omega)) hcap hcap2 hB hg' h1 (by omega)
  obtain ⟨W2, hW2⟩ : ∃ W2, (w.alloc (.cells #[.int .i64 0, .int .i64 0, .string ⟨#[]⟩, .slice none 0 0] 25)).alloc (.cells #[.string ⟨#[97]⟩, .string ⟨#[32]⟩, .string ⟨#[43]⟩, .string ⟨#[49, 50]⟩, .string ⟨#[]⟩, .string ⟨#[108, 101, 116]⟩, .string ⟨#[10]⟩, .string ⟨#[34, 120, 34]⟩, .string ⟨#[97, 98, 95, 49]⟩, .string ⟨#[195, 169]⟩] 9) = W2 := ⟨_, rfl⟩
  have o2 : Only (fun b => b = p) w W2 := by rw [← hW2]; exact ((Only.refl (fun b => b = p) w).alloc _).alloc _
  have k0 : Blk W2 q 25 zcs := by rw [← hW2, ← hq]; exact (Blk.new _ _ _).alloc _
  have k1 : Blk W2 (q + 1) 9 tcs := by
    rw [← hW2, ← hq]
    have := Blk.new (w.alloc (.cells #[.int .i64 0, .int .i64 0, .string ⟨#[]⟩, .slice none 0 0] 25)) 9 tcs
    rw [World.size_alloc] at this
    exact this
  have s2 : W2.heap.size = q + 2 := by rw [← hW2, ← hq]; simp
  have g2 : GG p l nl cl W2 := hg.same (by rw [← hW2]; exact (Below.heap_alloc _ _ p (by simp; omega)).trans (Below.heap_alloc _ _ p hpw))
  have C50 := Lib.hid (HN.out 50 W2 (by omega) (by omega) o2 g2)
  have HT0 : Hid (∀ (k : Int) (w3 : World), GG p l nl cl w3 → Only (fun b => b = p) W2 w3 → TS p l nl cl w q w3.heap.size #[.int .i64 k, .int .i64 0, .string ⟨#[]⟩, .slice none 0 0] (w3.alloc (.cells #[.int .i64 k, .int .i64 0, .string ⟨#[]⟩, .slice none 0 0] 25))) := fun k w3 g3 o3 =>
    have hz := o3.size
    ⟨hq, by omega, by omega, (o2.trans o3).alloc _, g3.same (Below.heap_alloc _ _ p g3.lt), Blk.new _ _ _, (k0.same (o3.block q (by omega) (by omega))).alloc _, (k1.same (o3.block (q + 1) (by omega) (by omega))).alloc _⟩
  have HQ := Lib.hid hq; have HS := Lib.hid h; have HIH := Lib.hid ih; have HW2 := Lib.hid hW2; have HBp := Lib.hid hB
  clear h hg ih hq o2 k0 k1 s2 g2 hW2 hB hpw
  go_enter Try.func45, Try.ntmps45
  go_wp2_with fail
  rw [HW2.out, HQ.out]
  refine C50.out.mono ?_
  rintro e w3 ⟨k, hk, rfl, g3, o3⟩
  have HT4 := Lib.hid (HT0.out (k : Int) w3 g3 o3)
  obtain ⟨r, hr⟩ : ∃ r, w3.heap.size = r := ⟨_, rfl⟩
  obtain ⟨W4, hW4⟩ : ∃ W4, w3.alloc (.cells #[.int .i64 (k : Int), .int .i64 0, .string ⟨#[]⟩, .slice none 0 0] 25) = W4 := ⟨_, rfl⟩
  have HR := Lib.hid hr; have HW4 := Lib.hid hW4
  rw [hr, hW4] at HT4
  clear g3 o3 hr hW4
  by_cases hd1 : d ≤ 1
  · have hd2 : (d : Int) ≤ 1 := by omega
    have hd3 : decide ((d : Int) ≤ 1) = true := by simp; omega
    have HTS := HT4
    have HWN : Hid (w3.alloc (.cells #[.int .i64 (k : Int), .int .i64 0, .string ⟨#[]⟩, .slice none 0 0] 25) = W4) := HW4
    have C9 := Lib.hid (HN.out 9 _ (by omega) (by omega) HTS.out.o HTS.out.g)
    go_wp2_with fail
    rw [HR.out, HWN.out]
    refine C9.out.mono ?_
    rintro e w5 ⟨k9, hk9, rfl, g5, o5⟩
    have ts5 := HTS.out.on g5 o5
    have c1 := ts5.kr.cell 1
    have f1 := ts5.kr.frozen 1
    simp only [List.getElem?_toArray, List.getElem?_cons_zero, List.getElem?_cons_succ] at c1
    have ts6 := ts5.set 1 (.int .i64 (k9 : Int))
    obtain ⟨W6, hW6⟩ : ∃ W6, w5.setCell ⟨r, 1, none⟩ (.int .i64 (k9 : Int)) = W6 := ⟨_, rfl⟩
    rw [hW6] at ts6
    have C10 := Lib.hid (HN.out 10 W6 (by omega) (by omega) ts6.o ts6.g)
    have HW6 := Lib.hid hW6
    have HTS6 := Lib.hid ts6
    clear ts5 g5 o5 hW6 ts6
    go_wp2_with fail
    rw [HW6.out]
    refine C10.out.mono ?_
    rintro e w7 ⟨k10, hk10, rfl, g7, o7⟩
    have ts7 := HTS6.out.on g7 o7
    obtain ⟨x, hx, hxs⟩ := ten_texts k10 hk10
    have ct := ts7.kt.cell k10
    rw [hx] at ct
    have c2 := ts7.kr.cell 2
    have f2 := ts7.kr.frozen 2
    have ts8 := ts7.set 2 (.string x)
    have hfin := ts8.fin (t := .mk (k : Int) (k9 : Int) x []) rfl (.nil (fun _ => rfl) (by omega)) (Sm.leaf d _ _ x hxs)
    have d0 := ts8.kr.cell 0
    have d1 := ts8.kr.cell 1
    have d2 := ts8.kr.cell 2
    have d3 := ts8.kr.cell 3
    have e0 := ts8.kq.cell 0
    have e1 := ts8.kq.cell 1
    have e2 := ts8.kq.cell 2
    have e3 := ts8.kq.cell 3
    have y0 := ts8.kq.frozen 0
    have y1 := ts8.kq.frozen 1
    have y2 := ts8.kq.frozen 2
    have y3 := ts8.kq.frozen 3
    simp only [List.getElem?_toArray, List.getElem?_cons_zero, List.getElem?_cons_succ, Array.setIfInBounds, List.size_toArray, List.length_cons, List.length_nil, Nat.reduceAdd, Nat.reduceLT, ↓reduceDIte, List.set_toArray, List.set_cons_succ, List.set_cons_zero] at c2 d0 d1 d2 d3 e0 e1 e2 e3
    simp only [Nd.id, Nd.kind, Nd.text] at hfin
    have HFIN := Lib.hid hfin
    have hk10i : (k10 : Int) < 10 := by omega
    have hk10j : 0 ≤ (k10 : Int) := by omega
    clear ts7 ts8 hfin hx g7 o7
    go_wp2_with fail
    obtain ⟨z, hz⟩ := HFIN.out
    have z0 := z.cell 0
    have z1 := z.cell 1
    have z2 := z.cell 2
    have z3 := z.cell 3
    simp only [List.getElem?_toArray, List.getElem?_cons_zero, List.getElem?_cons_succ] at z0 z1 z2 z3
    refine bodyPost_ret (v := .agg #[.int .i64 (k : Int), .int .i64 (k9 : Int), .string x, .slice none 0 0]) (by simp [results, Try.results45, go_sem, z0, z1, z2, z3]) rfl hz
  · obtain ⟨d', hd'⟩ : ∃ d', d = d' + 1 := ⟨d - 1, by omega⟩
    have hd2 : ¬ (d : Int) ≤ 1 := by omega
    have hd3 : decide ((d : Int) ≤ 1) = false := by simp; omega
    have HD := Lib.hid hd'
    have C3 := Lib.hid (HN.out 3 W4 (by omega) (by omega) HT4.out.o HT4.out.g)
    clear hd'
    go_wp2_with fail
    rw [HR.out, HW4.out]
    refine C3.out.mono ?_
    rintro e w3' ⟨k3, hk3, rfl, g3, o3⟩
    have HTS := Lib.hid (HT4.out.on g3 o3)
    clear g3 o3
    by_cases hk0 : k3 = 0
    · have hk0i : (k3 : Int) = 0 := by omega
      have C9 := Lib.hid (HN.out 9 _ (by omega) (by omega) HTS.out.o HTS.out.g)
      go_wp2_with fail
      refine C9.out.mono ?_
      rintro e w5 ⟨k9, hk9, rfl, g5, o5⟩
      have ts5 := HTS.out.on g5 o5
      have c1 := ts5.kr.cell 1
      have f1 := ts5.kr.frozen 1
      simp only [List.getElem?_toArray, List.getElem?_cons_zero, List.getElem?_cons_succ] at c1
      have ts6 := ts5.set 1 (.int .i64 (k9 : Int))
      obtain ⟨W6, hW6⟩ : ∃ W6, w5.setCell ⟨r, 1, none⟩ (.int .i64 (k9 : Int)) = W6 := ⟨_, rfl⟩
      rw [hW6] at ts6
      have C10 := Lib.hid (HN.out 10 W6 (by omega) (by omega) ts6.o ts6.g)
      have HW6 := Lib.hid hW6
      have HTS6 := Lib.hid ts6
      clear ts5 g5 o5 hW6 ts6
      go_wp2_with fail
      rw [HW6.out]
      refine C10.out.mono ?_
      rintro e w7 ⟨k10, hk10, rfl, g7, o7⟩
      have ts7 := HTS6.out.on g7 o7
      obtain ⟨x, hx, hxs⟩ := ten_texts k10 hk10
      have ct := ts7.kt.cell k10
      rw [hx] at ct
      have c2 := ts7.kr.cell 2
      have f2 := ts7.kr.frozen 2
      have ts8 := ts7.set 2 (.string x)
      have hfin := ts8.fin (t := .mk (k : Int) (k9 : Int) x []) rfl (.nil (fun _ => rfl) (by omega)) (Sm.leaf d _ _ x hxs)
      have d0 := ts8.kr.cell 0
      have d1 := ts8.kr.cell 1
      have d2 := ts8.kr.cell 2
      have d3 := ts8.kr.cell 3
      have e0 := ts8.kq.cell 0
      have e1 := ts8.kq.cell 1
      have e2 := ts8.kq.cell 2
      have e3 := ts8.kq.cell 3
      have y0 := ts8.kq.frozen 0
      have y1 := ts8.kq.frozen 1
      have y2 := ts8.kq.frozen 2
      have y3 := ts8.kq.frozen 3
      simp only [List.getElem?_toArray, List.getElem?_cons_zero, List.getElem?_cons_succ, Array.setIfInBounds, List.size_toArray, List.length_cons, List.length_nil, Nat.reduceAdd, Nat.reduceLT, ↓reduceDIte, List.set_toArray, List.set_cons_succ, List.set_cons_zero] at c2 d0 d1 d2 d3 e0 e1 e2 e3
      simp only [Nd.id, Nd.kind, Nd.text] at hfin
      have HFIN := Lib.hid hfin
      have hk10i : (k10 : Int) < 10 := by omega
      have hk10j : 0 ≤ (k10 : Int) := by omega
      clear ts7 ts8 hfin hx g7 o7
      go_wp2_with fail
      obtain ⟨z, hz⟩ := HFIN.out
      have z0 := z.cell 0
      have z1 := z.cell 1
      have z2 := z.cell 2
      have z3 := z.cell 3
      simp only [List.getElem?_toArray, List.getElem?_cons_zero, List.getElem?_cons_succ] at z0 z1 z2 z3
      refine bodyPost_ret (v := .agg #[.int .i64 (k : Int), .int .i64 (k9 : Int), .string x, .slice none 0 0]) (by simp [results, Try.results45, go_sem, z0, z1, z2, z3]) rfl hz
    · have hk0i : ¬ (k3 : Int) = 0 := by omega
      have C37 := Lib.hid (HN.out 37 w3' (by omega) (by omega) HTS.out.o HTS.out.g)
      go_wp2_with fail
      refine C37.out.mono ?_
      rintro e w5 ⟨k37, hk37, rfl, g5, o5⟩
      have ts5 := HTS.out.on g5 o5
      have c1 := ts5.kr.cell 1
      have f1 := ts5.kr.frozen 1
      simp only [List.getElem?_toArray, List.getElem?_cons_zero, List.getElem?_cons_succ] at c1
      have m37 : IntKind.i64.wrap (16 + (k37 : Int)) = 16 + (k37 : Int) := by simp [IntKind.wrap, IntKind.signed, IntKind.bits]; omega
      have ts6 := ts5.set 1 (.int .i64 (16 + (k37 : Int)))
      obtain ⟨W6, hW6⟩ : ∃ W6, w5.setCell ⟨r, 1, none⟩ (.int .i64 (16 + (k37 : Int))) = W6 := ⟨_, rfl⟩
      rw [hW6] at ts6
      have C5 := Lib.hid (HN.out 5 W6 (by omega) (by omega) ts6.o ts6.g)
      have HW6 := Lib.hid hW6
      have HTS6 := Lib.hid ts6
      clear ts5 g5 o5 hW6 ts6
      go_wp2_with fail
      rw [HW6.out]
      refine C5.out.mono ?_
      rintro e w7 ⟨k5, hk5, rfl, g7, o7⟩
      have HTS7 : Hid (TS p l nl cl w q r #[.int .i64 (k : Int), .int .i64 (16 + (k37 : Int)), .string ⟨#[]⟩, .slice none 0 0] w7) := Lib.hid (by simpa using HTS6.out.on g7 o7)
      have HL0 : Hid (TL p l nl cl w q r (k : Int) (16 + (k37 : Int)) d' k5 w7) := ⟨[], [], none, 0, 0, rfl, by omega, HTS7.out, KRow.nil _ _ _, Sms.nil _⟩
      have hdd : IntKind.i64.wrap ((d : Int) - 1) = (d' : Int) := by have := HD.out; simp [IntKind.wrap, IntKind.signed, IntKind.bits]; omega
      obtain ⟨i3, hi3, iy0, iy1, iy2⟩ := info_parts infoNd
      have HK37 := Lib.hid m37
      clear g7 o7 m37
      go_wp2_with fail
      go_loopw [7] (fun g wr => ∃ i : Nat, g = .int .i64 (i : Int) ∧ Hid (TL p l nl cl w q r (k : Int) (16 + (k37 : Int)) d' i wr)) (fun g _ => (intOf g).toNat)
      case atStart => exact ⟨k5, rfl, HL0⟩
      case round =>
        obtain ⟨i, rfl, HL⟩ := hrel
        obtain ⟨kids, us, a, n, c, hn, hni, ts, hkr, hsm⟩ := HL.out
        by_cases hi : i = 0
        · have hi2 : ¬ (0 : Int) < (i : Int) := by omega
          have hkv := hkr.kv (G' := fun b => q + 1 ≤ b) (fun b hb hlt => by
            rcases hb with hb | hb
            · have := ts.hr; show q + 1 ≤ b; omega
            · have := (hkr.own.lt b hb).1; have := ts.hr; show q + 1 ≤ b; omega)
          have hfin := ts.fin (d := d) (t := .mk (k : Int) (16 + (k37 : Int)) ⟨#[]⟩ kids) rfl hkv.1 (by rw [HD.out]; exact hsm.root (by omega) _ _ (by omega))
          simp only [Nd.id, Nd.kind, Nd.text] at hfin
          have d0 := ts.kr.cell 0
          have d1 := ts.kr.cell 1
          have d2 := ts.kr.cell 2
          have d3 := ts.kr.cell 3
          have e0 := ts.kq.cell 0
          have e1 := ts.kq.cell 1
          have e2 := ts.kq.cell 2
          have e3 := ts.kq.cell 3
          have y0 := ts.kq.frozen 0
          have y1 := ts.kq.frozen 1
          have y2 := ts.kq.frozen 2
          have y3 := ts.kq.frozen 3
          simp only [List.getElem?_toArray, List.getElem?_cons_zero, List.getElem?_cons_succ] at d0 d1 d2 d3 e0 e1 e2 e3
          have HFIN := Lib.hid hfin
          clear ts hkr hsm hkv hfin hi hn hdd
          go_wp2_with fail
          obtain ⟨z, hz⟩ := HFIN.out
          have z0 := z.cell 0
          have z1 := z.cell 1
          have z2 := z.cell 2
          have z3 := z.cell 3
          simp only [List.getElem?_toArray, List.getElem?_cons_zero, List.getElem?_cons_succ] at z0 z1 z2 z3
          refine bodyPost_ret (v := .agg #[.int .i64 (k : Int), .int .i64 (16 + (k37 : Int)), .string ⟨#[]⟩, .slice a n c]) (by simp [results, Try.results45, go_sem, z0, z1, z2, z3]) rfl hz
        · have hi2 : (0 : Int) < (i : Int) := by omega
          have m1 : IntKind.i64.wrap ((i : Int) - 1) = ((i - 1 : Nat) : Int) := by simp [IntKind.wrap, IntKind.signed, IntKind.bits]; omega
          have s3 : wr.cell? ⟨r, 3, none⟩ = some (.slice a n c) := ts.kr.cell 3
          have tsd : TS p l nl cl w q r #[.int .i64 (k : Int), .int .i64 (16 + (k37 : Int)), .string ⟨#[]⟩, .slice a n c] wr.drew := ts.on ts.g (Only.refl _ _).drew
          have hkd : KRow (fun b => r + 1 ≤ b) (r + 1) wr.drew (.slice a n c) kids us := hkr.keep (Nat.le_refl _) (fun _ _ _ => rfl)
          have HC := Lib.hid (HIH.out d' HD.out.symm wr.drew (HS.out.only (by rw [HQ.out]; have := tsd.hp; have := HBp.out; omega) tsd.o (fun k e => by have := HBp.out; omega)) tsd.g)
          have HSTEP : Hid (∀ (t : Nd) (ka : Option Addr) (kn kc : Nat) (w5 : World), KV (fun b => wr.drew.heap.size ≤ b) w5 ka kn kc t.kids → GG p l nl cl w5 → Only (fun b => b = p) wr.drew w5 →
              w5.cell? ⟨r, 3, none⟩ = some (.slice a n c) ∧ (w5.alloc (.cells #[.int .i64 t.id, .int .i64 t.kind, .string t.text, .slice ka kn kc] 25)).ownsRow (r + 1) 25 4 (.slice a n c) n (kcs kids us) ∧ r < w5.heap.size) := fun t ka kn kc w5 hkv g5 o5 => by
            have hz5 := o5.size
            have hol := hkd.own.lt
            have h1 := tsd.hp; have h2 := tsd.hr
            have ts5 := tsd.on g5 o5
            have hk5 := hkd.keep hz5 (fun b hb hlt => o5.block b hlt (fun e => hb.elim (fun hb => by have hb : r + 1 ≤ b := hb; have e : b = p := e; omega) (fun hb => by have hb := (hol b hb).1; have e : b = p := e; omega)))
            refine ⟨ts5.kr.cell 3, ?_, ts5.kr.lt⟩
            have := hk5.own
            rw [hn] at this
            exact own_same this (fun g hg => Below.heap_alloc _ _ g (hk5.own.lt g hg).2)
          have HGO : Hid (∀ (t : Nd) (ka : Option Addr) (kn kc gg c1 : Nat) (w5 w6 : World), KV (fun b => wr.drew.heap.size ≤ b) w5 ka kn kc t.kids → GG p l nl cl w5 → Only (fun b => b = p) wr.drew w5 → Sm d' t → w6.ownsRow (r + 1) 25 4 (.slice (some ⟨gg, 0, none⟩) (n + 1) c1) (n + 1) (kcs kids us ++ [.int .i64 t.id, .int .i64 t.kind, .string t.text, .slice ka kn kc]) →
              (w5.alloc (.cells #[.int .i64 t.id, .int .i64 t.kind, .string t.text, .slice ka kn kc] 25)).grownBy w6 (Value.slice a n c).ownBlock → ((Value.slice a n c).ownBlock = some gg ∨ gg = w5.heap.size + 1) →
              w6.cell? ⟨r, 3, none⟩ = some (.slice a n c) ∧ w6.frozen? ⟨r, 3, none⟩ = false ∧ TL p l nl cl w q r (k : Int) (16 + (k37 : Int)) d' (i - 1) (w6.setCell ⟨r, 3, none⟩ (.slice (some ⟨gg, 0, none⟩) (n + 1) c1))) := fun t ka kn kc gg c1 w5 w6 hkv g5 o5 hst hown hg hat => by
            obtain ⟨q1, q2, q3, q4⟩ := TL.step hn tsd hkd hkv g5 o5 hown hg hat
            exact ⟨q1, q2, kids ++ [t], us ++ [(ka, kn, kc)], _, n + 1, c1, by simp [hn], by omega, q3, q4, hsm.push hst⟩
          clear ts hkr hsm tsd hkd hn HL
          go_wp2_with fail
          go_region_law (first
            | (refine step_append_lies _ (by rfl) _ _ _ (by rfl) (r + 1) 25 i3 _ 4 56 Try.underlying23 hi3 iy0 iy1 iy2 rfl (by decide) (.slice a n c) n (kcs kids us) (by rfl) s6 ⟨w5.heap.size, 0, none⟩ 1 1 [.int .i64 ti, .int .i64 tk, .string tx, .slice ka kn kc] (by rfl) (by rfl) (World.news_of_block (cs := #[.int .i64 ti, .int .i64 tk, .string tx, .slice ka kn kc]) (t := 25) (fr := (0, 0)) (World.alloc_heap_new w5 _)) (fun x hx => by simp at hx; rcases hx with rfl | rfl | rfl | rfl <;> rfl) (by omega) (by unfold maxLen; omega) (by omega) (by simp; omega) (w5.heap.size + 1) (by simp) ?_; intro gg c1 w6 hown6 hgrow6 hat6 hlt6; obtain ⟨s7, f7, HTL⟩ := HG5.out gg c1 w6 hown6 hgrow6 hat6; have HTL := Lib.hid HTL; clear hown6 hgrow6 hat6 hlt6 s6)
            | (go_simp; go_at_call 45; refine HC.out.mono ?_; rintro e w5 ⟨⟨ti, tk, tx, tks⟩, ka, kn, kc, rfl, hkv5, hsm5, g5, o5⟩; obtain ⟨s5, s6, z5⟩ := HSTEP.out _ _ _ _ _ hkv5 g5 o5; have HG5 := Lib.hid (fun gg c1 w6 => HGO.out _ _ _ _ gg c1 w5 w6 hkv5 g5 o5 hsm5); simp only [Nd.id, Nd.kind, Nd.text] at s6 HG5; clear hkv5 g5 o5 hsm5; simp only [ndv, Nd.id, Nd.kind, Nd.text]))
          all_goals
            go_wp2
            go_roundw
            case rel => exact ⟨i - 1, rfl, HTL⟩
            case measure => simp [intOf]; omega

theorem tree_any (B p : Nat) (l : Option Addr) (nl cl : Nat) (hcap : nl ≤ cl) (hcap2 : cl ≤ 9223372036854775807) (hB : B ≤ p) : ∀ (d : Nat) (w : World), d ≤ 4 → SlJ B w l nl → GG p l nl cl w →
    Calls Try.prog 45 #[.pointer (some ⟨p, 0, none⟩), .int .i64 (d : Int)] w (Tr p l nl cl d w)
  | 0, w, hd, h, hg => tree_step B p l nl cl hcap hcap2 hB 0 w hd h hg (fun d' e => by omega)
  | d + 1, w, hd, h, hg => tree_step B p l nl cl hcap hcap2 hB (d + 1) w hd h hg (fun d' e w h hg => by
    obtain rfl : d' = d := by omega
    exact tree_any B p l nl cl hcap hcap2 hB d' w (by omega) h hg)

end Go.Proofs.Ytfecajeenmnoeaa
