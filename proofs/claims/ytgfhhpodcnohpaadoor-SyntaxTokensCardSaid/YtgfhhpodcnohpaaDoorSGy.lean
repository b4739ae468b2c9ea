/- SGy, with the texts that only it needs in front of it: SGm, SGp, SEq, STk, SGq. It has no conditions. -/
import Derived.Test.YtgfhhpodcnohpaaDoorSKr
import Derived.Test.YtgfhhpodcnohpaaDoorLMc
import Derived.Test.YtgfhhpodcnohpaaDoorLTk
import Derived.Test.YtgfhhpodcnohpaaDoorSPk
import Derived.Deep.RegionLaw
import Derived.Deep.AppendLies
import Derived.BigRegion
import Derived.Maps.AppendAt
import Derived.Test.YtgfhhpodcnohpaaDoorSR2
import Derived.Deep.RegionHeld3
import Derived.Test.YtgfhhpodcnohpaaDoorSTx
import Derived.Test.YtgfhhpodcnohpaaDoorSLe
import Derived.Test.YtgfhhpodcnohpaaDoorSLi
import Derived.Test.YtgfhhpodcnohpaaDoorLRg
import Derived.Test.YtgfhhpodcnohpaaDoorLRi
import Derived.Test.YtgfhhpodcnohpaaDoorLTn
import Derived.Test.YtgfhhpodcnohpaaDoorLMg
import Derived.Test.YtgfhhpodcnohpaaDoorLPo
import Derived.Test.YtgfhhpodcnohpaaDoorShort

/- Trees whose leaves are tokens: mathematics, and a node that is being built. It has no conditions. -/
namespace Go.Proofs.YtgfhhpodcnohpaaDoor
open Go.RowKit Go.Shelf
set_option linter.unusedVariables false

/-- Kinds and texts of tokens. -/
def tkl (L : List Tk) : List (Int × ByteArray) := L.map fun t => (t.1, tbs t.2.1)
theorem tkl_lex : ∀ (N : Nat) (l : List Int) (p : Nat), l.length ≤ N → Byt l → sb (cat (tkl (lex l p))) = l ∧ toks (tkl (lex l p)) p = (lex l p).map (fun t => (t.1, tbs t.2.1, t.2.2)) := by
  intro N
  induction N with
  | zero =>
    intro l p h hb
    have : l = [] := List.eq_nil_of_length_eq_zero (by omega)
    subst this
    exact ⟨rfl, rfl⟩
  | succ N ih =>
    intro l p h hb
    by_cases h0 : l = []
    · subst h0; exact ⟨rfl, rfl⟩
    · have hp := fst_pos h0
      obtain ⟨i1, i2⟩ := ih (l.drop (fst_ l).2) (p + (fst_ l).2) (by rw [List.length_drop]; omega) (hb.drop _)
      have hs : sb (tbs (l.take (fst_ l).2)) = l.take (fst_ l).2 := sb_bs (hb.take _)
      have hz : (tbs (l.take (fst_ l).2)).size = (fst_ l).2 := by rw [← sb_len, hs, List.length_take]; omega
      rw [lex_step h0]
      constructor
      · show sb (tbs (l.take (fst_ l).2) ++ cat (tkl (lex (l.drop (fst_ l).2) (p + (fst_ l).2)))) = l
        rw [sb_append, hs, i1, List.take_append_drop]
      · show ((fst_ l).1, tbs (l.take (fst_ l).2), p) :: toks (tkl (lex (l.drop (fst_ l).2) (p + (fst_ l).2))) (p + (tbs (l.take (fst_ l).2)).size) = _
        rw [hz, i2]
        rfl
theorem tkl_take {L : List Tk} {k : Nat} (h : k < L.length) : tkl (L.take (k + 1)) = tkl (L.take k) ++ [((tg L k).1, tbs (tg L k).2.1)] := by
  unfold tkl tg
  rw [List.take_succ_eq_append_getElem h, List.map_append, List.getElem?_eq_getElem h]
  rfl

/-- A node that is being built, at block r: its cells, and its kids in a row of its own. -/
structure NB (r : Nat) (W : World) (x1 : Int) (ks : List Nd) (us : List (Option Addr × Nat × Nat)) (a : Option Addr) (n c : Nat) : Prop where
  len : ks.length = n
  blk : Blk W r 60 #[.int .i64 0, .int .i64 x1, .string ⟨#[]⟩, .slice a n c]
  row : KRow (fun b => r + 1 ≤ b) (r + 1) W (.slice a n c) ks us
theorem NB.new (w : World) (x1 : Int) : NB w.heap.size (w.alloc (.cells #[.int .i64 0, .int .i64 x1, .string ⟨#[]⟩, .slice none 0 0] 60)) x1 [] [] none 0 0 :=
  ⟨rfl, Blk.new _ _ _, KRow.nil _ _ _⟩
theorem NB.keep {r : Nat} {W W' : World} {x1 : Int} {ks : List Nd} {us : List (Option Addr × Nat × Nat)} {a : Option Addr} {n c : Nat} (h : NB r W x1 ks us a n c) (hz : W.heap.size ≤ W'.heap.size) (hb : ∀ b, b < W.heap.size → W'.heap[b]? = W.heap[b]?) : NB r W' x1 ks us a n c :=
  ⟨h.len, h.blk.same (hb r h.blk.lt), h.row.keep hz (fun b _ hlt => hb b hlt)⟩
theorem NB.below {r : Nat} {W W' : World} {x1 : Int} {ks : List Nd} {us : List (Option Addr × Nat × Nat)} {a : Option Addr} {n c : Nat} (h : NB r W x1 ks us a n c) (hb : Below W.heap.size W W') : NB r W' x1 ks us a n c :=
  h.keep hb.size hb.block
/-- A node is appended to the kids. -/
theorem NB.app {r : Nat} {W w6 : World} {x1 : Int} {ks : List Nd} {us : List (Option Addr × Nat × Nat)} {a ka : Option Addr} {n c kn kc gg c1 : Nat} {t : Nd} (h : NB r W x1 ks us a n c)
    (hkv : KV (fun b => r + 1 ≤ b ∧ (Value.slice a n c).ownBlock ≠ some b) W ka kn kc t.kids)
    (hown : w6.ownsRow (r + 1) 60 4 (.slice (some ⟨gg, 0, none⟩) (n + 1) c1) (n + 1) (kcs ks us ++ [.int .i64 t.id, .int .i64 t.kind, .string t.text, .slice ka kn kc]))
    (hg : (W.alloc (.cells #[.int .i64 t.id, .int .i64 t.kind, .string t.text, .slice ka kn kc] 60)).grownBy w6 (Value.slice a n c).ownBlock) (hat : (Value.slice a n c).ownBlock = some gg ∨ gg = W.heap.size + 1) :
    w6.cell? ⟨r, 3, none⟩ = some (.slice a n c) ∧ w6.frozen? ⟨r, 3, none⟩ = false ∧
      NB r (w6.setCell ⟨r, 3, none⟩ (.slice (some ⟨gg, 0, none⟩) (n + 1) c1)) x1 (ks ++ [t]) (us ++ [(ka, kn, kc)]) (some ⟨gg, 0, none⟩) (n + 1) c1 ∧
      Below r W (w6.setCell ⟨r, 3, none⟩ (.slice (some ⟨gg, 0, none⟩) (n + 1) c1)) := by
  obtain ⟨hl, hblk, hrow⟩ := h
  subst hl
  have hol := hrow.own.lt
  have hrl := hblk.lt
  have hX : Below W.heap.size W (W.alloc (.cells #[.int .i64 t.id, .int .i64 t.kind, .string t.text, .slice ka kn kc] 60)) := (Below.refl _ _).alloc (Nat.le_refl _) _
  have hk6 := hrow.push hkv hX hg (hat.imp id (fun e => by omega)) hown
  have hne : ∀ b, b ≤ r → some b ≠ (Value.slice a ks.length c).ownBlock := fun b hb e => by have := (hol b e.symm).1; omega
  have hb6 : ∀ b, b ≤ r → w6.heap[b]? = W.heap[b]? := fun b hb => (hg.block b (by have := hX.size; omega) (hne b hb)).trans (hX.block b (by omega))
  have hz6 : W.heap.size ≤ w6.heap.size := Nat.le_trans hX.size hg.size
  have hr6 := hblk.same (hb6 r (Nat.le_refl _))
  have hXs := hX.size
  have h6 : Below r W w6 := (hX.mono (by omega)).grown hg (by omega) (fun g hg => by have := (hol g hg).1; omega)
  refine ⟨hr6.cell 3, hr6.frozen 3, ⟨by simp, by simpa using hr6.set 3 (.slice (some ⟨gg, 0, none⟩) (ks.length + 1) c1), ?_⟩, h6.setCell (p := ⟨r, 3, none⟩) (Nat.le_refl _) _⟩
  refine hk6.keep (by simp [World.setCell]) (fun b hb hlt => Below.heap_setCell w6 ⟨r, 3, none⟩ _ b ?_)
  rcases hb with hb | hb
  · show b ≠ r; omega
  · have := (hown.lt b hb).1; show b ≠ r; omega
theorem NB.app2 {r : Nat} {W w6 : World} {x1 : Int} {ks : List Nd} {us : List (Option Addr × Nat × Nat)} {a ka : Option Addr} {n c kn kc : Nat} {t : Nd} {v6 : Value} (h : NB r W x1 ks us a n c)
    (hkv : KV (fun b => r + 1 ≤ b ∧ (Value.slice a n c).ownBlock ≠ some b) W ka kn kc t.kids)
    (hown : w6.ownsRow (r + 1) 60 4 v6 (n + 1) (kcs ks us ++ [.int .i64 t.id, .int .i64 t.kind, .string t.text, .slice ka kn kc]))
    (hg : (W.alloc (.cells #[.int .i64 t.id, .int .i64 t.kind, .string t.text, .slice ka kn kc] 60)).grownBy w6 (Value.slice a n c).ownBlock)
    (hat : v6.ownBlock = (Value.slice a n c).ownBlock ∨ v6.ownBlock = some (W.alloc (.cells #[.int .i64 t.id, .int .i64 t.kind, .string t.text, .slice ka kn kc] 60)).heap.size) :
    ∃ gg c1, v6 = .slice (some ⟨gg, 0, none⟩) (n + 1) c1 ∧ w6.cell? ⟨r, 3, none⟩ = some (.slice a n c) ∧ w6.frozen? ⟨r, 3, none⟩ = false ∧
      NB r (w6.setCell ⟨r, 3, none⟩ (.slice (some ⟨gg, 0, none⟩) (n + 1) c1)) x1 (ks ++ [t]) (us ++ [(ka, kn, kc)]) (some ⟨gg, 0, none⟩) (n + 1) c1 ∧
      Below r W (w6.setCell ⟨r, 3, none⟩ (.slice (some ⟨gg, 0, none⟩) (n + 1) c1)) := by
  obtain ⟨gg, c1, rfl⟩ := ownsRow_succ hown
  refine ⟨gg, c1, rfl, h.app hkv hown hg (hat.imp (fun e => e.symm) (fun e => ?_))⟩
  simp only [Value.ownBlock, Option.some.injEq, World.size_alloc] at e
  exact e
/-- A node and a leaf become the kids of the node that is being built. -/
theorem NB.two {r : Nat} {W : World} {x1 : Int} {ks : List Nd} {us : List (Option Addr × Nat × Nat)} {a : Option Addr} {n c : Nat} (h : NB r W x1 ks us a n c) (kd : Int) (tx : ByteArray) (w6 : World)
    (hw6 : w6 = W.alloc (.cells #[.int .i64 0, .int .i64 x1, .string ⟨#[]⟩, .slice a n c, .int .i64 0, .int .i64 kd, .string tx, .slice none 0 0] 60)) (w7 : World)
    (hw7 : w7 = (((w6.setCell ⟨r, 0, none⟩ (.int .i64 0)).setCell ⟨r, 1, none⟩ (.int .i64 30)).setCell ⟨r, 2, none⟩ (.string ⟨#[]⟩)).setCell ⟨r, 3, none⟩ (.slice (some ⟨W.heap.size, 0, none⟩) 2 2)) :
    NB r w7 30 [.mk 0 x1 ⟨#[]⟩ ks, .mk 0 kd tx []] [(a, n, c), (none, 0, 0)] (some ⟨W.heap.size, 0, none⟩) 2 2 ∧ Below r W w7 := by
  have hrl := h.blk.lt
  have h6 : Below W.heap.size W w6 := by rw [hw6]; exact (Below.refl _ _).alloc (Nat.le_refl _) _
  have hb7 : ∀ b, b ≠ r → w7.heap[b]? = w6.heap[b]? := fun b hb => by
    rw [hw7]
    exact (((Below.heap_setCell _ ⟨r, 3, none⟩ _ b hb).trans (Below.heap_setCell _ ⟨r, 2, none⟩ _ b hb)).trans (Below.heap_setCell _ ⟨r, 1, none⟩ _ b hb)).trans (Below.heap_setCell _ ⟨r, 0, none⟩ _ b hb)
  have hz : w7.heap.size = w6.heap.size := by rw [hw7]; simp [World.setCell]
  have hz6 : w6.heap.size = W.heap.size + 1 := by rw [hw6, World.size_alloc]
  have hk : Blk w7 r 60 #[.int .i64 0, .int .i64 30, .string ⟨#[]⟩, .slice (some ⟨W.heap.size, 0, none⟩) 2 2] := by
    rw [hw7]
    simpa using ((((h.blk.same (h6.block r hrl)).set 0 (.int .i64 0)).set 1 (.int .i64 30)).set 2 (.string ⟨#[]⟩)).set 3 (.slice (some ⟨W.heap.size, 0, none⟩) 2 2)
  have hlit := World.ownsRow_lit W #[.int .i64 0, .int .i64 x1, .string ⟨#[]⟩, .slice a n c, .int .i64 0, .int .i64 kd, .string tx, .slice none 0 0] 2 (size := 4) (e := 60) (base := r + 1) (by omega) (by unfold maxLen; omega) rfl
  rw [← hw6] at hlit
  refine ⟨⟨rfl, hk, rfl, ?_, ?_⟩, ?_⟩
  · exact own_same hlit (fun g hg => hb7 g (by have := (hlit.lt g hg).1; omega))
  · intro k t u h1 h2
    have hown : (Value.slice (some ⟨W.heap.size, 0, none⟩) 2 2).ownBlock = some W.heap.size := rfl
    rw [hown]
    match k, h1, h2 with
    | 0, h1, h2 =>
      simp only [List.getElem?_cons_zero, Option.some.injEq] at h1 h2
      subst h1 h2
      refine (h.row.kv (G' := fun b => r + 1 ≤ b) (fun b hb hlt => hb.elim id (fun hb => (h.row.own.lt b hb).1))).1.keep (by omega) (fun b hb hlt => (hb7 b (by have hb : r + 1 ≤ b := hb; omega)).trans (h6.block b hlt)) (fun b hb hlt => ⟨hb, fun e => ?_⟩)
      simp only [Option.some.injEq] at e
      omega
    | 1, h1, h2 =>
      simp only [List.getElem?_cons_zero, List.getElem?_cons_succ, Option.some.injEq] at h1 h2
      subst h1 h2
      exact .nil (fun _ => rfl) (by show (0 : Nat) ≤ _; omega)
    | k + 2, h1, h2 => simp at h1
  · rw [hw7]
    have h7 : Below r W w6 := h6.mono (by omega)
    exact (((h7.setCell (p := ⟨r, 0, none⟩) (Nat.le_refl _) _).setCell (p := ⟨r, 1, none⟩) (Nat.le_refl _) _).setCell (p := ⟨r, 2, none⟩) (Nat.le_refl _) _).setCell (p := ⟨r, 3, none⟩) (Nat.le_refl _) _
/-- The kids of a node that is built. -/
theorem NB.kv {r : Nat} {W : World} {x1 : Int} {ks : List Nd} {us : List (Option Addr × Nat × Nat)} {a : Option Addr} {n c : Nat} (h : NB r W x1 ks us a n c) : KV (fun b => r + 1 ≤ b ∧ b < W.heap.size) W a n c ks :=
  (h.row.kv (G' := fun b => r + 1 ≤ b ∧ b < W.heap.size) (fun b hb hlt => hb.elim (fun hb => ⟨hb, hlt⟩) (fun hb => ⟨(h.row.own.lt b hb).1, hlt⟩))).1

end Go.Proofs.YtgfhhpodcnohpaaDoor

/- The reference's tree of tokens. Conditions: at most 400 tokens. -/
namespace Go.Proofs.YtgfhhpodcnohpaaDoor
open Go.RowKit Go.Shelf
set_option linter.unusedVariables false

/-- Kids that hold tokens. -/
structure Gk (P : List (Int × ByteArray)) (m : Nat) (T : List (Int × ByteArray)) (ks : List Nd) : Prop where
  tidy : tidys ks
  lf : P ++ lfs ks = T
  cnt : cnts ks ≤ m
theorem Gk.nil (P : List (Int × ByteArray)) (m : Nat) : Gk P m P [] := ⟨by simp [tidys], by rw [lfs_nil, List.append_nil], by simp [cnts]⟩
theorem leaf_lf {kd : Int} {x : ByteArray} (h : 0 ≤ kd ∧ kd ≤ 8) : (Nd.mk 0 kd x []).lf = [(kd, x)] := by rw [Nd.lf, if_pos h]
theorem leaf_tidy (kd : Int) (x : ByteArray) : (Nd.mk 0 kd x []).tidy := by rw [Nd.tidy]; exact ⟨fun _ => rfl, by simp [tidys]⟩
theorem leaf_cnt (kd : Int) (x : ByteArray) : (Nd.mk 0 kd x []).cnt = 1 := by rw [Nd.cnt]; simp [cnts]
/-- A leaf is appended. -/
theorem Gk.leaf {P T : List (Int × ByteArray)} {m m' : Nat} {ks : List Nd} (h : Gk P m T ks) {kd : Int} {x : ByteArray} (hk : 0 ≤ kd ∧ kd ≤ 8) (hm : m + 1 ≤ m') : Gk P m' (T ++ [(kd, x)]) (ks ++ [.mk 0 kd x []]) := by
  refine ⟨(tidys_app _ _).2 ⟨h.tidy, by rw [tidys]; exact ⟨leaf_tidy kd x, by simp [tidys]⟩⟩, ?_, ?_⟩
  · rw [lfs_app, ← List.append_assoc, h.lf, lfs_cons, lfs_nil, leaf_lf hk, List.append_nil]
  · rw [cnts_app, cnts, leaf_cnt]; have := h.cnt; simp [cnts]; omega
/-- A group and a leaf are the kids. -/
theorem Gk.two {P T : List (Int × ByteArray)} {m m' : Nat} {ks : List Nd} (h : Gk P m T ks) {x1 kd : Int} {x : ByteArray} (h1 : 8 < x1) (hk : 0 ≤ kd ∧ kd ≤ 8) (hm : m + 2 ≤ m') : Gk P m' (T ++ [(kd, x)]) [.mk 0 x1 ⟨#[]⟩ ks, .mk 0 kd x []] := by
  have hn : ¬ (0 ≤ x1 ∧ x1 ≤ 8) := by omega
  refine ⟨?_, ?_, ?_⟩
  · rw [tidys, tidys]
    exact ⟨by rw [Nd.tidy]; exact ⟨fun e => absurd e hn, h.tidy⟩, leaf_tidy kd x, by simp [tidys]⟩
  · rw [lfs_cons, lfs_cons, lfs_nil, leaf_lf hk, List.append_nil, Nd.lf, if_neg hn, ← List.append_assoc, h.lf]
  · rw [cnts, cnts, leaf_cnt, Nd.cnt]; have := h.cnt; simp [cnts]; omega
/-- A group is appended. -/
theorem Gk.group {T T' : List (Int × ByteArray)} {m m' : Nat} {ks gs : List Nd} {mg : Nat} (h : Gk [] m T ks) (hg : Gk T mg T' gs) {x1 : Int} (h1 : 8 < x1) (hm : m + mg + 1 ≤ m') : Gk [] m' T' (ks ++ [.mk 0 x1 ⟨#[]⟩ gs]) := by
  have hn : ¬ (0 ≤ x1 ∧ x1 ≤ 8) := by omega
  refine ⟨(tidys_app _ _).2 ⟨h.tidy, by rw [tidys]; exact ⟨by rw [Nd.tidy]; exact ⟨fun e => absurd e hn, hg.tidy⟩, by simp [tidys]⟩⟩, ?_, ?_⟩
  · have e := h.lf
    rw [List.nil_append] at e
    rw [List.nil_append, lfs_app, lfs_cons, lfs_nil, Nd.lf, if_neg hn, List.append_nil, e, hg.lf]
  · rw [cnts_app, cnts, Nd.cnt]; have := h.cnt; have := hg.cnt; simp [cnts]; omega

set_option maxRecDepth 100000 in
set_option maxHeartbeats 16000000 in
theorem grouped_any (L : List Tk) (ga : Option Addr) (n cap : Nat) (la : Option Addr) (nl cl : Nat) (w : World) (hL : L.length = n) (hn : n ≤ 400)
    (hcl : 0 < n → ∃ g, ga = some ⟨g, 0, none⟩ ∧ g < w.heap.size ∧ ∀ W : World, W.heap[g]? = w.heap[g]? → ∀ k, k < n → W.cell? ⟨g, k * 3, none⟩ = some (.int .i64 (tg L k).1) ∧ W.cell? ⟨g, k * 3 + 1, none⟩ = some (.string (tbs (tg L k).2.1)) ∧ W.cell? ⟨g, k * 3 + 2, none⟩ = some (.int .i64 ((tg L k).2.2 : Int)))
    (hkd : ∀ k, k < n → 0 ≤ (tg L k).1 ∧ (tg L k).1 ≤ 8) (hJ : SlJ w.heap.size w la nl) (hcap : nl ≤ cl) (hcap2 : cl ≤ 9223372036854775807) :
    Calls Tryd.prog 37 #[.slice ga n cap, .slice la nl cl] w fun e w' => ∃ t a m c, e = .returned (ndv t a m c) ∧ KV (fun b => w.heap.size ≤ b) w' a m c t.kids ∧ t.tidy ∧ t.lf = tkl L ∧ t.cnt ≤ 1201 ∧ Below w.heap.size w w' := by
  obtain ⟨q, hq⟩ : ∃ q, w.heap.size = q := ⟨_, rfl⟩
  have HQ := Lib.hid hq
  obtain ⟨W1, hW1⟩ : ∃ W, w.alloc (.cells #[.int .i64 0, .int .i64 0, .string ⟨#[]⟩, .slice none 0 0] 60) = W := ⟨_, rfl⟩
  obtain ⟨W2, hW2⟩ : ∃ W, W1.alloc (.cells #[.int .i64 0, .int .i64 16, .string ⟨#[]⟩, .slice none 0 0] 60) = W := ⟨_, rfl⟩
  have hs1 : W1.heap.size = q + 1 := by rw [← hW1, World.size_alloc, hq]
  have kq1 : Blk W1 q 60 #[.int .i64 0, .int .i64 0, .string ⟨#[]⟩, .slice none 0 0] := by rw [← hW1, ← hq]; exact Blk.new _ _ _
  have kq2 : Blk W2 q 60 #[.int .i64 0, .int .i64 0, .string ⟨#[]⟩, .slice none 0 0] := by rw [← hW2]; exact kq1.alloc _
  have nb2 := NB.new W1 16
  rw [hs1, hW2] at nb2
  have hb2 : Below q w W2 := by rw [← hW2, ← hW1]; exact ((Below.refl q w).alloc (by omega) _).alloc (by rw [World.size_alloc]; omega) _
  have hc : ∀ W, Below q w W → ∀ k, k < n → ∃ g, ga = some ⟨g, 0, none⟩ ∧ W.cell? ⟨g, k * 3, none⟩ = some (.int .i64 (tg L k).1) ∧ W.cell? ⟨g, k * 3 + 1, none⟩ = some (.string (tbs (tg L k).2.1)) := fun W hW k hk => by
    obtain ⟨g, hg, hgl, h⟩ := hcl (by omega)
    obtain ⟨p0, p1, _⟩ := h W (hW.block g (by omega)) k hk
    exact ⟨g, hg, p0, p1⟩
  have hpk : ∀ (j : Nat), j ≤ 1000 → ∃ k : Nat, k < 5 ∧ ∀ W, Below q w W → Calls Tryd.prog 67 #[.slice la nl cl, .int .i64 (j : Int), .int .i64 5] W fun e w' => e = .returned (.int .i64 (k : Int)) ∧ w' = W := fun j hj => by
    obtain ⟨k, hk, h⟩ := pickj_any w.heap.size la nl cl (j : Int) 5 w hJ (by omega) (by omega) hcap hcap2 (by omega) (by omega)
    exact ⟨k, hk, fun W hW => h W (fun b hb => hW.block b (by omega))⟩
  have htk : ∀ k, k < n → tkl (L.take (k + 1)) = tkl (L.take k) ++ [((tg L k).1, tbs (tg L k).2.1)] := fun k hk => tkl_take (by omega)
  have hall : tkl (L.take n) = tkl L := by rw [← hL, List.take_length]
  have hz : tkl (L.take 0) = [] := rfl
  have HC := Lib.hid hc; have HPK := Lib.hid hpk; have HTK := Lib.hid htk; have HALL := Lib.hid hall; have HKD := Lib.hid hkd
  have HNB2 := Lib.hid nb2; have HKQ2 := Lib.hid kq2; have HB2 := Lib.hid hb2
  have HW1 := Lib.hid hW1; have HW2 := Lib.hid hW2; have HS1 := Lib.hid hs1
  obtain ⟨TK, hTK⟩ : ∃ f : Nat → List (Int × ByteArray), (fun k => tkl (L.take k)) = f := ⟨_, rfl⟩
  have HT0 : Hid (TK 0 = []) := Lib.hid (by rw [← hTK]; rfl)
  have HTN : Hid (TK n = tkl L) := Lib.hid (by rw [← hTK]; exact hall)
  have HTS : Hid (∀ k, k < n → TK (k + 1) = TK k ++ [((tg L k).1, tbs (tg L k).2.1)]) := Lib.hid (by rw [← hTK]; exact htk)
  clear hc hpk htk hall hkd nb2 kq2 kq1 hb2 hW1 hW2 hs1 hcl hz hJ HTK HALL hTK
  rw [hq]
  clear hq
  go_enter Tryd.func37, Tryd.ntmps37
  go_wp2_with fail
  rw [HQ.out, show w.alloc (.cells #[.int .i64 0, .int .i64 0, .string ⟨#[]⟩, .slice none 0 0] 60) = W1 from HW1.out]
  try rw [HS1.out]
  rw [show W1.alloc (.cells #[.int .i64 0, .int .i64 16, .string ⟨#[]⟩, .slice none 0 0] 60) = W2 from HW2.out]
  obtain ⟨i3, hi3, iy0, iy1, iy2⟩ := info_parts infoNd
  go_loopw [6] (fun v6 wr => ∃ (i : Nat) (ks : List Nd) (us : List (Option Addr × Nat × Nat)) (a : Option Addr) (m c : Nat), v6 = .int .i64 (i : Int) ∧ i ≤ n ∧ m ≤ i ∧ Hid (NB (q + 1) wr 16 ks us a m c) ∧ Hid (Blk wr q 60 #[.int .i64 0, .int .i64 0, .string ⟨#[]⟩, .slice none 0 0]) ∧ Hid (Below q w wr) ∧ Hid (Gk [] (3 * i) (TK i) ks)) (fun v6 _ => n - (intOf v6).toNat)
  case atStart => exact ⟨0, [], [], none, 0, 0, rfl, Nat.zero_le _, Nat.zero_le _, HNB2, HKQ2, HB2, by rw [HT0.out]; exact Gk.nil _ _⟩
  case round =>
    obtain ⟨i, ks, us, a, m, c, rfl, hi, hmi, HNB, HKQ, HB, HG⟩ := hrel
    by_cases hlt : i < n
    · have hltz : (i : Int) < (n : Int) := by omega
      obtain ⟨k, hk, hpick⟩ := HPK.out m (by omega)
      have CP := Lib.hid (hpick wr HB.out)
      have s3 : wr.cell? ⟨q + 1, 3, none⟩ = some (.slice a m c) := HNB.out.blk.cell 3
      clear hpick
      go_wp2_with fail
      refine CP.out.mono ?_
      rintro e w' ⟨rfl, rfl⟩
      obtain ⟨x1, hx1⟩ : ∃ x : Int, 17 + (k : Int) = x := ⟨_, rfl⟩
      have hwr : IntKind.i64.wrap (17 + (k : Int)) = x1 := by rw [← hx1]; simp [IntKind.wrap, IntKind.signed, IntKind.bits]; omega
      have hx8 : 8 < x1 := by omega
      obtain ⟨r, hr⟩ : ∃ r, w'.heap.size = r := ⟨_, rfl⟩
      obtain ⟨W5, hW5⟩ : ∃ W, w'.alloc (.cells #[.int .i64 0, .int .i64 x1, .string ⟨#[]⟩, .slice none 0 0] 60) = W := ⟨_, rfl⟩
      have nb5 := NB.new w' x1
      rw [hr, hW5] at nb5
      have b5 : Below r w' W5 := by rw [← hW5]; exact (Below.refl _ _).alloc (by omega) _
      have HNB5 := Lib.hid nb5; have HB5 := Lib.hid b5; have HW5 := Lib.hid hW5; have HR := Lib.hid hr
      clear nb5 b5 hW5 hr hx1 s3
      go_wp2_with fail
      rw [HR.out, show w'.alloc (.cells #[.int .i64 0, .int .i64 x1, .string ⟨#[]⟩, .slice none 0 0] 60) = W5 from HW5.out]
      go_loopw [6, 9] (fun v6 v9 V => ∃ (j kk : Nat) (y1 : Int) (gs : List Nd) (gu : List (Option Addr × Nat × Nat)) (b : Option Addr) (gm gc : Nat), v6 = .int .i64 (j : Int) ∧ v9 = .int .i64 (kk : Int) ∧ j = i + kk ∧ kk ≤ k ∧ j ≤ n ∧ 8 < y1 ∧ gm ≤ kk ∧ Hid (NB r V y1 gs gu b gm gc) ∧ Hid (Below r w' V) ∧ Hid (Gk (TK i) (2 * kk) (TK j) gs)) (fun _ v9 _ => k - (intOf v9).toNat)
      case atStart => exact ⟨i, 0, x1, [], [], none, 0, 0, rfl, rfl, rfl, Nat.zero_le _, hi, hx8, Nat.zero_le _, HNB5, HB5, Gk.nil _ _⟩
      case round =>
        obtain ⟨j, kk, y1, gs, gu, b, gm, gc, rfl, rfl, hj, hkk, hjn, hy8, hgm, HNBg, HBg, HGg⟩ := hrel
        by_cases hin : kk < k ∧ j < n
        · have hin1 : (kk : Int) < (k : Int) := by omega
          have hin2 : (j : Int) < (n : Int) := by omega
          have hqr : q + 2 ≤ r := by have := Blk.lt HNB.out.blk; have := HR.out; omega
          have HBW : Hid (Below q w wr) := HB.out.trans (HBg.out.mono (by omega))
          obtain ⟨g, hg, c0, c1⟩ := HC.out wr HBW.out j hin.2
          have hkj := HKD.out j hin.2
          have hts := HTS.out j hin.2
          obtain ⟨kd, hkd⟩ : ∃ x, (tg L j).1 = x := ⟨_, rfl⟩
          obtain ⟨tx, htx⟩ : ∃ x, tbs (tg L j).2.1 = x := ⟨_, rfl⟩
          rw [hkd] at c0 hkj hts
          rw [htx] at c1 hts
          have HTJ := Lib.hid hts
          have hj0 : (0 : Int) ≤ (j : Int) := by omega
          have hwr9 : IntKind.i64.wrap ((kk : Int) + 1) = ((kk + 1 : Nat) : Int) := by simp [IntKind.wrap, IntKind.signed, IntKind.bits]; omega
          have hwr6 : IntKind.i64.wrap ((j : Int) + 1) = ((j + 1 : Nat) : Int) := by simp [IntKind.wrap, IntKind.signed, IntKind.bits]; omega
          subst hg
          have HJK := Lib.hid hj
          have bz : Below q w ((wr.alloc (.cells #[.int .i64 0, .int .i64 0, .string ⟨#[]⟩, .slice none 0 0] 60)).drew) := ((HBW.out.alloc (by have := HBg.out.size; have := Blk.lt HNBg.out.blk; omega) _)).drew
          obtain ⟨g', hg', c0', c1'⟩ := HC.out _ bz j hin.2
          simp only [Option.some.injEq, Addr.mk.injEq, and_true] at hg'
          subst hg'
          rw [hkd] at c0'
          rw [htx] at c1'
          clear hts hkd htx hj bz
          go_wp2_with fail
          go_region
          obtain ⟨V, hV⟩ : ∃ V, (wr.alloc (.cells #[.int .i64 0, .int .i64 kd, .string tx, .slice none 0 0] 60)).drew = V := ⟨_, rfl⟩
          obtain ⟨x, hx⟩ : ∃ x, wr.heap.size = x := ⟨_, rfl⟩
          have hzV : V.heap.size = x + 1 := by rw [← hV, ← hx]; show (wr.alloc _).heap.size = _; rw [World.size_alloc]
          have hbV : ∀ b, b < wr.heap.size → V.heap[b]? = wr.heap[b]? := fun b hb => by rw [← hV]; exact Below.heap_alloc wr _ b hb
          have kx : Blk V x 60 #[.int .i64 0, .int .i64 kd, .string tx, .slice none 0 0] := by rw [← hV, ← hx]; exact Blk.new _ _ _
          have nbV := HNBg.out.keep (W' := V) (by omega) hbV
          have hrx : r < x := by have := Blk.lt HNBg.out.blk; omega
          have HBV : Hid (Below r w' V) := by rw [← hV]; exact (HBg.out.alloc (by omega) _).drew
          have e0 : V.cell? ⟨x, 0, none⟩ = some (.int .i64 0) := kx.cell 0
          have e1 : V.cell? ⟨x, 1, none⟩ = some (.int .i64 kd) := kx.cell 1
          have e2 : V.cell? ⟨x, 2, none⟩ = some (.string tx) := kx.cell 2
          have e3 : V.cell? ⟨x, 3, none⟩ = some (.slice none 0 0) := kx.cell 3
          have HNBV := Lib.hid nbV
          have HV := Lib.hid hV; have HX := Lib.hid hx; have HZV := Lib.hid hzV
          rw [HV.out, HX.out]
          clear c0 c1 c0' c1' hV hbV kx nbV hx hzV
          by_cases h2 : kk = 2
          · subst h2
            have d0 : V.cell? ⟨r, 0, none⟩ = some (.int .i64 0) := HNBV.out.blk.cell 0
            have d1 : V.cell? ⟨r, 1, none⟩ = some (.int .i64 y1) := HNBV.out.blk.cell 1
            have d2 : V.cell? ⟨r, 2, none⟩ = some (.string ⟨#[]⟩) := HNBV.out.blk.cell 2
            have d3 : V.cell? ⟨r, 3, none⟩ = some (.slice b gm gc) := HNBV.out.blk.cell 3
            obtain ⟨w6, hw6⟩ : ∃ w6, V.alloc (.cells #[.int .i64 0, .int .i64 y1, .string ⟨#[]⟩, .slice b gm gc, .int .i64 0, .int .i64 kd, .string tx, .slice none 0 0] 60) = w6 := ⟨_, rfl⟩
            have k6 : Blk w6 r 60 #[.int .i64 0, .int .i64 y1, .string ⟨#[]⟩, .slice b gm gc] := by rw [← hw6]; exact HNBV.out.blk.alloc _
            have f0 := k6.cell 0
            have f1 := k6.cell 1
            have f2 := k6.cell 2
            have f3 := k6.cell 3
            simp only [List.getElem?_toArray, List.getElem?_cons_zero, List.getElem?_cons_succ] at f0 f1 f2 f3
            have z0 := k6.frozen 0
            have z1 := k6.frozen 1
            have z2 := k6.frozen 2
            have z3 := k6.frozen 3
            have HW6 := Lib.hid hw6
            rw [← hw6] at f0 f1 f2 f3 z0 z1 z2 z3
            clear k6 hw6
            have HHK := Lib.hid hkj
            clear hkj
            go_wp2_with fail
            go_roundw
            case rel =>
              obtain ⟨nb7, hb7⟩ := HNBV.out.two kd tx _ rfl _ rfl
              refine ⟨j + 1, 2 + 1, 30, _, _, _, 2, 2, by go_num, by go_num, by have := HJK.out; omega, by omega, by omega, by omega, by omega, nb7, HBV.out.trans hb7, ?_⟩
              rw [HTJ.out]
              exact HGg.out.two hy8 HHK.out (by omega)
            case measure => simp only [RowKit.intOf, Int.toNat_natCast]; omega
          · have h2z : ((kk : Int) == 2) = false := beq_eq_false_iff_ne.2 (by omega)
            have d3 : V.cell? ⟨r, 3, none⟩ = some (.slice b gm gc) := HNBV.out.blk.cell 3
            obtain ⟨U, hU⟩ : ∃ U, V.alloc (.cells #[.int .i64 0, .int .i64 kd, .string tx, .slice none 0 0] 60) = U := ⟨_, rfl⟩
            have hlen := HNBV.out.len
            have HOa : Hid (U.ownsRow (r + 1) 60 4 (.slice b gm gc) gm (kcs gs gu)) := by
              have h1 := HNBV.out.row.own
              rw [hlen] at h1
              rw [← hU]
              exact own_same h1 (fun g hg => Below.heap_alloc _ _ g (h1.lt g hg).2)
            have HNW : Hid (∀ (j : Nat) (u : Value), ([.int .i64 0, .int .i64 kd, .string tx, .slice none 0 0] : List Value)[j]? = some u → U.cell? ((⟨V.heap.size, 0, none⟩ : Addr).add j) = some u) := Lib.hid (by
              rw [← hU]
              exact World.news_of_block (cs := #[.int .i64 0, .int .i64 kd, .string tx, .slice none 0 0]) (t := 60) (fr := (0, 0)) (World.alloc_heap_new V _))
            have HONE : Hid (∀ u ∈ ([.int .i64 0, .int .i64 kd, .string tx, .slice none 0 0] : List Value), u.oneCell' = true) := Lib.hid (fun x hx => by simp at hx; rcases hx with rfl | rfl | rfl | rfl <;> rfl)
            have hbase : r + 1 ≤ U.heap.size := by rw [← hU, World.size_alloc]; have := HZV.out; omega
            have HU := Lib.hid hU
            have HHK := Lib.hid hkj
            clear hU hlen hkj
            go_wp2_with (at_builtin; rw [show V.alloc (.cells #[.int .i64 0, .int .i64 kd, .string tx, .slice none 0 0] 60) = U from HU.out]; refine wpList_append_own_at _ rfl _ _ 58 rfl (r + 1) 60 i3 _ 4 56 Tryd.underlying58 hi3 iy0 iy1 iy2 rfl (by decide) (.slice b gm gc) gm (kcs gs gu) rfl HOa.out ⟨V.heap.size, 0, none⟩ 1 1 [.int .i64 0, .int .i64 kd, .string tx, .slice none 0 0] rfl rfl HNW.out HONE.out (by unfold maxLen; omega) (by omega) hbase ?_; intro v6 w6 hown6 hgrow6 hnn6 hat6; obtain ⟨gg, c1, rfl, s7, f7, nb7, hb7⟩ := NB.app2 (t := .mk 0 kd tx []) (ka := none) (kn := 0) (kc := 0) HNBV.out (.nil (fun _ => rfl) (by omega)) hown6 (show (V.alloc (.cells #[.int .i64 0, .int .i64 kd, .string tx, .slice none 0 0] 60)).grownBy w6 _ from by rw [HU.out]; exact hgrow6) (show _ ∨ _ = some (V.alloc (.cells #[.int .i64 0, .int .i64 kd, .string tx, .slice none 0 0] 60)).heap.size from by rw [HU.out]; exact hat6); have HNB7 := Lib.hid nb7; have HB7 := Lib.hid hb7; clear hown6 hgrow6 hnn6 hat6 nb7 hb7)
            go_roundw
            case rel =>
              refine ⟨j + 1, kk + 1, y1, _, _, _, gm + 1, c1, by go_num, by go_num, by have := HJK.out; omega, by omega, by omega, hy8, by omega, HNB7, HBV.out.trans HB7.out, ?_⟩
              rw [HTJ.out]
              exact HGg.out.leaf HHK.out (by omega)
            case measure => simp only [RowKit.intOf, Int.toNat_natCast]; omega
        · have hqr : q + 2 ≤ r := by have := Blk.lt HNB.out.blk; have := HR.out; omega
          have HBW : Hid (Below q w wr) := HB.out.trans (HBg.out.mono (by omega))
          have nbr := HNB.out.keep (W' := wr) (by have := HBg.out.size; have := HR.out; have := Blk.lt HNBg.out.blk; omega) (fun b hb => HBg.out.block b (by have := HR.out; omega))
          have hroot : ∀ g0, (Value.slice a m c).ownBlock = some g0 → g0 < r := fun g0 h => by have := (HNB.out.row.own.lt g0 h).2; have := HR.out; omega
          have kqr := HKQ.out.same (HBg.out.block q (by omega))
          have HNBR := Lib.hid nbr; have HRO := Lib.hid hroot; have HKQR := Lib.hid kqr
          have s3 : wr.cell? ⟨q + 1, 3, none⟩ = some (.slice a m c) := HNBR.out.blk.cell 3
          have hlenr := HNBR.out.len
          have HJK := Lib.hid hj
          clear nbr hroot kqr hj
          by_cases hk0 : k = 0
          · subst hk0
            obtain rfl : kk = 0 := by omega
            obtain rfl : i = j := by have := HJK.out; omega
            obtain ⟨g, hg, c0, c1⟩ := HC.out wr HBW.out i hlt
            have hkj := HKD.out i hlt
            have hts := HTS.out i hlt
            obtain ⟨kd, hkd⟩ : ∃ x, (tg L i).1 = x := ⟨_, rfl⟩
            obtain ⟨tx, htx⟩ : ∃ x, tbs (tg L i).2.1 = x := ⟨_, rfl⟩
            rw [hkd] at c0 hkj hts
            rw [htx] at c1 hts
            have HTJ := Lib.hid hts
            have HHK := Lib.hid hkj
            have hi0 : (0 : Int) ≤ (i : Int) := by omega
            have d0 : wr.cell? ⟨r, 0, none⟩ = some (.int .i64 0) := HNBg.out.blk.cell 0
            have d1 : wr.cell? ⟨r, 1, none⟩ = some (.int .i64 y1) := HNBg.out.blk.cell 1
            have d2 : wr.cell? ⟨r, 2, none⟩ = some (.string ⟨#[]⟩) := HNBg.out.blk.cell 2
            have d3 : wr.cell? ⟨r, 3, none⟩ = some (.slice b gm gc) := HNBg.out.blk.cell 3
            have z0 := HNBg.out.blk.frozen 0
            have z1 := HNBg.out.blk.frozen 1
            have z2 := HNBg.out.blk.frozen 2
            have z3 := HNBg.out.blk.frozen 3
            have hwr6 : IntKind.i64.wrap ((i : Int) + 1) = ((i + 1 : Nat) : Int) := by simp [IntKind.wrap, IntKind.signed, IntKind.bits]; omega
            subst hg
            clear hts hkj hkd htx hin
            go_wp2_with fail
            go_region
            obtain ⟨V, hV⟩ : ∃ V, ((((wr.setCell ⟨r, 0, none⟩ (.int .i64 0)).setCell ⟨r, 1, none⟩ (.int .i64 kd)).setCell ⟨r, 2, none⟩ (.string tx)).setCell ⟨r, 3, none⟩ (.slice none 0 0)).drew = V := ⟨_, rfl⟩
            have hb : ∀ b, b ≠ r → V.heap[b]? = wr.heap[b]? := fun b hb => by
              rw [← hV]
              exact (((Below.heap_setCell _ ⟨r, 3, none⟩ _ b hb).trans (Below.heap_setCell _ ⟨r, 2, none⟩ _ b hb)).trans (Below.heap_setCell _ ⟨r, 1, none⟩ _ b hb)).trans (Below.heap_setCell _ ⟨r, 0, none⟩ _ b hb)
            have hz : V.heap.size = wr.heap.size := by rw [← hV]; simp [World.setCell]
            have kV : Blk V r 60 #[.int .i64 0, .int .i64 kd, .string tx, .slice none 0 0] := by
              rw [← hV]
              have h := (((Blk.set HNBg.out.blk 0 (.int .i64 0)).set 1 (.int .i64 kd)).set 2 (.string tx)).set 3 (.slice none 0 0)
              have h2 : Blk ((((wr.setCell ⟨r, 0, none⟩ (.int .i64 0)).setCell ⟨r, 1, none⟩ (.int .i64 kd)).setCell ⟨r, 2, none⟩ (.string tx)).setCell ⟨r, 3, none⟩ (.slice none 0 0)) r 60 #[.int .i64 0, .int .i64 kd, .string tx, .slice none 0 0] := by simpa using h
              exact h2
            have hbV : Below r w' V := by
              rw [← hV]
              exact ((((HBg.out.setCell (p := ⟨r, 0, none⟩) (Nat.le_refl _) _).setCell (p := ⟨r, 1, none⟩) (Nat.le_refl _) _).setCell (p := ⟨r, 2, none⟩) (Nat.le_refl _) _).setCell (p := ⟨r, 3, none⟩) (Nat.le_refl _) _).drew
            have hrw : r < wr.heap.size := Blk.lt HNBg.out.blk
            have nbR : NB (q + 1) V 16 ks us a m c := HNB.out.keep (by have := HR.out; omega) (fun b hlt => hbV.block b (by have := HR.out; omega))
            have HNBV := Lib.hid nbR
            have HKQV : Hid (Blk V q 60 #[.int .i64 0, .int .i64 0, .string ⟨#[]⟩, .slice none 0 0]) := HKQ.out.same (hbV.block q (by omega))
            have HBV : Hid (Below q w V) := HB.out.trans (hbV.mono (by omega))
            have t3 : V.cell? ⟨q + 1, 3, none⟩ = some (.slice a m c) := HNBV.out.blk.cell 3
            have p0 : V.cell? ⟨r, 0, none⟩ = some (.int .i64 0) := kV.cell 0
            have p1 : V.cell? ⟨r, 1, none⟩ = some (.int .i64 kd) := kV.cell 1
            have p2 : V.cell? ⟨r, 2, none⟩ = some (.string tx) := kV.cell 2
            have p3 : V.cell? ⟨r, 3, none⟩ = some (.slice none 0 0) := kV.cell 3
            obtain ⟨U, hU⟩ : ∃ U, V.alloc (.cells #[.int .i64 0, .int .i64 kd, .string tx, .slice none 0 0] 60) = U := ⟨_, rfl⟩
            have HOa : Hid (U.ownsRow (q + 1 + 1) 60 4 (.slice a m c) m (kcs ks us)) := by
              have h1 := HNBV.out.row.own
              rw [hlenr] at h1
              rw [← hU]
              exact own_same h1 (fun g hg => Below.heap_alloc _ _ g (h1.lt g hg).2)
            have HNW : Hid (∀ (j : Nat) (u : Value), ([.int .i64 0, .int .i64 kd, .string tx, .slice none 0 0] : List Value)[j]? = some u → U.cell? ((⟨V.heap.size, 0, none⟩ : Addr).add j) = some u) := Lib.hid (by
              rw [← hU]
              exact World.news_of_block (cs := #[.int .i64 0, .int .i64 kd, .string tx, .slice none 0 0]) (t := 60) (fr := (0, 0)) (World.alloc_heap_new V _))
            have HONE : Hid (∀ u ∈ ([.int .i64 0, .int .i64 kd, .string tx, .slice none 0 0] : List Value), u.oneCell' = true) := Lib.hid (fun x hx => by simp at hx; rcases hx with rfl | rfl | rfl | rfl <;> rfl)
            have hbase : q + 1 + 1 ≤ U.heap.size := by rw [← hU, World.size_alloc]; omega
            have HU := Lib.hid hU
            have HV := Lib.hid hV
            rw [HV.out]
            clear hU hlenr hV hb hz kV hbV hrw nbR d0 d1 d2 d3 z0 z1 z2 z3 c0 c1 s3
            go_wp2_with (at_builtin; rw [show V.alloc (.cells #[.int .i64 0, .int .i64 kd, .string tx, .slice none 0 0] 60) = U from HU.out]; refine wpList_append_own_at _ rfl _ _ 58 rfl (q + 1 + 1) 60 i3 _ 4 56 Tryd.underlying58 hi3 iy0 iy1 iy2 rfl (by decide) (.slice a m c) m (kcs ks us) rfl HOa.out ⟨V.heap.size, 0, none⟩ 1 1 [.int .i64 0, .int .i64 kd, .string tx, .slice none 0 0] rfl rfl HNW.out HONE.out (by unfold maxLen; omega) (by omega) hbase ?_; intro v6 w6 hown6 hgrow6 hnn6 hat6; obtain ⟨gg, c1, rfl, s7, f7, nb7, hb7⟩ := NB.app2 (t := .mk 0 kd tx []) (ka := none) (kn := 0) (kc := 0) HNBV.out (.nil (fun _ => rfl) (by omega)) hown6 (show (V.alloc (.cells #[.int .i64 0, .int .i64 kd, .string tx, .slice none 0 0] 60)).grownBy w6 _ from by rw [HU.out]; exact hgrow6) (show _ ∨ _ = some (V.alloc (.cells #[.int .i64 0, .int .i64 kd, .string tx, .slice none 0 0] 60)).heap.size from by rw [HU.out]; exact hat6); have HNB7 := Lib.hid nb7; have HB7 := Lib.hid hb7; clear hown6 hgrow6 hnn6 hat6 nb7 hb7)
            go_roundw
            case rel =>
              refine ⟨i + 1, _, _, _, m + 1, c1, by go_num, by omega, by omega, HNB7, HKQV.out.same (HB7.out.block q (by omega)), HBV.out.trans (HB7.out.mono (by omega)), ?_⟩
              rw [HTJ.out]
              exact HG.out.leaf HHK.out (by omega)
            case measure => simp only [RowKit.intOf, Int.toNat_natCast]; omega
          · have hk0z : ((k : Int) == 0) = false := beq_eq_false_iff_ne.2 (by omega)
            have hex : (¬ (kk : Int) < (k : Int) ∧ 0 < kk) ∨ ((kk : Int) < (k : Int) ∧ ¬ (j : Int) < (n : Int) ∧ 0 < kk) := by
              have := HJK.out
              by_cases h : kk < k
              · have h2 : ¬ j < n := fun h2 => hin ⟨h, h2⟩
                exact .inr ⟨by omega, by omega, by omega⟩
              · exact .inl ⟨by omega, by omega⟩
            have d0 : wr.cell? ⟨r, 0, none⟩ = some (.int .i64 0) := HNBg.out.blk.cell 0
            have d1 : wr.cell? ⟨r, 1, none⟩ = some (.int .i64 y1) := HNBg.out.blk.cell 1
            have d2 : wr.cell? ⟨r, 2, none⟩ = some (.string ⟨#[]⟩) := HNBg.out.blk.cell 2
            have d3 : wr.cell? ⟨r, 3, none⟩ = some (.slice b gm gc) := HNBg.out.blk.cell 3
            obtain ⟨U, hU⟩ : ∃ U, wr.alloc (.cells #[.int .i64 0, .int .i64 y1, .string ⟨#[]⟩, .slice b gm gc] 60) = U := ⟨_, rfl⟩
            have HOa : Hid (U.ownsRow (q + 1 + 1) 60 4 (.slice a m c) m (kcs ks us)) := by
              have h1 := HNBR.out.row.own
              rw [hlenr] at h1
              rw [← hU]
              exact own_same h1 (fun g hg => Below.heap_alloc _ _ g (h1.lt g hg).2)
            have HNW : Hid (∀ (j : Nat) (u : Value), ([.int .i64 0, .int .i64 y1, .string ⟨#[]⟩, .slice b gm gc] : List Value)[j]? = some u → U.cell? ((⟨wr.heap.size, 0, none⟩ : Addr).add j) = some u) := Lib.hid (by
              rw [← hU]
              exact World.news_of_block (cs := #[.int .i64 0, .int .i64 y1, .string ⟨#[]⟩, .slice b gm gc]) (t := 60) (fr := (0, 0)) (World.alloc_heap_new wr _))
            have HONE : Hid (∀ u ∈ ([.int .i64 0, .int .i64 y1, .string ⟨#[]⟩, .slice b gm gc] : List Value), u.oneCell' = true) := Lib.hid (fun x hx => by simp at hx; rcases hx with rfl | rfl | rfl | rfl <;> rfl)
            have hbase : q + 1 + 1 ≤ U.heap.size := by rw [← hU, World.size_alloc]; have := Blk.lt HNBg.out.blk; omega
            have HKV : Hid (KV (fun b' => q + 1 + 1 ≤ b' ∧ (Value.slice a m c).ownBlock ≠ some b') wr b gm gc gs) := HNBg.out.kv.keep (Nat.le_refl _) (fun _ _ _ => rfl) (fun b' hb _ => ⟨by omega, fun e => by have := HRO.out b' e; omega⟩)
            have HU := Lib.hid hU
            have HIN := Lib.hid hin
            clear hU hlenr hin
            rcases hex with ⟨hx1, hkp⟩ | ⟨hx1, hx2, hkp⟩
            all_goals
              go_wp2_with (at_builtin; rw [show wr.alloc (.cells #[.int .i64 0, .int .i64 y1, .string ⟨#[]⟩, .slice b gm gc] 60) = U from HU.out]; refine wpList_append_own_at _ rfl _ _ 58 rfl (q + 1 + 1) 60 i3 _ 4 56 Tryd.underlying58 hi3 iy0 iy1 iy2 rfl (by decide) (.slice a m c) m (kcs ks us) rfl HOa.out ⟨wr.heap.size, 0, none⟩ 1 1 [.int .i64 0, .int .i64 y1, .string ⟨#[]⟩, .slice b gm gc] rfl rfl HNW.out HONE.out (by unfold maxLen; omega) (by omega) hbase ?_; intro v6 w6 hown6 hgrow6 hnn6 hat6; obtain ⟨gg, c1, rfl, s7, f7, nb7, hb7⟩ := NB.app2 (t := .mk 0 y1 ⟨#[]⟩ gs) (ka := b) (kn := gm) (kc := gc) HNBR.out HKV.out hown6 (show (wr.alloc (.cells #[.int .i64 0, .int .i64 y1, .string ⟨#[]⟩, .slice b gm gc] 60)).grownBy w6 _ from by rw [HU.out]; exact hgrow6) (show _ ∨ _ = some (wr.alloc (.cells #[.int .i64 0, .int .i64 y1, .string ⟨#[]⟩, .slice b gm gc] 60)).heap.size from by rw [HU.out]; exact hat6); have HNB7 := Lib.hid nb7; have HB7 := Lib.hid hb7; clear hown6 hgrow6 hnn6 hat6 nb7 hb7)
              go_roundw
              case rel => exact ⟨j, _, _, _, m + 1, c1, rfl, hjn, by have := HJK.out; omega, HNB7, HKQR.out.same (HB7.out.block q (by omega)), HBW.out.trans (HB7.out.mono (by omega)), HG.out.group HGg.out hy8 (by have := HJK.out; omega)⟩
              case measure => have := HJK.out; simp only [RowKit.intOf, Int.toNat_natCast]; omega
    · obtain rfl : n = i := by omega
      have hltz : ¬ (n : Int) < (n : Int) := by omega
      have hqs : q + 1 < wr.heap.size := Blk.lt HNB.out.blk
      have d0 : wr.cell? ⟨q + 1, 0, none⟩ = some (.int .i64 0) := HNB.out.blk.cell 0
      have d1 : wr.cell? ⟨q + 1, 1, none⟩ = some (.int .i64 16) := HNB.out.blk.cell 1
      have d2 : wr.cell? ⟨q + 1, 2, none⟩ = some (.string ⟨#[]⟩) := HNB.out.blk.cell 2
      have d3 : wr.cell? ⟨q + 1, 3, none⟩ = some (.slice a m c) := HNB.out.blk.cell 3
      have e0 : wr.cell? ⟨q, 0, none⟩ = some (.int .i64 0) := HKQ.out.cell 0
      have e1 : wr.cell? ⟨q, 1, none⟩ = some (.int .i64 0) := HKQ.out.cell 1
      have e2 : wr.cell? ⟨q, 2, none⟩ = some (.string ⟨#[]⟩) := HKQ.out.cell 2
      have e3 : wr.cell? ⟨q, 3, none⟩ = some (.slice none 0 0) := HKQ.out.cell 3
      have y0 := Blk.frozen HKQ.out 0
      have y1 := Blk.frozen HKQ.out 1
      have y2 := Blk.frozen HKQ.out 2
      have y3 := Blk.frozen HKQ.out 3
      have HFIN : Hid (Blk ((((wr.setCell ⟨q, 0, none⟩ (.int .i64 0)).setCell ⟨q, 1, none⟩ (.int .i64 16)).setCell ⟨q, 2, none⟩ (.string ⟨#[]⟩)).setCell ⟨q, 3, none⟩ (.slice a m c)) q 60 #[.int .i64 0, .int .i64 16, .string ⟨#[]⟩, .slice a m c] ∧
          ∃ t a' m' c', (Ending.returned (.agg #[.int .i64 0, .int .i64 16, .string ⟨#[]⟩, .slice a m c])) = .returned (ndv t a' m' c') ∧ KV (fun b => q ≤ b) ((((wr.setCell ⟨q, 0, none⟩ (.int .i64 0)).setCell ⟨q, 1, none⟩ (.int .i64 16)).setCell ⟨q, 2, none⟩ (.string ⟨#[]⟩)).setCell ⟨q, 3, none⟩ (.slice a m c)) a' m' c' t.kids ∧ t.tidy ∧ t.lf = tkl L ∧ t.cnt ≤ 1201 ∧ Below q w ((((wr.setCell ⟨q, 0, none⟩ (.int .i64 0)).setCell ⟨q, 1, none⟩ (.int .i64 16)).setCell ⟨q, 2, none⟩ (.string ⟨#[]⟩)).setCell ⟨q, 3, none⟩ (.slice a m c))) := by
        obtain ⟨W', hW'⟩ : ∃ W', (((wr.setCell ⟨q, 0, none⟩ (.int .i64 0)).setCell ⟨q, 1, none⟩ (.int .i64 16)).setCell ⟨q, 2, none⟩ (.string ⟨#[]⟩)).setCell ⟨q, 3, none⟩ (.slice a m c) = W' := ⟨_, rfl⟩
        have hb : ∀ b, b ≠ q → W'.heap[b]? = wr.heap[b]? := fun b hb => by
          rw [← hW']
          exact (((Below.heap_setCell _ ⟨q, 3, none⟩ _ b hb).trans (Below.heap_setCell _ ⟨q, 2, none⟩ _ b hb)).trans (Below.heap_setCell _ ⟨q, 1, none⟩ _ b hb)).trans (Below.heap_setCell _ ⟨q, 0, none⟩ _ b hb)
        have hz : W'.heap.size = wr.heap.size := by rw [← hW']; simp [World.setCell]
        have hk0 : Blk W' q 60 #[.int .i64 0, .int .i64 16, .string ⟨#[]⟩, .slice a m c] := by
          rw [← hW']
          have h := (((Blk.set HKQ.out 0 (.int .i64 0)).set 1 (.int .i64 16)).set 2 (.string ⟨#[]⟩)).set 3 (.slice a m c)
          simpa using h
        have hbw : Below q w W' := by
          rw [← hW']
          exact (((HB.out.setCell (p := ⟨q, 0, none⟩) (Nat.le_refl _) _).setCell (p := ⟨q, 1, none⟩) (Nat.le_refl _) _).setCell (p := ⟨q, 2, none⟩) (Nat.le_refl _) _).setCell (p := ⟨q, 3, none⟩) (Nat.le_refl _) _
        rw [hW']
        have hn16 : ¬ ((0 : Int) ≤ 16 ∧ (16 : Int) ≤ 8) := by omega
        refine ⟨hk0, .mk 0 16 ⟨#[]⟩ ks, a, m, c, rfl, HNB.out.kv.keep (by omega) (fun b hb' hlt => hb b (by omega)) (fun b hb' hlt => by omega), ?_, ?_, ?_, hbw⟩
        · rw [Nd.tidy]; exact ⟨fun e => absurd e hn16, HG.out.tidy⟩
        · rw [Nd.lf, if_neg hn16, ← HTN.out, ← HG.out.lf, List.nil_append]
        · rw [Nd.cnt]; have := HG.out.cnt; omega
      go_wp2_with fail
      obtain ⟨z, hz⟩ := HFIN.out
      have z0 := z.cell 0
      have z1 := z.cell 1
      have z2 := z.cell 2
      have z3 := z.cell 3
      simp only [List.getElem?_toArray, List.getElem?_cons_zero, List.getElem?_cons_succ] at z0 z1 z2 z3
      refine bodyPost_ret (v := .agg #[.int .i64 0, .int .i64 16, .string ⟨#[]⟩, .slice a m c]) (by simp [results, Tryd.results37, go_sem, z0, z1, z2, z3]) rfl hz

end Go.Proofs.YtgfhhpodcnohpaaDoor

/- The reference's Equal. Conditions: trees of at most 100000 nodes. -/
namespace Go.Proofs.YtgfhhpodcnohpaaDoor
open Go.RowKit Go.Shelf
set_option linter.unusedVariables false

theorem seq_eq {a b : ByteArray} (h : a = b) : (a.toList == b.toList) = true := by subst h; simp
theorem seq_inj {a b : ByteArray} (h : a.toList = b.toList) : a = b := by
  rw [ByteArray.toList_eq, ByteArray.toList_eq] at h
  exact ByteArray.ext (Array.toList_inj.1 h)
theorem seq_ne {a b : ByteArray} (h : a ≠ b) : (a.toList == b.toList) = false := by
  rw [beq_eq_false_iff_ne]; exact fun e => h (seq_inj e)

mutual
/-- Trees are equal but for their IDs. -/
def Nd.eqv : Nd → Nd → Bool
  | .mk _ k x ks, .mk _ k' x' ks' => decide (k = k') && decide (x = x') && eqvs ks ks'
def eqvs : List Nd → List Nd → Bool
  | [], [] => true
  | a :: l, b :: l' => a.eqv b && eqvs l l'
  | [], _ :: _ => false
  | _ :: _, [] => false
end
theorem Nd.eqv_eq (s t : Nd) : s.eqv t = (decide (s.kind = t.kind) && decide (s.text = t.text) && eqvs s.kids t.kids) := by cases s; cases t; rw [Nd.eqv]; rfl
theorem eqvs_iff : ∀ (a b : List Nd), eqvs a b = true ↔ a.length = b.length ∧ ∀ i (h1 : i < a.length) (h2 : i < b.length), a[i].eqv b[i] = true
  | [], [] => by simp [eqvs]
  | [], _ :: _ => by simp [eqvs]
  | _ :: _, [] => by simp [eqvs]
  | x :: a, y :: b => by
    rw [eqvs, Bool.and_eq_true, eqvs_iff a b]
    constructor
    · rintro ⟨h1, h2, h3⟩
      refine ⟨by simp [h2], fun i g1 g2 => ?_⟩
      cases i with
      | zero => exact h1
      | succ i => exact h3 i (by simpa using g1) (by simpa using g2)
    · rintro ⟨h1, h2⟩
      exact ⟨h2 0 (by simp) (by simp), by simpa using h1, fun i g1 g2 => h2 (i + 1) (by simpa using g1) (by simpa using g2)⟩
theorem eqvs_no {a b : List Nd} {i : Nat} (h1 : i < a.length) (h2 : i < b.length) (h : a[i].eqv b[i] = false) : eqvs a b = false := by
  cases hc : eqvs a b with
  | false => rfl
  | true => have := ((eqvs_iff a b).1 hc).2 i h1 h2; rw [h] at this; cases this
theorem eqvs_len {a b : List Nd} (h : a.length ≠ b.length) : eqvs a b = false := by
  cases hc : eqvs a b with
  | false => rfl
  | true => exact absurd ((eqvs_iff a b).1 hc).1 h

end Go.Proofs.YtgfhhpodcnohpaaDoor

/- The reference's SameTokens. Conditions: at most 100000 tokens. -/
namespace Go.Proofs.YtgfhhpodcnohpaaDoor
open Go.RowKit Go.Shelf
set_option linter.unusedVariables false

/-- Tokens lie in memory, in blocks that lay in w. -/
def TkA (w : World) (a : Option Addr) (l : List (Int × ByteArray × Nat)) : Prop :=
  l = [] ∨ ∃ b off, a = some ⟨b, off, none⟩ ∧ b < w.heap.size ∧ ∀ k (h : k < l.length), w.cell? ⟨b, off + k * 3, none⟩ = some (.int .i64 (l[k]).1) ∧ w.cell? ⟨b, off + k * 3 + 1, none⟩ = some (.string (l[k]).2.1) ∧ w.cell? ⟨b, off + k * 3 + 2, none⟩ = some (.int .i64 ((l[k]).2.2 : Int))
theorem TkA.on {w w' : World} {a : Option Addr} {l : List (Int × ByteArray × Nat)} (h : TkA w a l) (hb : Below w.heap.size w w') : TkA w' a l := by
  rcases h with h | ⟨b, off, h1, h2, h3⟩
  · exact .inl h
  · refine .inr ⟨b, off, h1, by have := hb.size; omega, fun k hk => ?_⟩
    obtain ⟨c0, c1, c2⟩ := h3 k hk
    have e := hb.block b h2
    simp only [World.cell?, e] at c0 c1 c2 ⊢
    exact ⟨c0, c1, c2⟩
theorem take_same {α : Type} {xs ys : List α} {k : Nat} (h1 : k < xs.length) (h2 : k < ys.length) (h : xs.take k = ys.take k) (he : xs[k] = ys[k]) : xs.take (k + 1) = ys.take (k + 1) := by
  rw [List.take_succ_eq_append_getElem h1, List.take_succ_eq_append_getElem h2, h, he]
theorem take_diff {α : Type} {xs ys : List α} {k : Nat} (h1 : k < xs.length) (h2 : k < ys.length) (he : xs[k] ≠ ys[k]) : xs ≠ ys := by
  rintro rfl; exact he rfl

set_option maxRecDepth 100000 in
set_option maxHeartbeats 1000000 in
theorem sameTk_any (a b : Option Addr) (ca cb : Nat) (xs ys : List (Int × ByteArray × Nat)) (w : World) (hx : TkA w a xs) (hy : TkA w b ys) (hl : xs.length ≤ 100000) :
    Calls Tryd.prog 39 #[.slice a xs.length ca, .slice b ys.length cb] w fun e w' => e = .returned (.bool (decide (xs = ys))) ∧ Below w.heap.size w w' := by
  by_cases hne : xs.length = ys.length
  · have HX := Lib.hid hx
    have HY := Lib.hid hy
    obtain ⟨n, hn⟩ : ∃ n, xs.length = n := ⟨_, rfl⟩
    rw [← hne, hn]
    have hn2 : ys.length = n := by omega
    have HN := Lib.hid hn
    have HN2 := Lib.hid hn2
    have hln : n ≤ 100000 := by omega
    have hmx : Tryd.prog.follows .mixedOrders = true := by kernel_rfl
    clear hx hy hne hn hn2 hl
    go_enter Tryd.func39, Tryd.ntmps39
    go_wp2
    go_loopw [5] (fun i wr => ∃ k : Nat, k ≤ n ∧ i = .int .i64 k ∧ Hid (xs.take k = ys.take k) ∧ Hid (Below w.heap.size w wr)) (fun i _ => n - (intOf i).toNat)
    case atStart => exact ⟨0, Nat.zero_le _, rfl, rfl, Below.refl _ _⟩
    case round =>
      obtain ⟨k, hk, rfl, HTK, HB⟩ := hrel
      by_cases hlt : k < n
      · have hk1 : k < xs.length := by rw [HN.out]; exact hlt
        have hk2 : k < ys.length := by rw [HN2.out]; exact hlt
        rcases HX.out.on HB.out with h | ⟨b1, o1, h1, hb1, hc1⟩
        · exact absurd (congrArg List.length h) (by rw [HN.out]; simp; omega)
        rcases HY.out.on HB.out with h | ⟨b2, o2, h2, hb2, hc2⟩
        · exact absurd (congrArg List.length h) (by rw [HN2.out]; simp; omega)
        obtain ⟨c0, c1, c2⟩ := hc1 k hk1
        obtain ⟨d0, d1, d2⟩ := hc2 k hk2
        have HSTEP : Hid (xs[k] = ys[k] → xs.take (k + 1) = ys.take (k + 1)) := fun h => take_same hk1 hk2 HTK.out h
        have HSTOP : Hid (xs[k] ≠ ys[k] → xs ≠ ys) := fun h => take_diff hk1 hk2 h
        have hkk : (k : Int) < (n : Int) := by omega
        have m1 : IntKind.i64.wrap ((k : Int) + 1) = (k : Int) + 1 := by simp [IntKind.wrap, IntKind.signed, IntKind.bits]; omega
        obtain ⟨⟨x1, x2, x3⟩, hx⟩ : ∃ x, xs[k] = x := ⟨_, rfl⟩
        obtain ⟨⟨y1, y2, y3⟩, hy⟩ : ∃ x, ys[k] = x := ⟨_, rfl⟩
        rw [hx] at c0 c1 c2 HSTEP HSTOP
        rw [hy] at d0 d1 d2 HSTEP HSTOP
        dsimp only at c0 c1 c2 d0 d1 d2
        clear hc1 hc2 hx hy hb1 hb2 hk1 hk2
        subst h1 h2
        by_cases e : x1 = y1 ∧ x2 = y2 ∧ x3 = y3
        · obtain ⟨rfl, rfl, rfl⟩ := e
          have HS := Lib.hid (HSTEP.out rfl)
          have qt : (x2.toList == x2.toList) = true := by simp
          go_wp2
          go_region
          all_goals
            go_wp2
            go_roundw
            case rel => exact ⟨k + 1, by omega, by go_num, HS, HB.out.drew⟩
            case measure => simp [intOf]; omega
        · have HS := Lib.hid (HSTOP.out (fun h => e (by simp only [Prod.mk.injEq] at h; exact h)))
          by_cases e1 : x1 = y1
          · by_cases e2 : x2 = y2
            · have e3 : ¬ ((x3 : Int) = (y3 : Int)) := fun h => e ⟨e1, e2, by omega⟩
              subst e1 e2
              clear e
              go_wp2
              go_region
              all_goals
                go_wp2
                go_ret
                exact ⟨by rw [decide_eq_false HS.out]; rfl, HB.out.drew⟩
            · have e4 : ¬ (x2.toList = y2.toList) := fun h => e2 (seq_inj h)
              subst e1
              clear e e2
              go_wp2
              go_region
              all_goals
                go_wp2
                go_ret
                exact ⟨by rw [decide_eq_false HS.out]; rfl, HB.out.drew⟩
          · clear e
            go_wp2
            go_region
            all_goals
              go_wp2
              go_ret
              exact ⟨by rw [decide_eq_false HS.out]; rfl, HB.out.drew⟩
      · have hkn : k = n := by omega
        subst hkn
        go_wp2
        go_ret
        exact ⟨by rw [decide_eq_true (by have := HTK.out; rwa [List.take_of_length_le (by rw [HN.out]; omega), List.take_of_length_le (by rw [HN2.out]; omega)] at this)]; rfl, HB.out⟩
  · have hq : ((xs.length : Int) != (ys.length : Int)) = true := by simp; omega
    have hf : decide (xs = ys) = false := decide_eq_false (fun h => hne (by rw [h]))
    rw [hf]
    clear hf hne
    go_enter Tryd.func39, Tryd.ntmps39
    go_wp2
    go_ret
    exact ⟨rfl, Below.refl _ _⟩

end Go.Proofs.YtgfhhpodcnohpaaDoor

/- Trees whose leaves are tokens: the walk of SyntaxTokens. Conditions: the tables lie in memory. -/
namespace Go.Proofs.YtgfhhpodcnohpaaDoor
open Go.RowKit Go.Shelf
set_option linter.unusedVariables false

theorem newTk_a {w w' : World} {l : List (Int × ByteArray × Nat)} {u : Value} (h : NewTk w l u w') : ∃ a c, u = .slice a l.length c ∧ TkA w' a l := by
  have hrow := h.1
  obtain ⟨a, c, rfl⟩ := own_slice hrow
  refine ⟨a, c, rfl, ?_⟩
  by_cases h0 : l.length = 0
  · exact .inl (List.eq_nil_of_length_eq_zero h0)
  · obtain ⟨m, hm⟩ : ∃ m, l.length = m + 1 := ⟨l.length - 1, by omega⟩
    have h1 := hrow
    rw [hm] at h1
    obtain ⟨g, cp, h2⟩ := ownsRow_succ h1
    simp only [Value.slice.injEq] at h2
    obtain ⟨rfl, _, rfl⟩ := h2
    have hlt := (hrow.lt g rfl).2
    refine .inr ⟨g, 0, rfl, hlt, fun k hk => ?_⟩
    obtain ⟨t0, t1, t2⟩ := tkv_get l k hk
    exact ⟨by rw [Nat.zero_add, hrow.cellAt (k * 3) (by omega), t0], by rw [Nat.zero_add, hrow.cellAt (k * 3 + 1) (by omega), t1], by rw [Nat.zero_add, hrow.cellAt (k * 3 + 2) (by omega), t2]⟩

theorem lex_kinds : ∀ (N : Nat) (l : List Int) (p : Nat), l.length ≤ N → ∀ t ∈ lex l p, 0 ≤ t.1 ∧ t.1 ≤ 8 := by
  intro N
  induction N with
  | zero =>
    intro l p h
    have : l = [] := List.eq_nil_of_length_eq_zero (by omega)
    subst this
    intro t ht
    cases ht
  | succ N ih =>
    intro l p h t ht
    by_cases h0 : l = []
    · subst h0; cases ht
    · have hp := fst_pos h0
      rw [lex_step h0] at ht
      rcases List.mem_cons.1 ht with rfl | ht
      · exact fst_range l h0
      · exact ih _ _ (by rw [List.length_drop]; omega) t ht
/-- The program's tokens, as the reference's SameTokens reads them. -/
theorem tka_row {w : World} {L : List Tk} {n : Nat} {ga : Option Addr} (hL : L.length = n) (hcl : 0 < n → ∃ g, ga = some ⟨g, 0, none⟩ ∧ g < w.heap.size ∧ ∀ W : World, W.heap[g]? = w.heap[g]? → ∀ k, k < n → W.cell? ⟨g, k * 3, none⟩ = some (.int .i64 (tg L k).1) ∧ W.cell? ⟨g, k * 3 + 1, none⟩ = some (.string (tbs (tg L k).2.1)) ∧ W.cell? ⟨g, k * 3 + 2, none⟩ = some (.int .i64 ((tg L k).2.2 : Int))) :
    TkA w ga (L.map fun t => (t.1, tbs t.2.1, t.2.2)) := by
  by_cases h0 : n = 0
  · left
    rw [List.eq_nil_of_length_eq_zero (show L.length = 0 by omega)]
    rfl
  · right
    obtain ⟨g, rfl, hg, h⟩ := hcl (by omega)
    refine ⟨g, 0, rfl, hg, fun k hk => ?_⟩
    rw [List.length_map] at hk
    obtain ⟨p0, p1, p2⟩ := h w rfl k (by omega)
    have ht : tg L k = L[k] := by unfold tg; rw [List.getElem?_eq_getElem hk]; rfl
    rw [ht] at p0 p1 p2
    rw [Nat.zero_add, List.getElem_map]
    exact ⟨p0, p1, p2⟩
/-- What the law asks of a tree of a text's tokens. -/
theorem syn_pack (z : ByteArray) (hz : z.size ≤ 400) (t : Nd) (ka : Option Addr) (km kc : Nat) (G : Nat → Prop) (w : World) (htd : t.tidy) (hlf : t.lf = tkl (lex (sb z) 0)) (hcnt : t.cnt ≤ 1201) (hkv : KV G w ka km kc t.kids) (W : World) (hW : Below w.heap.size w W) :
    (Calls Tryd.prog 38 #[ndv t ka km kc] W fun e w' => e = .returned (.string z) ∧ Below W.heap.size W w') ∧
    (Calls Tryd.prog 40 #[ndv t ka km kc] W fun e w' => ∃ ua ca, e = .returned (.slice ua (lex (sb z) 0).length ca) ∧ TkA w' ua ((lex (sb z) 0).map fun t => (t.1, tbs t.2.1, t.2.2)) ∧ Below W.heap.size W w') := by
  obtain ⟨q1, q2⟩ := tkl_lex (sb z).length (sb z) 0 (Nat.le_refl _) (sb_byt z)
  have hcat : cat t.lf = z := by rw [hlf]; exact sbInj q1
  have hpw : t.pw ≤ 400 := by rw [pw_lf t htd, ← cat_size, hcat]; exact hz
  have htk : toks t.lf 0 = (lex (sb z) 0).map fun t => (t.1, tbs t.2.1, t.2.2) := by rw [hlf]; exact q2
  constructor
  · have h := ptext_any t ka km kc W G (hkv.on hW) (by omega) (by omega)
    rw [text_cat t htd, hcat] at h
    exact h
  · refine (pleaves_any t ka km kc W G (hkv.on hW) (by omega) (by omega)).mono ?_
    rintro e w' ⟨u, rfl, hu⟩
    have hlt : ltk (lspots t) = toks t.lf 0 := lspots_toks t htd
    rw [hlt, htk] at hu
    obtain ⟨ua, ca, rfl, h⟩ := newTk_a hu
    rw [List.length_map]
    exact ⟨ua, ca, rfl, h, hu.2⟩

end Go.Proofs.YtgfhhpodcnohpaaDoor

/- Trees whose leaves are tokens: the walk of SyntaxTokens. Conditions: the tables lie in memory. -/
namespace Go.Proofs.YtgfhhpodcnohpaaDoor
open Go.RowKit Go.Shelf
set_option linter.unusedVariables false

/-- Two texts of at most 400 bytes in a block of their own. -/
structure TwoS (w : World) (X : Nat) (D : Nat → ByteArray) : Prop where
  lt : X < w.heap.size
  cell : ∀ j, j < 2 → w.cell? ⟨X, j, none⟩ = some (.string (D j))
  size : ∀ j, j < 2 → (D j).size ≤ 400
theorem twoS_new (w : World) (S T : ByteArray) (hS : S.size ≤ 400) (hT : T.size ≤ 400) : TwoS (w.alloc (.cells #[.string S, .string T] 9)) w.heap.size (fun j => if j = 0 then S else T) := by
  have bX : Blk (w.alloc (.cells #[.string S, .string T] 9)) w.heap.size 9 #[.string S, .string T] := Blk.new _ _ _
  refine ⟨by simp, fun j hj => ?_, fun j hj => ?_⟩
  · have : j = 0 ∨ j = 1 := by omega
    rcases this with rfl | rfl
    · exact bX.cell 0
    · exact bX.cell 1
  · show (if j = 0 then S else T).size ≤ 400
    split
    · exact hS
    · exact hT
theorem TwoS.below {w w' : World} {X : Nat} {D : Nat → ByteArray} (h : TwoS w X D) (hb : Below w.heap.size w w') : TwoS w' X D :=
  ⟨Nat.lt_of_lt_of_le h.lt hb.size, fun j hj => (hb.cell (p := ⟨X, j, none⟩) h.lt).trans (h.cell j hj), h.size⟩

theorem tg_mem2 {L : List Tk} {k : Nat} (h : k < L.length) : tg L k ∈ L := by
  unfold tg
  rw [List.getElem?_eq_getElem h]
  exact List.getElem_mem h

set_option maxRecDepth 100000 in
set_option maxHeartbeats 16000000 in
theorem walkSyn (a : Option Addr) (cap : Nat) (ls : List Int) (s : ByteArray) (b : Option Addr) (capb : Nat) (ms : List Int) (w : World) (hT : LexT w) (hs : s.size ≤ 9223372036854775807)
    (h : Sli .i64 w a cap ls) (hi : ∀ n ∈ ls, -9223372036854775808 ≤ n ∧ n ≤ 9223372036854775807) (h2 : Sli .i64 w b capb ms) (hi2 : ∀ n ∈ ms, -9223372036854775808 ≤ n ∧ n ≤ 9223372036854775807) :
    Calls Tryd.prog 11 #[.slice a ls.length cap, .string s, .slice b ms.length capb] w fun e w' => e = .returned (.bool true) ∧ Below w.heap.size w w' := by
  have c1 := source_any a cap ls w h hi
  have C1 := Lib.hid c1
  have HT := Lib.hid hT
  have HJ : Hid (∀ W, Below w.heap.size w W → SlJ W.heap.size W b ms.length) := Lib.hid fun W hW => SlJ.of (h2.below hW) hi2
  have hle2 := h2.le
  have hmx2 := h2.mx
  obtain ⟨mn, hmn⟩ : ∃ n, ms.length = n := ⟨_, rfl⟩
  rw [hmn] at HJ hle2 ⊢
  obtain ⟨S, hS⟩ : ∃ S, shS s 40 = S := ⟨_, rfl⟩
  have cS := fun W => short_any s 40 W hs (by omega)
  have hSl : S.size ≤ 40 := by rw [← hS]; exact shS_size s 40
  rw [hS] at cS
  have CS := Lib.hid cS
  clear c1 h hi hT cS hS h2 hi2 hmn
  go_enter Tryd.func11, Tryd.ntmps11
  go_wp2_with fail
  refine C1.out.mono ?_
  rintro e w1 ⟨T, rfl, hTl, hb1⟩
  have HB1 := Lib.hid hb1
  clear hb1
  go_wp2_with fail
  refine (CS.out _).mono ?_
  rintro e w' ⟨rfl, rfl⟩
  obtain ⟨w2, hw2⟩ : ∃ W, w1.alloc (.cells #[.string T, .string S] 9) = W := ⟨_, rfl⟩
  have hA := twoS_new w1 T S hTl (by omega)
  have hbw := (Below.refl w1.heap.size w1).alloc (Nat.le_refl _) (.cells #[.string T, .string S] 9)
  rw [hw2] at hA hbw
  obtain ⟨X, hX⟩ : ∃ X, w1.heap.size = X := ⟨_, rfl⟩
  rw [hX] at hA
  obtain ⟨D, hD⟩ : ∃ D, (fun j => if j = 0 then T else S) = D := ⟨_, rfl⟩
  rw [hD] at hA
  have HA := Lib.hid hA
  have HB2 := Lib.hid (HB1.out.trans (hbw.mono HB1.out.size))
  have HT2 := Lib.hid (HT.out.below HB2.out)
  have HW2 := Lib.hid hw2
  have HX := Lib.hid hX
  clear hA hbw hw2 hX hD
  go_wp2_with fail
  rw [HX.out, show w1.alloc (.cells #[.string T, .string S] 9) = w2 from HW2.out]
  go_loopw [8] (fun i wr => ∃ j : Nat, j ≤ 2 ∧ i = .int .i64 j ∧ Hid (Below w2.heap.size w2 wr)) (fun i _ => 2 - (intOf i).toNat)
  case atStart => exact ⟨0, by omega, rfl, Below.refl _ _⟩
  case round =>
    obtain ⟨j, hj, rfl, HR⟩ := hrel
    by_cases hlt : j < 2
    · have hjj : (j : Int) < 2 := by omega
      have hAr := HA.out.below HR.out
      have hsz := hAr.size j hlt
      obtain ⟨z, hz⟩ : ∃ x, D j = x := ⟨_, rfl⟩
      rw [hz] at hsz
      have HCZ : Hid (∀ W, Below wr.heap.size wr W → W.cell? ⟨X, j, none⟩ = some (.string z)) := Lib.hid fun W hW => by rw [← hz]; exact (hAr.below hW).cell j hlt
      have cz := HCZ.out wr (Below.refl _ _)
      have HBr := Lib.hid (HB2.out.trans (HR.out.mono HB2.out.size))
      have cP := ptoks_any z (by omega) wr (HT2.out.below HR.out)
      have hlen := lex_len (sb z).length (sb z) 0
      rw [show lexF (sb z).length (sb z) 0 = lex (sb z) 0 from rfl, sb_len] at hlen
      have hkd := lex_kinds (sb z).length (sb z) 0 (Nat.le_refl _)
      have hpk := syn_pack z hsz
      obtain ⟨L, hL⟩ : ∃ L, lex (sb z) 0 = L := ⟨_, rfl⟩
      rw [hL] at cP hlen hkd hpk
      have CP := Lib.hid cP; have HPK := Lib.hid hpk; have HKD := Lib.hid hkd
      clear cP hpk hkd hL hz hAr
      go_wp2_with fail
      refine CP.out.mono ?_
      rintro e w3 ⟨u, rfl, hown, hb3⟩
      obtain ⟨ga, cp, rfl, hcl⟩ := trow hown rfl
      have HB3 := Lib.hid hb3
      have HCL := Lib.hid hcl
      have HBw3 := Lib.hid (HBr.out.trans (hb3.mono HBr.out.size))
      have cG := grouped_any L ga L.length cp b mn capb w3 rfl (by omega) hcl (fun k hk => HKD.out _ (tg_mem2 hk)) (HJ.out w3 HBw3.out) hle2 hmx2
      have CG := Lib.hid cG
      have htka := tka_row rfl hcl
      have HTKA := Lib.hid htka
      clear cG hown hb3 hcl htka
      go_wp2_with fail
      refine CG.out.mono ?_
      rintro e w4 ⟨t, ka, km, kc, rfl, hkv, htd, hlf, hcnt, hb4⟩
      obtain ⟨TT, hTT⟩ : ∃ x, (L.map fun t => (t.1, tbs t.2.1, t.2.2)) = x := ⟨_, rfl⟩
      have hTl2 : TT.length = L.length := by rw [← hTT, List.length_map]
      rw [hTT] at HTKA HPK
      have hq := fun W hW => HPK.out t ka km kc _ w4 htd hlf hcnt hkv W hW
      obtain ⟨xi, hxi⟩ : ∃ x, t.id = x := ⟨_, rfl⟩
      obtain ⟨xk, hxk⟩ : ∃ x, t.kind = x := ⟨_, rfl⟩
      obtain ⟨xt, hxt⟩ : ∃ x, t.text = x := ⟨_, rfl⟩
      unfold ndv at hq ⊢
      rw [hxi, hxk, hxt] at hq ⊢
      obtain ⟨W5, hW5⟩ : ∃ W, w4.alloc (.cells #[.int .i64 xi, .int .i64 xk, .string xt, .slice ka km kc] 60) = W := ⟨_, rfl⟩
      obtain ⟨A5, hA5⟩ : ∃ A, w4.heap.size = A := ⟨_, rfl⟩
      have k5 : Blk W5 A5 60 #[.int .i64 xi, .int .i64 xk, .string xt, .slice ka km kc] := by rw [← hW5, ← hA5]; exact Blk.new _ _ _
      have b5 : Below w4.heap.size w4 W5 := by rw [← hW5]; exact (Below.refl _ _).alloc (Nat.le_refl _) _
      have hb34 : Below w3.heap.size w3 W5 := hb4.trans (b5.mono hb4.size)
      have hbr5 : Below wr.heap.size wr W5 := HB3.out.trans (hb34.mono HB3.out.size)
      have HH : Hid (∀ W, Below W5.heap.size W5 W → W.cell? ⟨A5, 0, none⟩ = some (.int .i64 xi) ∧ W.cell? ⟨A5, 1, none⟩ = some (.int .i64 xk) ∧ W.cell? ⟨A5, 2, none⟩ = some (.string xt) ∧ W.cell? ⟨A5, 3, none⟩ = some (.slice ka km kc) ∧ W.cell? ⟨X, j, none⟩ = some (.string z)) := Lib.hid fun W hW => by
        have kk := k5.same (hW.block A5 k5.lt)
        exact ⟨kk.cell 0, kk.cell 1, kk.cell 2, kk.cell 3, HCZ.out W (hbr5.trans (hW.mono hbr5.size))⟩
      have K1 : Hid (∀ W, Below W5.heap.size W5 W → Calls Tryd.prog 38 #[.agg #[.int .i64 xi, .int .i64 xk, .string xt, .slice ka km kc]] W fun e w' => e = .returned (.string z) ∧ Below W5.heap.size W5 w') := Lib.hid fun W hW => ((hq W (b5.trans (hW.mono b5.size))).1).mono fun e w' ⟨he, hb⟩ => ⟨he, hW.trans (hb.mono hW.size)⟩
      have K2 : Hid (∀ W, Below W5.heap.size W5 W → Calls Tryd.prog 40 #[.agg #[.int .i64 xi, .int .i64 xk, .string xt, .slice ka km kc]] W fun e w' => ∃ ua ca, e = .returned (.slice ua L.length ca) ∧ TkA w' ua TT ∧ Below W5.heap.size W5 w') := Lib.hid fun W hW => ((hq W (b5.trans (hW.mono b5.size))).2).mono fun e w' ⟨ua, ca, he, hk, hb⟩ => ⟨ua, ca, he, hk, hW.trans (hb.mono hW.size)⟩
      have K3 : Hid (∀ W ua ca, Below W5.heap.size W5 W → TkA W ua TT → Calls Tryd.prog 39 #[.slice ua L.length ca, .slice ga L.length cp] W fun e w' => e = .returned (.bool true) ∧ Below W5.heap.size W5 w') := Lib.hid fun W ua ca hW hk => by
        have h3 := sameTk_any ua ga ca cp TT TT W hk (HTKA.out.on (hb34.trans (hW.mono hb34.size))) (by omega)
        rw [hTl2, decide_eq_true rfl] at h3
        exact h3.mono fun e w' ⟨he, hb⟩ => ⟨he, hW.trans (hb.mono hW.size)⟩
      have HBR5 : Hid (Below w2.heap.size w2 W5) := HR.out.trans (hbr5.mono HR.out.size)
      have h0 := HH.out W5.drew (Below.refl _ _).drew
      have HW5 := Lib.hid hW5; have HA5 := Lib.hid hA5
      have b0 : Below W5.heap.size W5 W5.drew := (Below.refl _ _).drew
      obtain ⟨n, hn⟩ : ∃ n, L.length = n := ⟨_, rfl⟩
      rw [hn] at K2 K3 ⊢
      have ZZ : (z.toList == z.toList) = true := beq_self_eq_true _
      clear hq hxi hxk hxt hW5 hA5 k5 b5 hb34 hbr5 hkv htd hlf hcnt hb4 hTT hTl2 hn HCL cz CG CP HPK HKD
      go_wp2_with fail
      rw [HA5.out, show w4.alloc (.cells #[.int .i64 xi, .int .i64 xk, .string xt, .slice ka km kc] 60) = W5 from HW5.out]
      go_wp2_with fail
      go_region_held3 (fun w' => w'.cell? ⟨A5, 0, none⟩ = some (.int .i64 xi) ∧ w'.cell? ⟨A5, 1, none⟩ = some (.int .i64 xk) ∧ w'.cell? ⟨A5, 2, none⟩ = some (.string xt) ∧ w'.cell? ⟨A5, 3, none⟩ = some (.slice ka km kc) ∧ w'.cell? ⟨X, j, none⟩ = some (.string z)) (first | exact cF | exact cE | exact cD | exact h0)
        (first
        | (go_at_call 38; refine (K1.out _ b0).mono ?_; rintro e wD ⟨rfl, bD⟩; have cD := HH.out wD bD)
        | (go_at_call 40; refine (K2.out _ bD).mono ?_; rintro e wE ⟨ua, ca, rfl, tE, bE⟩; have cE := HH.out wE bE)
        | (go_at_call 39; refine (K3.out _ _ _ bE tE).mono ?_; rintro e wF ⟨rfl, bF⟩; have cF := HH.out wF bF))
      all_goals
        go_wp2
        go_roundw
        case rel => exact ⟨j + 1, by omega, by go_num, HBR5.out.trans (bF.mono HBR5.out.size)⟩
        case measure => simp [intOf]; omega
    · obtain rfl : 2 = j := by omega
      have cL := slives_any wr
      have CL := Lib.hid cL
      clear cL
      go_wp2_with fail
      refine CL.out.mono ?_
      rintro e wf ⟨rfl, hbf⟩
      have HFF : Hid (Below w.heap.size w wf) := (HB2.out.trans (HR.out.mono HB2.out.size)).trans (hbf.mono (by have := HR.out.size; have := HB2.out.size; omega))
      clear hbf
      go_wp2
      go_ret
      exact ⟨rfl, HFF.out⟩

end Go.Proofs.YtgfhhpodcnohpaaDoor
