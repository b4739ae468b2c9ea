/- SQw, with the texts that only it needs in front of it: SRm. It has no conditions. -/
import Derived.Test.YtfecajeenmnoeaaSRg
import Derived.Test.YtfecajeenmnoeaaSTr
import Derived.Test.YtfecajeenmnoeaaSEq
import Derived.Test.YtfecajeenmnoeaaSRz
import Derived.Test.YtfecajeenmnoeaaSEp
import Derived.Test.YtfecajeenmnoeaaSRo
import Derived.Test.YtfecajeenmnoeaaSLi
import Derived.Test.YtfecajeenmnoeaaSTy
import Derived.Test.YtfecajeenmnoeaaSOp

/- The reference's Number, for any first ID (the numbers wrap around). Conditions: trees of at most 100000 nodes. -/
namespace Go.Proofs.Ytfecajeenmnoeaa
open Go.RowKit Go.Shelf
set_option linter.unusedVariables false

/-- The number behind so many others. -/
def nx : Nat → Int → Int
  | 0, f => f
  | k + 1, f => IntKind.i64.wrap (nx k f + 1)
theorem nx_add (a : Nat) (f : Int) : ∀ b, nx (a + b) f = nx b (nx a f)
  | 0 => rfl
  | b + 1 => by
    show nx ((a + b) + 1) f = _
    rw [nx, nx_add a f b, nx]
mutual
/-- The nodes are numbered in preorder. -/
def Nd.numw : Nd → Int → Nd
  | .mk _ k x ks, f => .mk f k x (numsw ks (nx 1 f))
def numsw : List Nd → Int → List Nd
  | [], _ => []
  | x :: l, f => x.numw f :: numsw l (nx x.cnt f)
end
theorem Nd.numw_eq (t : Nd) (f : Int) : t.numw f = .mk f t.kind t.text (numsw t.kids (nx 1 f)) := by cases t; rw [Nd.numw]; rfl
theorem numsw_len : ∀ (l : List Nd) (f : Int), (numsw l f).length = l.length
  | [], f => by rw [numsw]
  | x :: l, f => by rw [numsw, List.length_cons, List.length_cons, numsw_len l]
theorem numsw_app : ∀ (a b : List Nd) (f : Int), numsw (a ++ b) f = numsw a f ++ numsw b (nx (cnts a) f)
  | [], b, f => by simp [numsw, cnts, nx]
  | x :: a, b, f => by
    rw [List.cons_append, numsw, numsw_app a b, numsw, List.cons_append, cnts, nx_add]
theorem numsw_take (l : List Nd) (k : Nat) (f : Int) (h : k < l.length) : numsw (l.take (k + 1)) f = numsw (l.take k) f ++ [(l[k]).numw (nx (cnts (l.take k)) f)] := by
  rw [List.take_succ_eq_append_getElem h, numsw_app, numsw, numsw]
mutual
theorem numw_eqv : ∀ (t : Nd) (f : Int), t.eqv (t.numw f) = true
  | .mk i k x ks, f => by
    rw [Nd.numw, Nd.eqv, numsw_eqv ks]
    simp
theorem numsw_eqv : ∀ (l : List Nd) (f : Int), eqvs l (numsw l f) = true
  | [], f => by rw [numsw, eqvs]
  | x :: l, f => by rw [numsw, eqvs, numw_eqv x, numsw_eqv l]; rfl
end

/-- What the loop over the kids keeps. -/
def NwL (w : World) (q : Nat) (f kd : Int) (tx : ByteArray) (ks : List Nd) (a : Option Addr) (n cap : Nat) (i : Nat) (v : Value) (W : World) : Prop :=
  ∃ us, KRow (fun b => q + 2 ≤ b) (q + 2) W v (numsw (ks.take i) (nx 1 f)) us ∧ Blk W q 25 #[.int .i64 f, .int .i64 kd, .string tx, .slice a n cap] ∧ Blk W (q + 1) 25 #[.int .i64 0, .int .i64 0, .string ⟨#[]⟩, .slice none 0 0] ∧ Below q w W
/-- A call hands back a numbered tree. -/
def NwP (t : Nd) (f : Int) (n : Nat) (w : World) (e : Ending) (w' : World) : Prop :=
  ∃ (a : Option Addr) (c : Nat), e = .returned (.tuple #[.agg #[.int .i64 f, .int .i64 t.kind, .string t.text, .slice a n c], .int .i64 (nx t.cnt f)]) ∧ KV (fun b => w.heap.size ≤ b) w' a n c (t.numw f).kids ∧ Below w.heap.size w w'
theorem NwL.step {w : World} {q : Nat} {f kd : Int} {tx : ByteArray} {ks : List Nd} {a : Option Addr} {n cap i : Nat} {av : Option Addr} {vc : Nat} {W w5 X w6 : World} {x : Nd} {a' : Option Addr} {n' c' : Nat} {v6 : Value} {us : List (Option Addr × Nat × Nat)} (hk : KRow (fun b => q + 2 ≤ b) (q + 2) W (.slice av i vc) (numsw (ks.take i) (nx 1 f)) us) (hq : Blk W q 25 #[.int .i64 f, .int .i64 kd, .string tx, .slice a n cap]) (hr : Blk W (q + 1) 25 #[.int .i64 0, .int .i64 0, .string ⟨#[]⟩, .slice none 0 0]) (hb : Below q w W) (hx : ks[i]? = some x)
    (b5 : Below W.heap.size W w5) (hkv : KV (fun b => W.heap.size ≤ b) w5 a' n' c' (x.numw (nx (cnts (ks.take i)) (nx 1 f))).kids) (hX : Below w5.heap.size w5 X) (hg : X.grownBy w6 (Value.slice av i vc).ownBlock)
    (ho6 : w6.ownsRow (q + 2) 25 4 v6 (i + 1) (kcs (numsw (ks.take i) (nx 1 f)) us ++ [.int .i64 (x.numw (nx (cnts (ks.take i)) (nx 1 f))).id, .int .i64 (x.numw (nx (cnts (ks.take i)) (nx 1 f))).kind, .string (x.numw (nx (cnts (ks.take i)) (nx 1 f))).text, .slice a' n' c']))
    (hat : v6.ownBlock = (Value.slice av i vc).ownBlock ∨ v6.ownBlock = some X.heap.size) : NwL w q f kd tx ks a n cap (i + 1) v6 w6 := by
  have hik : i < ks.length := (List.getElem?_eq_some_iff.1 hx).1
  have hxe := (List.getElem?_eq_some_iff.1 hx).2
  have hol := hk.own.lt
  have hz5 := b5.size
  have hzX := hX.size
  have hz6 := hg.size
  have hql := hr.lt
  have hk5 : KRow (fun b => q + 2 ≤ b) (q + 2) w5 (.slice av i vc) (numsw (ks.take i) (nx 1 f)) us := hk.keep hz5 (fun b hb' hlt => b5.block b hlt)
  have hlen : (numsw (ks.take i) (nx 1 f)).length = i := by rw [numsw_len, List.length_take]; omega
  obtain ⟨gg, c1, rfl⟩ := ownsRow_succ ho6
  have hkv5 : KV (fun b => q + 2 ≤ b ∧ (Value.slice av i vc).ownBlock ≠ some b) w5 a' n' c' (x.numw (nx (cnts (ks.take i)) (nx 1 f))).kids := hkv.keep (Nat.le_refl _) (fun _ _ _ => rfl) (fun b hb' _ => ⟨by omega, fun e => by have := (hol b e).2; omega⟩)
  have hk6 := hk5.push (g := gg) (c := c1) hkv5 hX hg (hat.imp (fun e => e.symm.trans rfl) (fun e => by simp only [Value.ownBlock, Option.some.injEq] at e; omega)) (by rw [hlen]; exact ho6)
  have hb6 : ∀ b, b ≤ q + 1 → w6.heap[b]? = W.heap[b]? := fun b hb' => ((hg.block b (by omega) (fun e => by have := (hol b e.symm).1; omega)).trans (hX.block b (by omega))).trans (b5.block b (by omega))
  rw [hlen] at hk6
  refine ⟨us ++ [(a', n', c')], ?_, hq.same (hb6 q (by omega)), hr.same (hb6 (q + 1) (by omega)), ?_⟩
  · rw [numsw_take ks i (nx 1 f) hik, hxe]
    exact hk6
  · exact ((hb.trans (b5.mono (by omega))).trans (hX.mono (by omega))).grown hg (by omega) (fun k hk' => by have := (hol k hk').1; omega)

set_option maxRecDepth 100000 in
set_option maxHeartbeats 4000000 in
theorem rnumberw_any : ∀ (d : Nat) (t : Nd) (a : Option Addr) (n cap : Nat) (f : Int) (w : World) (G : Nat → Prop), t.dep ≤ d → KV G w a n cap t.kids → t.cnt ≤ 100000 →
    Calls Try.prog 20 #[ndv t a n cap, .int .i64 f] w (NwP t f n w)
  | 0, t, a, n, cap, f, w, G, hd, hK, hc => by have := t.dep_eq; omega
  | d + 1, t, a, n, cap, f, w, G, hd, hK, hc => by
    obtain ⟨i3, hi3, iy0, iy1, iy2⟩ := info_parts infoNd
    obtain ⟨hkl, hnc, hcm⟩ := hK.len
    obtain ⟨q, hq⟩ : ∃ q, w.heap.size = q := ⟨_, rfl⟩
    obtain ⟨W2, hW2⟩ : ∃ W, (w.alloc (.cells #[.int .i64 f, .int .i64 t.kind, .string t.text, .slice a n cap] 25)).alloc (.cells #[.int .i64 0, .int .i64 0, .string ⟨#[]⟩, .slice none 0 0] 25) = W := ⟨_, rfl⟩
    have b2 : Below q w W2 := by rw [← hW2, ← hq]; exact ((Below.refl _ _).alloc (Nat.le_refl _) _).alloc (by simp) _
    have k1 : Blk W2 q 25 #[.int .i64 f, .int .i64 t.kind, .string t.text, .slice a n cap] := by rw [← hW2, ← hq]; exact (Blk.new _ _ _).alloc _
    have k2 : Blk W2 (q + 1) 25 #[.int .i64 0, .int .i64 0, .string ⟨#[]⟩, .slice none 0 0] := by
      rw [← hW2, ← hq]
      have := Blk.new (w.alloc (.cells #[.int .i64 f, .int .i64 t.kind, .string t.text, .slice a n cap] 25)) 25 #[.int .i64 0, .int .i64 0, .string ⟨#[]⟩, .slice none 0 0]
      rw [World.size_alloc] at this
      exact this
    have HL0 : Hid (NwL w q f t.kind t.text t.kids a n cap 0 (.slice none 0 0) W2) := ⟨[], by rw [List.take_zero, numsw]; exact KRow.nil _ _ _, k1, k2, b2⟩
    have hkn := t.kids_len
    have hce := t.cnt_eq
    have HREC : Hid (∀ (x : Nd) (a' : Option Addr) (n' c' : Nat) (F : Int) (W : World), x ∈ t.kids → KV G W a' n' c' x.kids → Calls Try.prog 20 #[ndv x a' n' c', .int .i64 F] W (NwP x F n' W)) := fun x a' n' c' F W hx hk => rnumberw_any d x a' n' c' F W G (by have := t.kid_dep hx; omega) hk (by have := t.kid_cnt hx; omega)
    have HNUM := Lib.hid (t.numw_eq f)
    obtain ⟨id, hid⟩ : ∃ x, t.id = x := ⟨_, rfl⟩
    obtain ⟨kd, hkd⟩ : ∃ x, t.kind = x := ⟨_, rfl⟩
    obtain ⟨tx, htx⟩ : ∃ x, t.text = x := ⟨_, rfl⟩
    obtain ⟨ks, hks⟩ : ∃ x, t.kids = x := ⟨_, rfl⟩
    have HPOST : Hid (∀ (av : Option Addr) (c : Nat) (w' : World), KV (fun b => w.heap.size ≤ b) w' av n c (numsw ks (nx 1 f)) → Below w.heap.size w w' → NwP t f n w (.returned (.tuple #[.agg #[.int .i64 f, .int .i64 kd, .string tx, .slice av n c], .int .i64 (nx (cnts ks) (nx 1 f))])) w') := fun av c w' h1 h2 => by
      refine ⟨av, c, ?_, ?_, h2⟩
      · rw [hkd, htx, hce, hks, show nx (cnts ks + 1) f = nx (cnts ks) (nx 1 f) by rw [Nat.add_comm, nx_add]]
      · rw [HNUM.out, hks]; exact h1
    unfold ndv at *
    rw [hkd, htx] at hW2 HL0
    rw [hid, hkd, htx]
    rw [hks] at HREC hkl hkn HL0 hce hK
    have hce2 : cnts ks + 1 ≤ 100000 := by omega
    have HW2 := Lib.hid hW2; have HQ := Lib.hid hq; have HK := Lib.hid hK; have HKL := Lib.hid hkl; have HB2 := Lib.hid b2
    have hn5 : n ≤ 100000 := by omega
    clear hK hd hc hkl hW2 b2 k1 k2 hkn hid hkd htx hks hq hce
    have m0 : IntKind.i64.wrap (f + 1) = nx 1 f := rfl
    go_enter Try.func20, Try.ntmps20
    go_wp2_with fail
    rw [HW2.out, HQ.out]
    go_loopw [1, 6, 7] (fun g v j wr => ∃ i : Nat, j = .int .i64 (i : Int) ∧ i ≤ n ∧ g = .int .i64 (nx (cnts (ks.take i)) (nx 1 f)) ∧ Hid (NwL w q f kd tx ks a n cap i v wr)) (fun _ _ j _ => n - (intOf j).toNat)
    case atStart => exact ⟨0, rfl, by omega, by rw [List.take_zero, cnts, nx], HL0⟩
    case round =>
      obtain ⟨i, rfl, hi, rfl, HL⟩ := hrel
      obtain ⟨us, hkr, hkq, hkr2, hbw⟩ := HL.out
      have e3 := hkq.cell 3
      simp only [List.getElem?_toArray, List.getElem?_cons_zero, List.getElem?_cons_succ] at e3
      have hzq : Hid (q + 2 ≤ wr.heap.size) := by have := hkr2.lt; show _ ≤ _; omega
      have hlen : (numsw (ks.take i) (nx 1 f)).length = i := by rw [numsw_len, List.length_take]; have := HKL.out; omega
      have hown := hkr.own
      rw [hlen] at hown
      obtain ⟨av, vc, rfl⟩ := own_slice hown
      by_cases hin : i < n
      · have hin2 : (i : Int) < (n : Int) := by omega
        have m1 : IntKind.i64.wrap ((i : Int) + 1) = (i : Int) + 1 := by simp [IntKind.wrap, IntKind.signed, IntKind.bits]; omega
        have hik : i < ks.length := by rw [HKL.out]; exact hin
        obtain ⟨b, off, u, un, uc, rfl, hG, hb, hku, hcell⟩ := HK.out.kid hik
        have hz := hbw.size
        obtain ⟨d0, d1, d2, d3⟩ := hcell wr (hbw.block b (by rw [← HQ.out]; exact hb))
        obtain ⟨x, hx⟩ : ∃ x, ks[i] = x := ⟨_, rfl⟩
        have hx' : ks[i]? = some x := by rw [← hx]; exact List.getElem?_eq_getElem hik
        rw [hx] at d0 d1 d2 hku
        have hxm : x ∈ ks := by rw [← hx]; exact List.getElem_mem hik
        have hct := cnts_take ks i hik
        rw [hx] at hct
        have hcl := cnts_le ks (i + 1)
        obtain ⟨F, hF⟩ : ∃ F, nx (cnts (ks.take i)) (nx 1 f) = F := ⟨_, rfl⟩
        have HC := Lib.hid (HREC.out x u un uc F wr hxm (hku.on (by rw [HQ.out]; exact hbw)))
        have HFN : Hid (nx (cnts (ks.take (i + 1))) (nx 1 f) = nx x.cnt F) := by show _ = _; rw [hct, nx_add, hF]
        have hlen5 := hku.len.1
        have HSTEP : Hid (∀ (w5 X w6 : World) (a' : Option Addr) (c' : Nat) (v6 : Value), Below wr.heap.size wr w5 → KV (fun b => wr.heap.size ≤ b) w5 a' un c' (x.numw F).kids → Below w5.heap.size w5 X → X.ownsRow (q + 2) 25 4 (.slice av i vc) i (kcs (numsw (ks.take i) (nx 1 f)) us) ∧
            (X.grownBy w6 (Value.slice av i vc).ownBlock → w6.ownsRow (q + 2) 25 4 v6 (i + 1) (kcs (numsw (ks.take i) (nx 1 f)) us ++ [.int .i64 F, .int .i64 x.kind, .string x.text, .slice a' un c']) → (v6.ownBlock = (Value.slice av i vc).ownBlock ∨ v6.ownBlock = some X.heap.size) → NwL w q f kd tx ks (some ⟨b, off, none⟩) n cap (i + 1) v6 w6)) := fun w5 X w6 a' c' v6 h1 h2 h3 => by
          have hkX : X.ownsRow (q + 2) 25 4 (.slice av i vc) i (kcs (numsw (ks.take i) (nx 1 f)) us) := own_same hown (fun g hg => by
            have h5 := (hown.lt g hg).2
            have h6 := h1.size
            exact (h3.block g (by omega)).trans (h1.block g h5))
          refine ⟨hkX, fun hg ho hat => ?_⟩
          have hn := x.numw_eq F
          refine NwL.step hkr hkq hkr2 hbw hx' h1 (by rw [hF]; exact h2) h3 hg ?_ hat
          rw [hF, hn]
          exact ho
        obtain ⟨xi, hxi⟩ : ∃ y, x.id = y := ⟨_, rfl⟩
        obtain ⟨xk, hxk⟩ : ∃ y, x.kind = y := ⟨_, rfl⟩
        obtain ⟨xt, hxt⟩ : ∃ y, x.text = y := ⟨_, rfl⟩
        obtain ⟨xc, hxc⟩ : ∃ y, x.cnt = y := ⟨_, rfl⟩
        rw [hxi] at d0 HC
        rw [hxk] at d1 HC HSTEP
        rw [hxt] at d2 HC HSTEP
        rw [hxc] at HFN
        unfold NwP at HC
        rw [hxk, hxt, hxc] at HC
        rw [hF]
        have HLEN := Lib.hid hlen
        clear hkr hkq hkr2 hG hb hku hcell hx hx' hxm hct hcl hF hlen hown hxi hxk hxt hxc hz hbw
        go_wp2_with fail
        refine HC.out.mono ?_
        rintro e w5 ⟨a', c', rfl, hkv5, b5⟩
        obtain ⟨W6, hW6⟩ : ∃ W, (w5.alloc (.cells #[.int .i64 F, .int .i64 xk, .string xt, .slice a' un c'] 25)).alloc (.cells #[.int .i64 F, .int .i64 xk, .string xt, .slice a' un c'] 25) = W := ⟨_, rfl⟩
        have b6 : Below w5.heap.size w5 W6 := by rw [← hW6]; exact ((Below.refl _ _).alloc (Nat.le_refl _) _).alloc (by simp) _
        have k6 : Blk W6 (w5.heap.size + 1) 25 #[.int .i64 F, .int .i64 xk, .string xt, .slice a' un c'] := by
          rw [← hW6]
          have := Blk.new (w5.alloc (.cells #[.int .i64 F, .int .i64 xk, .string xt, .slice a' un c'] 25)) 25 #[.int .i64 F, .int .i64 xk, .string xt, .slice a' un c']
          rw [World.size_alloc] at this
          exact this
        have HST6 : Hid (∀ w6 v6, W6.ownsRow (q + 2) 25 4 (.slice av i vc) i (kcs (numsw (ks.take i) (nx 1 f)) us) ∧ (W6.grownBy w6 (Value.slice av i vc).ownBlock → w6.ownsRow (q + 2) 25 4 v6 (i + 1) (kcs (numsw (ks.take i) (nx 1 f)) us ++ [.int .i64 F, .int .i64 xk, .string xt, .slice a' un c']) → (v6.ownBlock = (Value.slice av i vc).ownBlock ∨ v6.ownBlock = some W6.heap.size) → NwL w q f kd tx ks (some ⟨b, off, none⟩) n cap (i + 1) v6 w6)) := fun w6 v6 => HSTEP.out w5 W6 w6 a' c' v6 b5 hkv5 b6
        have HO6 := Lib.hid (HST6.out w5 (.slice none 0 0)).1
        have HNW : Hid (∀ j u, [Value.int .i64 F, .int .i64 xk, .string xt, .slice a' un c'][j]? = some u → W6.cell? ((⟨w5.heap.size + 1, 0, none⟩ : Addr).add j) = some u) := World.news_of_block (cs := #[.int .i64 F, .int .i64 xk, .string xt, .slice a' un c']) (t := 25) (fr := (0, 0)) k6
        have hz6 : q + 2 ≤ W6.heap.size := by
          have h1 := b5.size
          have h2 := b6.size
          have h3 := hzq.out
          omega
        have HW6 := Lib.hid hW6
        clear hkv5 b5 b6 k6 hW6
        go_wp2_with (at_builtin; rw [HW6.out]; refine wpList_append_own_at _ rfl _ _ 23 rfl (q + 2) 25 i3 (.agg #[.int .i64 0, .int .i64 0, .string ⟨#[]⟩, .slice none 0 0]) 4 56 Try.underlying23 hi3 iy0 iy1 iy2 rfl (by decide) _ i (kcs (numsw (ks.take i) (nx 1 f)) us) rfl HO6.out ⟨w5.heap.size + 1, 0, none⟩ 1 1 [.int .i64 F, .int .i64 xk, .string xt, .slice a' un c'] rfl rfl HNW.out (fun u hu => by simp at hu; rcases hu with rfl | rfl | rfl | rfl <;> rfl) (by unfold maxLen; omega) (by omega) hz6 ?_; intro v6 w6 hown6 hgrow6 hnn6 hat6)
        have HN6 := Lib.hid ((HST6.out w6 v6).2 hgrow6 hown6 hat6)
        clear hown6 hgrow6 hnn6 hat6
        go_wp2
        go_roundw
        case rel => exact ⟨i + 1, by go_num, by omega, by rw [HFN.out], HN6⟩
        case measure => simp [intOf]; omega
      · have hin2 : ¬ ((i : Int) < (n : Int)) := by omega
        obtain rfl : i = n := by omega
        have hall : ks.take i = ks := List.take_of_length_le (Nat.le_of_eq HKL.out)
        rw [hall] at hkr
        have hkv := hkr.kv (G' := fun b => q + 2 ≤ b) (fun b hb hlt => by
          rcases hb with hb | hb
          · exact hb
          · exact (hkr.own.lt b hb).1)
        obtain ⟨hbb, hss⟩ := set4 (wr.setCell ⟨q, 3, none⟩ (.slice av i vc)) (q + 1) 0 (.int .i64 f) (.int .i64 kd) (.string tx) (.slice av i vc)
        simp only [Nat.zero_add] at hbb hss
        have hsq : (wr.setCell ⟨q, 3, none⟩ (.slice av i vc)).heap.size = wr.heap.size := by simp [World.setCell]
        have hbq : ∀ b, b ≠ q → (wr.setCell ⟨q, 3, none⟩ (.slice av i vc)).heap[b]? = wr.heap[b]? := fun b hb => Below.heap_setCell wr ⟨q, 3, none⟩ _ b hb
        have hz : Blk (((((wr.setCell ⟨q, 3, none⟩ (.slice av i vc)).setCell ⟨q + 1, 0, none⟩ (.int .i64 f)).setCell ⟨q + 1, 1, none⟩ (.int .i64 kd)).setCell ⟨q + 1, 2, none⟩ (.string tx)).setCell ⟨q + 1, 3, none⟩ (.slice av i vc)) (q + 1) 25 #[.int .i64 f, .int .i64 kd, .string tx, .slice av i vc] := by
          have h0 : Blk (wr.setCell ⟨q, 3, none⟩ (.slice av i vc)) (q + 1) 25 #[.int .i64 0, .int .i64 0, .string ⟨#[]⟩, .slice none 0 0] := hkr2.same (hbq (q + 1) (by omega))
          simpa using (((h0.set 0 (.int .i64 f)).set 1 (.int .i64 kd)).set 2 (.string tx)).set 3 (.slice av i vc)
        have hfin := HPOST.out av vc (((((wr.setCell ⟨q, 3, none⟩ (.slice av i vc)).setCell ⟨q + 1, 0, none⟩ (.int .i64 f)).setCell ⟨q + 1, 1, none⟩ (.int .i64 kd)).setCell ⟨q + 1, 2, none⟩ (.string tx)).setCell ⟨q + 1, 3, none⟩ (.slice av i vc))
          (by rw [HQ.out]; exact hkv.1.keep (by omega) (fun b hb _ => (hbb b (by omega)).trans (hbq b (by omega))) (fun b hb _ => by omega))
          (by rw [HQ.out]; exact ((((hbw.setCell (p := ⟨q, 3, none⟩) (Nat.le_refl _) _).setCell (p := ⟨q + 1, 0, none⟩) (by show q ≤ q + 1; omega) _).setCell (p := ⟨q + 1, 1, none⟩) (by show q ≤ q + 1; omega) _).setCell (p := ⟨q + 1, 2, none⟩) (by show q ≤ q + 1; omega) _).setCell (p := ⟨q + 1, 3, none⟩) (by show q ≤ q + 1; omega) _)
        have e0 := hkq.cell 0
        have e1 := hkq.cell 1
        have e2 := hkq.cell 2
        have y3 := hkq.frozen 3
        have z0 := hkr2.cell 0
        have z1 := hkr2.cell 1
        have z2 := hkr2.cell 2
        have z3 := hkr2.cell 3
        have v0 := hkr2.frozen 0
        have v1 := hkr2.frozen 1
        have v2 := hkr2.frozen 2
        have v3 := hkr2.frozen 3
        simp only [List.getElem?_toArray, List.getElem?_cons_zero, List.getElem?_cons_succ] at e0 e1 e2 z0 z1 z2 z3
        have HZ := Lib.hid hz; have HFIN := Lib.hid hfin
        rw [hall]
        clear hkr hkq hkr2 hkv hbw hbb hss hsq hbq hz hfin hall hlen hown hi
        go_wp2_with fail
        have z0 := HZ.out.cell 0
        have z1 := HZ.out.cell 1
        have z2 := HZ.out.cell 2
        have z3 := HZ.out.cell 3
        simp only [List.getElem?_toArray, List.getElem?_cons_zero, List.getElem?_cons_succ] at z0 z1 z2 z3
        refine bodyPost_ret (v := .tuple #[.agg #[.int .i64 f, .int .i64 kd, .string tx, .slice av i vc], .int .i64 (nx (cnts ks) (nx 1 f))]) (by simp [results, Try.results20, go_sem, z0, z1, z2, z3]) rfl HFIN.out

end Go.Proofs.Ytfecajeenmnoeaa

/- The walk of SyntaxEqual. It has no conditions. -/
namespace Go.Proofs.Ytfecajeenmnoeaa
open Go.RowKit Go.Shelf
set_option linter.unusedVariables false

theorem slJ_toQ {w w' : World} {a : Option Addr} {n : Nat} (h : SlJ w.heap.size w a n) (hb : Below w.heap.size w w') : SlJ w'.heap.size w' a n := by
  rcases h.below hb with h0 | ⟨b, off, ha, hlt, hc⟩
  · exact .inl h0
  · exact .inr ⟨b, off, ha, by have := hb.size; omega, hc⟩
/-- The reference's Replace, whatever comes of it. -/
theorem rrepl_some (t x : Nd) (ta xa : Option Addr) (tn tc xn xc : Nat) (w8 : World) (G G' : Nat → Prop) (hkt : KV G w8 ta tn tc t.kids) (hkx : KV G' w8 xa xn xc x.kids) (hct : t.cnt ≤ 50000) (hcx : x.cnt ≤ 50000) (zs : List Int) (hz : zs.length ≤ 1000) (W : World) (pa : Option Addr) (pc : Nat) (hW : Below w8.heap.size w8 W) (hp : Sli .i64 W pa pc zs) :
    Calls Try.prog 19 #[ndv t ta tn tc, .slice pa zs.length pc, ndv x xa xn xc] W fun e w' => ∃ (z : Nd) (u : Option Addr) (c : Nat) (ok : Bool), e = .returned (.tuple #[ndv z u z.kids.length c, .bool ok]) ∧ z.cnt ≤ 100000 ∧ KV (fun j => j < w8.heap.size ∨ W.heap.size ≤ j) w' u z.kids.length c z.kids ∧ Below W.heap.size W w' := by
  refine (rreplace_any zs t ta tn tc pa pc x xa xn xc w8.heap.size W hW.size (hkt.keep hW.size (fun j _ h => hW.block j h) (fun _ _ h => h)) (hkx.keep hW.size (fun j _ h => hW.block j h) (fun _ _ h => h)) (by omega) hp (by omega)).mono ?_
  rintro e w' ⟨hb, ⟨y, u, c, h1, h2, h3⟩ | ⟨_, h1⟩⟩
  · exact ⟨y, u, c, true, h2, by have := (replN_sz zs t x y h1).1; omega, h3, hb⟩
  · exact ⟨.mk 0 0 ⟨#[]⟩ [], none, 0, false, h1, by simp [Nd.cnt, cnts], .nil (fun _ => rfl) (by omega), hb⟩

set_option maxRecDepth 100000 in
set_option maxHeartbeats 16000000 in
theorem walkSEqual (a : Nd) (aa : Option Addr) (an ac : Nat) (b : Nd) (ba : Option Addr) (bn bc : Nat) (a2 : Option Addr) (c2 : Nat) (ls : List Int) (a3 : Option Addr) (c3 : Nat) (ms : List Int) (fr : Int) (w : World) (hA : IsNd w a aa an ac) (hB : IsNd w b ba bn bc) (hl : Sli .i64 w a2 c2 ls) (hwl : ∀ n ∈ ls, -9223372036854775808 ≤ n ∧ n ≤ 9223372036854775807) (hm : Sli .i64 w a3 c3 ms) (hwm : ∀ n ∈ ms, -9223372036854775808 ≤ n ∧ n ≤ 9223372036854775807) :
    Calls Try.prog 6 #[.agg #[.int .i64 a.id, .int .i64 a.kind, .string a.text, .slice aa an ac], .agg #[.int .i64 b.id, .int .i64 b.kind, .string b.text, .slice ba bn bc], .slice a2 ls.length c2, .slice a3 ms.length c3, .int .i64 fr] w fun e w' => e = .returned (.bool true) ∧ Below w.heap.size w w' := by
  obtain ⟨q, hq⟩ : ∃ q, w.heap.size = q := ⟨_, rfl⟩
  obtain ⟨w1, hw1⟩ : ∃ W, (w.alloc (.cells #[.int .i64 a.id, .int .i64 a.kind, .string a.text, .slice aa an ac] 25)).alloc (.cells #[.int .i64 b.id, .int .i64 b.kind, .string b.text, .slice ba bn bc] 25) = W := ⟨_, rfl⟩
  have b1 : Below w.heap.size w w1 := by rw [← hw1]; exact ((Below.refl _ _).alloc (Nat.le_refl _) _).alloc (by simp) _
  have k1 : Blk w1 q 25 #[.int .i64 a.id, .int .i64 a.kind, .string a.text, .slice aa an ac] := by rw [← hw1, ← hq]; exact (Blk.new _ _ _).alloc _
  have k2 : Blk w1 (q + 1) 25 #[.int .i64 b.id, .int .i64 b.kind, .string b.text, .slice ba bn bc] := by
    rw [← hw1, ← hq]
    have := Blk.new (w.alloc (.cells #[.int .i64 a.id, .int .i64 a.kind, .string a.text, .slice aa an ac] 25)) 25 #[.int .i64 b.id, .int .i64 b.kind, .string b.text, .slice ba bn bc]
    rw [World.size_alloc] at this
    exact this
  have HTA : Hid (∀ W, Below w.heap.size w W → Calls Try.prog 13 #[.agg #[.int .i64 a.id, .int .i64 a.kind, .string a.text, .slice aa an ac], .int .i64 4] W (TidyP 4 W)) := fun W hW => tidy_any _ 3 4 a aa an ac W rfl (by omega) hA.1 (hA.2.on hW)
  have HTB : Hid (∀ W, Below w.heap.size w W → Calls Try.prog 13 #[.agg #[.int .i64 b.id, .int .i64 b.kind, .string b.text, .slice ba bn bc], .int .i64 4] W (TidyP 4 W)) := fun W hW => tidy_any _ 3 4 b ba bn bc W rfl (by omega) hB.1 (hB.2.on hW)
  have hlle := hl.le
  have hlmx := hl.mx
  have HTR : Hid (∀ W, Below w.heap.size w W → Calls Try.prog 12 #[.slice a2 ls.length c2] W (TreeP W)) := fun W hW => Tree_any a2 ls.length c2 hlle hlmx W (slJ_toQ (SlJ.of hl hwl) hW)
  have HMJ : Hid (∀ W, Below w.heap.size w W → SlJ W.heap.size W a3 ms.length) := fun W hW => slJ_toQ (SlJ.of hm hwm) hW
  have hmle := hm.le
  have hmmx := hm.mx
  obtain ⟨ln, hln⟩ : ∃ z, ls.length = z := ⟨_, rfl⟩
  obtain ⟨mn, hmn⟩ : ∃ z, ms.length = z := ⟨_, rfl⟩
  obtain ⟨ai, hai⟩ : ∃ x, a.id = x := ⟨_, rfl⟩
  obtain ⟨ak, hak⟩ : ∃ x, a.kind = x := ⟨_, rfl⟩
  obtain ⟨at_, hat⟩ : ∃ x, a.text = x := ⟨_, rfl⟩
  obtain ⟨bi, hbi⟩ : ∃ x, b.id = x := ⟨_, rfl⟩
  obtain ⟨bk, hbk⟩ : ∃ x, b.kind = x := ⟨_, rfl⟩
  obtain ⟨bt, hbt⟩ : ∃ x, b.text = x := ⟨_, rfl⟩
  rw [hln] at HTR
  rw [hmn] at HMJ hmle
  rw [hln, hmn]
  simp only [hai, hak, hat, hbi, hbk, hbt] at hw1 k1 k2 HTA HTB ⊢
  have HW1 := Lib.hid hw1; have HQ := Lib.hid hq; have HB1 := Lib.hid b1; have HK2 := Lib.hid k2
  have c0 := k1.cell 0
  have c1 := k1.cell 1
  have c2' := k1.cell 2
  have c3' := k1.cell 3
  simp only [List.getElem?_toArray, List.getElem?_cons_zero, List.getElem?_cons_succ] at c0 c1 c2' c3'
  clear hA hB hl hwl hm hwm hq hw1 b1 k1 k2 hln hmn hai hak hat hbi hbk hbt hlle hlmx
  go_enter Try.func6, Try.ntmps6
  go_wp2_with fail
  rw [HW1.out, HQ.out]
  refine (HTA.out w1 HB1.out).mono ?_
  rintro e w2 ⟨x, xa, xn, xc, rfl, hkv, hsm, b2⟩
  obtain ⟨w3, hw3⟩ : ∃ W, w2.alloc (.cells (ndc x xa xn xc) 25) = W := ⟨_, rfl⟩
  have b23 : Below w2.heap.size w2 w3 := by rw [← hw3]; exact (Below.refl _ _).alloc (Nat.le_refl _) _
  have k3 : Blk w3 w2.heap.size 25 (ndc x xa xn xc) := by rw [← hw3]; exact Blk.new _ _ _
  have hkv3 := hkv.on b23
  have bp : Below w1.heap.size w1 w3 := b2.trans (b23.mono b2.size)
  have HBw3 : Hid (Below w.heap.size w w3) := HB1.out.trans (bp.mono HB1.out.size)
  obtain ⟨qx, hqx⟩ : ∃ q, w2.heap.size = q := ⟨_, rfl⟩
  rw [hqx] at k3
  obtain ⟨xi, hi⟩ : ∃ z, x.id = z := ⟨_, rfl⟩
  obtain ⟨xk, hk⟩ : ∃ z, x.kind = z := ⟨_, rfl⟩
  obtain ⟨xt, ht⟩ : ∃ z, x.text = z := ⟨_, rfl⟩
  unfold ndc at hw3 k3
  rw [hi, hk, ht] at hw3 k3
  have HN_x := Lib.hid (And.intro hi (And.intro hk ht)); have HK_x := Lib.hid hkv3; have HB_x := Lib.hid k3; have HW_x := Lib.hid hw3; have HQ_x := Lib.hid hqx
  have hc1 := hsm.cnt
  have hc2 : x.cnt ≤ 625 := hc1
  have HC_x : Hid (x.cnt ≤ 50000) := by show _ ≤ _; omega
  have HK2b := Lib.hid (HK2.out.same (bp.block _ HK2.out.lt))
  have d0 := HK2b.out.cell 0
  have d1 := HK2b.out.cell 1
  have d2 := HK2b.out.cell 2
  have d3 := HK2b.out.cell 3
  simp only [List.getElem?_toArray, List.getElem?_cons_zero, List.getElem?_cons_succ] at d0 d1 d2 d3
  rw [← hw3] at d0 d1 d2 d3
  unfold ndv
  rw [hi, hk, ht]
  clear c0 c1 c2' c3' hkv hsm b2 b23 k3 hkv3 bp hi hk ht hw3 hqx hc1 hc2
  go_wp2_with fail
  rw [HW_x.out, HQ_x.out]
  refine (HTB.out w3 HBw3.out).mono ?_
  rintro e w4 ⟨y, ya, yn, yc, rfl, hkv, hsm, b2⟩
  obtain ⟨w5, hw3⟩ : ∃ W, w4.alloc (.cells (ndc y ya yn yc) 25) = W := ⟨_, rfl⟩
  have b23 : Below w4.heap.size w4 w5 := by rw [← hw3]; exact (Below.refl _ _).alloc (Nat.le_refl _) _
  have k3 : Blk w5 w4.heap.size 25 (ndc y ya yn yc) := by rw [← hw3]; exact Blk.new _ _ _
  have hkv3 := hkv.on b23
  have bp : Below w3.heap.size w3 w5 := b2.trans (b23.mono b2.size)
  have HBw5 : Hid (Below w.heap.size w w5) := HBw3.out.trans (bp.mono HBw3.out.size)
  obtain ⟨qy, hqy⟩ : ∃ q, w4.heap.size = q := ⟨_, rfl⟩
  rw [hqy] at k3
  obtain ⟨yi, hi⟩ : ∃ z, y.id = z := ⟨_, rfl⟩
  obtain ⟨yk, hk⟩ : ∃ z, y.kind = z := ⟨_, rfl⟩
  obtain ⟨yt, ht⟩ : ∃ z, y.text = z := ⟨_, rfl⟩
  unfold ndc at hw3 k3
  rw [hi, hk, ht] at hw3 k3
  have HN_y := Lib.hid (And.intro hi (And.intro hk ht)); have HK_y := Lib.hid hkv3; have HB_y := Lib.hid k3; have HW_y := Lib.hid hw3; have HQ_y := Lib.hid hqy
  have hc1 := hsm.cnt
  have hc2 : y.cnt ≤ 625 := hc1
  have HC_y : Hid (y.cnt ≤ 50000) := by show _ ≤ _; omega
  have HB_x5 := Lib.hid (HB_x.out.same (bp.block _ HB_x.out.lt))
  have HK_x5 := Lib.hid (HK_x.out.on bp)
  unfold ndv
  rw [hi, hk, ht]
  clear d0 d1 d2 d3 hkv hsm b2 b23 k3 hkv3 bp hi hk ht hw3 hqy hc1 hc2
  go_wp2_with fail
  rw [HW_y.out, HQ_y.out]
  refine (HTR.out w5 HBw5.out).mono ?_
  rintro e w6 ⟨n, na, nn, nc, rfl, hkv, hsm, _, b2⟩
  obtain ⟨w8, hw3⟩ : ∃ W, w6.alloc (.cells (ndc n na nn nc) 25) = W := ⟨_, rfl⟩
  have b23 : Below w6.heap.size w6 w8 := by rw [← hw3]; exact (Below.refl _ _).alloc (Nat.le_refl _) _
  have k3 : Blk w8 w6.heap.size 25 (ndc n na nn nc) := by rw [← hw3]; exact Blk.new _ _ _
  have hkv3 := hkv.on b23
  have bp : Below w5.heap.size w5 w8 := b2.trans (b23.mono b2.size)
  have HBw8 : Hid (Below w.heap.size w w8) := HBw5.out.trans (bp.mono HBw5.out.size)
  obtain ⟨qn, hqn⟩ : ∃ q, w6.heap.size = q := ⟨_, rfl⟩
  rw [hqn] at k3
  obtain ⟨ni, hi⟩ : ∃ z, n.id = z := ⟨_, rfl⟩
  obtain ⟨nk, hk⟩ : ∃ z, n.kind = z := ⟨_, rfl⟩
  obtain ⟨nt, ht⟩ : ∃ z, n.text = z := ⟨_, rfl⟩
  unfold ndc at hw3 k3
  rw [hi, hk, ht] at hw3 k3
  have HN_n := Lib.hid (And.intro hi (And.intro hk ht)); have HK_n := Lib.hid hkv3; have HB_n := Lib.hid k3; have HW_n := Lib.hid hw3; have HQ_n := Lib.hid hqn
  have hc1 := hsm.cnt
  have hc2 : n.cnt ≤ 3125 := hc1
  have HC_n : Hid (n.cnt ≤ 50000) := by show _ ≤ _; omega
  have HB_x8 := Lib.hid (HB_x5.out.same (bp.block _ HB_x5.out.lt))
  have HK_x8 := Lib.hid (HK_x5.out.on bp)
  have HB_y8 := Lib.hid (HB_y.out.same (bp.block _ HB_y.out.lt))
  have HK_y8 := Lib.hid (HK_y.out.on bp)
  unfold ndv
  rw [hi, hk, ht]
  have HNX : Hid (∀ V, Below w8.heap.size w8 V → V.cell? ⟨qx, 0, none⟩ = some (.int .i64 xi) ∧ V.cell? ⟨qx, 1, none⟩ = some (.int .i64 xk) ∧ V.cell? ⟨qx, 2, none⟩ = some (.string xt) ∧ V.cell? ⟨qx, 3, none⟩ = some (.slice xa xn xc) ∧ V.cell? ⟨qy, 0, none⟩ = some (.int .i64 yi) ∧ V.cell? ⟨qy, 1, none⟩ = some (.int .i64 yk) ∧ V.cell? ⟨qy, 2, none⟩ = some (.string yt) ∧ V.cell? ⟨qy, 3, none⟩ = some (.slice ya yn yc) ∧ V.cell? ⟨qn, 0, none⟩ = some (.int .i64 ni) ∧ V.cell? ⟨qn, 1, none⟩ = some (.int .i64 nk) ∧ V.cell? ⟨qn, 2, none⟩ = some (.string nt) ∧ V.cell? ⟨qn, 3, none⟩ = some (.slice na nn nc)) := fun V hV => by
    have h1 := HB_x8.out.same (hV.block qx HB_x8.out.lt)
    have h2 := HB_y8.out.same (hV.block qy HB_y8.out.lt)
    have h3 := HB_n.out.same (hV.block qn HB_n.out.lt)
    exact ⟨h1.cell 0, h1.cell 1, h1.cell 2, h1.cell 3, h2.cell 0, h2.cell 1, h2.cell 2, h2.cell 3, h3.cell 0, h3.cell 1, h3.cell 2, h3.cell 3⟩
  have HRO : Hid (∀ W, Below w8.heap.size w8 W → Calls Try.prog 16 #[.agg #[.int .i64 ni, .int .i64 nk, .string nt, .slice na nn nc], .slice a3 mn c3] W fun e w' => ∃ (pa : Option Addr) (L pc : Nat) (zs : List Int), e = .returned (.slice pa L pc) ∧ zs.length = L ∧ L ≤ 3 ∧ Sli .i64 w' pa pc zs ∧ Below W.heap.size W w') := fun W hW => by
    have := route_any n na nn nc a3 mn c3 W _ (HK_n.out.on hW) (HMJ.out W (HBw8.out.trans (hW.mono HBw8.out.size))) hmle hmmx
    unfold ndv at this
    rw [HN_n.out.1, HN_n.out.2.1, HN_n.out.2.2] at this
    refine this.mono ?_
    rintro e w' ⟨zs, hz, hrow⟩
    obtain ⟨pa, pc, h1, h2, h3⟩ := newSli_of_row hrow
    exact ⟨pa, zs.length, pc, zs, h1, rfl, hz, h2, h3⟩
  have HRP : Hid (∀ (W : World) (pa : Option Addr) (L pc : Nat) (zs : List Int), zs.length = L → L ≤ 3 → Below w8.heap.size w8 W → Sli .i64 W pa pc zs → Calls Try.prog 19 #[.agg #[.int .i64 ni, .int .i64 nk, .string nt, .slice na nn nc], .slice pa L pc, .agg #[.int .i64 xi, .int .i64 xk, .string xt, .slice xa xn xc]] W fun e w' => ∃ (z : Nd) (u : Option Addr) (c : Nat) (ok : Bool), e = .returned (.tuple #[.agg #[.int .i64 z.id, .int .i64 z.kind, .string z.text, .slice u z.kids.length c], .bool ok]) ∧ z.cnt ≤ 100000 ∧ KV (fun j => j < w8.heap.size ∨ W.heap.size ≤ j) w' u z.kids.length c z.kids ∧ Below W.heap.size W w') := fun W pa L pc zs hL h3 hW hs => by
    have := rrepl_some n x na xa nn nc xn xc w8 _ _ HK_n.out HK_x8.out HC_n.out HC_x.out zs (by omega) W pa pc hW hs
    unfold ndv at this
    rw [HN_n.out.1, HN_n.out.2.1, HN_n.out.2.2, HN_x.out.1, HN_x.out.2.1, HN_x.out.2.2, hL] at this
    exact this
  have HNM : Hid (∀ W, Below w8.heap.size w8 W → Calls Try.prog 20 #[.agg #[.int .i64 ni, .int .i64 nk, .string nt, .slice na nn nc], .int .i64 fr] W fun e w' => ∃ (u : Option Addr) (c : Nat) (f' : Int), e = .returned (.tuple #[.agg #[.int .i64 fr, .int .i64 nk, .string nt, .slice u nn c], .int .i64 f']) ∧ KV (fun _ => True) w' u nn c (n.numw fr).kids ∧ Below W.heap.size W w') := fun W hW => by
    have := rnumberw_any n.dep n na nn nc fr W _ (Nat.le_refl _) (HK_n.out.on hW) (by have := HC_n.out; omega)
    unfold ndv NwP at this
    rw [HN_n.out.1, HN_n.out.2.1, HN_n.out.2.2] at this
    refine this.mono ?_
    rintro e w' ⟨u, c, h1, h2, h3⟩
    exact ⟨u, c, _, h1, h2.keep (Nat.le_refl _) (fun _ _ _ => rfl) (fun _ _ _ => trivial), h3⟩
  obtain ⟨e1, he1⟩ : ∃ e, x.eqv y = e := ⟨_, rfl⟩
  have HE1 : Hid (∀ W, Below w8.heap.size w8 W → Calls Try.prog 21 #[.agg #[.int .i64 xi, .int .i64 xk, .string xt, .slice xa xn xc], .agg #[.int .i64 yi, .int .i64 yk, .string yt, .slice ya yn yc]] W fun e w' => e = .returned (.bool e1) ∧ Below W.heap.size W w') := fun W hW => by
    have := pequal_any x.dep x y xa xn xc ya yn yc W (fun _ => True) (Nat.le_refl _) ((HK_x8.out.on hW).keep (Nat.le_refl _) (fun _ _ _ => rfl) (fun _ _ _ => trivial)) ((HK_y8.out.on hW).keep (Nat.le_refl _) (fun _ _ _ => rfl) (fun _ _ _ => trivial)) (by have := HC_x.out; omega)
    unfold ndv at this
    rw [HN_x.out.1, HN_x.out.2.1, HN_x.out.2.2, HN_y.out.1, HN_y.out.2.1, HN_y.out.2.2, he1] at this
    exact this
  have HE2 : Hid (∀ W, Below w8.heap.size w8 W → Calls Try.prog 22 #[.agg #[.int .i64 xi, .int .i64 xk, .string xt, .slice xa xn xc], .agg #[.int .i64 yi, .int .i64 yk, .string yt, .slice ya yn yc]] W fun e w' => e = .returned (.bool e1) ∧ Below W.heap.size W w') := fun W hW => by
    have := requal_any x.dep x y xa xn xc ya yn yc W (fun _ => True) (Nat.le_refl _) ((HK_x8.out.on hW).keep (Nat.le_refl _) (fun _ _ _ => rfl) (fun _ _ _ => trivial)) ((HK_y8.out.on hW).keep (Nat.le_refl _) (fun _ _ _ => rfl) (fun _ _ _ => trivial)) (by have := HC_x.out; omega) (by have := HC_y.out; omega)
    unfold ndv at this
    rw [HN_x.out.1, HN_x.out.2.1, HN_x.out.2.2, HN_y.out.1, HN_y.out.2.1, HN_y.out.2.2, he1] at this
    exact this
  have HE6 : Hid (∀ W, Below w8.heap.size w8 W → Calls Try.prog 21 #[.agg #[.int .i64 xi, .int .i64 xk, .string xt, .slice xa xn xc], .agg #[.int .i64 xi, .int .i64 xk, .string xt, .slice xa xn xc]] W fun e w' => e = .returned (.bool true) ∧ Below W.heap.size W w') := fun W hW => by
    have hk := (HK_x8.out.on hW).keep (G' := fun _ => True) (Nat.le_refl _) (fun _ _ _ => rfl) (fun _ _ _ => trivial)
    have := pequal_any x.dep x x xa xn xc xa xn xc W (fun _ => True) (Nat.le_refl _) hk hk (by have := HC_x.out; omega)
    unfold ndv at this
    rw [HN_x.out.1, HN_x.out.2.1, HN_x.out.2.2, Nd.eqv_refl] at this
    exact this
  have HS4 : Hid (∀ V, Below w8.heap.size w8 V → V.cell? ⟨qn, 0, none⟩ = some (.int .i64 ni) ∧ V.cell? ⟨qn, 1, none⟩ = some (.int .i64 nk) ∧ V.cell? ⟨qn, 2, none⟩ = some (.string nt) ∧ V.cell? ⟨qn, 3, none⟩ = some (.slice na nn nc) ∧ V.cell? ⟨qx, 0, none⟩ = some (.int .i64 xi) ∧ V.cell? ⟨qx, 1, none⟩ = some (.int .i64 xk) ∧ V.cell? ⟨qx, 2, none⟩ = some (.string xt) ∧ V.cell? ⟨qx, 3, none⟩ = some (.slice xa xn xc)) := fun V hV => by
    obtain ⟨x0, x1, x2, x3, _, _, _, _, n0, n1, n2, n3⟩ := HNX.out V hV
    exact ⟨n0, n1, n2, n3, x0, x1, x2, x3⟩
  clear hkv hsm b2 b23 k3 hkv3 bp hi hk ht hw3 hqn hc1 hc2 he1
  go_wp2_with fail
  rw [HW_n.out, HQ_n.out]
  refine wp_region_held (S := (fun V : World => V.cell? ⟨qn, 0, none⟩ = some (.int .i64 ni) ∧ V.cell? ⟨qn, 1, none⟩ = some (.int .i64 nk) ∧ V.cell? ⟨qn, 2, none⟩ = some (.string nt) ∧ V.cell? ⟨qn, 3, none⟩ = some (.slice na nn nc) ∧ V.cell? ⟨qx, 0, none⟩ = some (.int .i64 xi) ∧ V.cell? ⟨qx, 1, none⟩ = some (.int .i64 xk) ∧ V.cell? ⟨qx, 2, none⟩ = some (.string xt) ∧ V.cell? ⟨qx, 3, none⟩ = some (.slice xa xn xc))) (by kernel_rfl) ?_
  change wpAnyH _ _ _ _ _ _ _ _ (World.drew _)
  have hS0 := HS4.out w8.drew (Below.refl _ _).drew
  refine takeH (i := 0) (d := (some 25)) (v := ?_) rfl rfl (by kernel_rfl) (by kernel_rfl) (by kernel_rfl) (fun _ _ _ h => h) (Or.inl ⟨by kernel_rfl, ?_⟩) hS0 ?_
  rotate_left
  focus (intro w hSw; (try dsimp only at hSw); go_simp; first | done | with_reducible rfl)
  try simp only [Act.put]
  try simp only [List.setIfInBounds_toArray]
  try simp only [List.set_cons_succ]
  try simp only [List.set_cons_zero]
  refine takeH (i := 1) (d := (some 26)) (v := ?_) rfl rfl (by kernel_rfl) (by kernel_rfl) (by kernel_rfl) (fun _ _ _ h => h) (Or.inl ⟨by kernel_rfl, ?_⟩) hS0 ?_
  rotate_left
  focus (intro w hSw; (try dsimp only at hSw); go_simp; first | done | with_reducible rfl)
  try simp only [Act.put]
  try simp only [List.setIfInBounds_toArray]
  try simp only [List.set_cons_succ]
  try simp only [List.set_cons_zero]
  refine takeH (i := 2) (d := (some 27)) (v := ?_) rfl rfl (by kernel_rfl) (by kernel_rfl) (by kernel_rfl) (fun _ _ _ h => h) (Or.inl ⟨by kernel_rfl, ?_⟩) hS0 ?_
  rotate_left
  focus (intro w hSw; (try dsimp only at hSw); go_simp; first | done | with_reducible rfl)
  try simp only [Act.put]
  try simp only [List.setIfInBounds_toArray]
  try simp only [List.set_cons_succ]
  try simp only [List.set_cons_zero]
  refine takeH (i := 4) (d := (some 29)) (v := ?_) rfl rfl (by kernel_rfl) (by kernel_rfl) (by kernel_rfl) (fun _ _ _ h => h) (Or.inl ⟨by kernel_rfl, ?_⟩) hS0 ?_
  rotate_left
  focus (intro w hSw; (try dsimp only at hSw); go_simp; first | done | with_reducible rfl)
  try simp only [Act.put]
  try simp only [List.setIfInBounds_toArray]
  try simp only [List.set_cons_succ]
  try simp only [List.set_cons_zero]
  refine wpAnyH_ready (rs := [3, 9]) (by kernel_rfl) (by simp) ?_
  refine AllReadyH.cons (o := _) rfl (fun K' hK => ?_) (AllReadyH.cons (o := _) rfl (fun K' hK => ?_) AllReadyH.nil)
  focus
    have b0 : Below w8.heap.size w8 w8.drew := (Below.refl _ _).drew
    go_simp
    go_at_call 16
    refine (HRO.out w8.drew b0).mono ?_
    rintro e w9 ⟨pa, L, pc, zs, rfl, hL, hL3, hsl, br⟩
    have b9 : Below w8.heap.size w8 w9 := b0.trans (br.mono b0.size)
    have hS_w9 := HS4.out w9 b9
    try go_simp
    refine hK.out _ _ hS_w9 (fun hHeld => ?_)
    clear hK K' hHeld
    try simp only [Act.put]
    try simp only [List.setIfInBounds_toArray]
    try simp only [List.set_cons_succ]
    try simp only [List.set_cons_zero]
    refine wpAnyH_ready (rs := [5, 9]) (by kernel_rfl) (by simp) ?_
    refine AllReadyH.cons (o := _) rfl (fun K' hK => ?_) (AllReadyH.cons (o := _) rfl (fun K' hK => ?_) AllReadyH.nil)
    focus
      go_simp
      go_at_call 19
      refine (HRP.out w9 pa L pc zs hL hL3 b9 hsl).mono ?_
      rintro e w10 ⟨z, uz, cz, okz, rfl, hcz, hkz, bz⟩
      have b10 : Below w8.heap.size w8 w10 := b9.trans (bz.mono b9.size)
      have hS_w10 := HS4.out w10 b10
      try go_simp
      obtain ⟨zi, hzi⟩ : ∃ v, z.id = v := ⟨_, rfl⟩
      obtain ⟨zk, hzk⟩ : ∃ v, z.kind = v := ⟨_, rfl⟩
      obtain ⟨zt, hzt⟩ : ∃ v, z.text = v := ⟨_, rfl⟩
      obtain ⟨nz, hnz⟩ : ∃ v, z.kids.length = v := ⟨_, rfl⟩
      have HN_z := Lib.hid (And.intro hzi (And.intro hzk hzt))
      rw [hzi, hzk, hzt, hnz]
      rw [hnz] at hkz
      have HC_z := Lib.hid hcz
      refine hK.out _ _ hS_w10 (fun hHeld => ?_)
      clear hK K' hHeld
      try simp only [Act.put]
      try simp only [List.setIfInBounds_toArray]
      try simp only [List.set_cons_succ]
      try simp only [List.set_cons_zero]
      refine takeH (i := 6) (d := (some 24)) (v := ?_) rfl rfl (by kernel_rfl) (by kernel_rfl) (by kernel_rfl) (fun _ _ _ h => h) (Or.inl ⟨by kernel_rfl, ?_⟩) hS_w10 ?_
      rotate_left
      focus (intro w hSw; (try dsimp only at hSw); go_simp; first | done | with_reducible rfl)
      try simp only [Act.put]
      try simp only [List.setIfInBounds_toArray]
      try simp only [List.set_cons_succ]
      try simp only [List.set_cons_zero]
      refine takeH (i := 7) (d := (some 31)) (v := ?_) rfl rfl (by kernel_rfl) (by kernel_rfl) (by kernel_rfl) (fun _ _ _ h => h) (Or.inl ⟨by kernel_rfl, ?_⟩) hS_w10 ?_
      rotate_left
      focus (intro w hSw; (try dsimp only at hSw); go_simp; first | done | with_reducible rfl)
      try simp only [Act.put]
      try simp only [List.setIfInBounds_toArray]
      try simp only [List.set_cons_succ]
      try simp only [List.set_cons_zero]
      refine takeH (i := 8) (d := (some 32)) (v := ?_) rfl rfl (by kernel_rfl) (by kernel_rfl) (by kernel_rfl) (fun _ _ _ h => h) (Or.inl ⟨by kernel_rfl, ?_⟩) hS_w10 ?_
      rotate_left
      focus (intro w hSw; (try dsimp only at hSw); go_simp; first | done | with_reducible rfl)
      try simp only [Act.put]
      try simp only [List.setIfInBounds_toArray]
      try simp only [List.set_cons_succ]
      try simp only [List.set_cons_zero]
      refine wpAnyH_ready (rs := [9]) (by kernel_rfl) (by simp) ?_
      refine AllReadyH.cons (o := _) rfl (fun K' hK => ?_) AllReadyH.nil
      go_simp
      have b11 : Below w8.heap.size w8 (w10.alloc (.cells #[.int .i64 0, .int .i64 0, .string ⟨#[]⟩, .slice none 0 0] 25)) := b10.alloc b10.size _
      have hS_b11 := HS4.out _ b11
      refine hK.out _ _ hS_b11 (fun hHeld => ?_)
      clear hK K' hHeld
      try simp only [Act.put]
      try simp only [List.setIfInBounds_toArray]
      try simp only [List.set_cons_succ]
      try simp only [List.set_cons_zero]
      refine wpAnyH_ready (rs := [10]) (by kernel_rfl) (by simp) ?_
      refine AllReadyH.cons (o := _) rfl (fun K' hK => ?_) AllReadyH.nil
      go_simp
      obtain ⟨Wz, hWz⟩ : ∃ W, w10.alloc (.cells #[.int .i64 zi, .int .i64 zk, .string zt, .slice uz nz cz] 25) = W := ⟨_, rfl⟩
      have HBZ : Hid (Below w8.heap.size w8 Wz) := by show Below _ _ _; rw [← hWz]; exact b10.alloc b10.size _
      rw [hWz]
      have HRZ : Hid (Blk Wz w10.heap.size 25 #[.int .i64 zi, .int .i64 zk, .string zt, .slice uz nz cz]) := by show Blk _ _ _ _; rw [← hWz]; exact Blk.new _ _ _
      have HKZ : Hid (KV (fun _ => True) Wz uz nz cz z.kids) := by
        show KV _ _ _ _ _ _
        rw [← hWz]
        exact hkz.keep (by simp) (fun j _ hj => Below.heap_alloc _ _ j hj) (fun _ _ _ => trivial)
      obtain ⟨qz, hqz⟩ : ∃ r, w10.heap.size = r := ⟨_, rfl⟩
      rw [hqz] at HRZ ⊢
      have hS8 := HS4.out Wz HBZ.out
      refine hK.out _ _ hS8 (fun hHeld => ?_)
      clear hK K' hHeld
      try simp only [Act.put]
      try simp only [List.setIfInBounds_toArray]
      try simp only [List.set_cons_succ]
      try simp only [List.set_cons_zero]
      refine takeH (i := 11) (d := (some 15)) (v := ?_) rfl rfl (by kernel_rfl) (by kernel_rfl) (by kernel_rfl) (fun _ _ _ h => h) (Or.inl ⟨by kernel_rfl, ?_⟩) hS8 ?_
      rotate_left
      focus (intro w hSw; (try dsimp only at hSw); go_simp; first | done | with_reducible rfl)
      try simp only [Act.put]
      try simp only [List.setIfInBounds_toArray]
      try simp only [List.set_cons_succ]
      try simp only [List.set_cons_zero]
      refine wpAnyH_done (by kernel_rfl) ?_ _
      clear hL hL3 hsl br b0 b9 b10 b11 bz hS0 hS_w9 hS_w10 hS_b11 hS8 hkz hcz hzi hzk hzt hnz hWz hqz
    rotate_left
    focus
      go_simp
      have b11 : Below w8.heap.size w8 (w9.alloc (.cells #[.int .i64 0, .int .i64 0, .string ⟨#[]⟩, .slice none 0 0] 25)) := b9.alloc b9.size _
      have hS_b11 := HS4.out _ b11
      refine hK.out _ _ hS_b11 (fun hHeld => ?_)
      clear hK K' hHeld
      try simp only [Act.put]
      try simp only [List.setIfInBounds_toArray]
      try simp only [List.set_cons_succ]
      try simp only [List.set_cons_zero]
      refine wpAnyH_ready (rs := [5]) (by kernel_rfl) (by simp) ?_
      refine AllReadyH.cons (o := _) rfl (fun K' hK => ?_) AllReadyH.nil
      go_simp
      go_at_call 19
      refine (HRP.out _ pa L pc zs hL hL3 b11 (hsl.below (by exact (Below.refl _ _).alloc (Nat.le_refl _) _))).mono ?_
      rintro e w10 ⟨z, uz, cz, okz, rfl, hcz, hkz, bz⟩
      have b10 : Below w8.heap.size w8 w10 := b11.trans (bz.mono b11.size)
      have hS_w10 := HS4.out w10 b10
      try go_simp
      have kr : Blk w10 w9.heap.size 25 #[.int .i64 0, .int .i64 0, .string ⟨#[]⟩, .slice none 0 0] := (Blk.new w9 25 #[.int .i64 0, .int .i64 0, .string ⟨#[]⟩, .slice none 0 0]).same (bz.block w9.heap.size (by simp))
      have hr1 : w8.heap.size ≤ w9.heap.size := b9.size
      have hr2 : (w9.alloc (.cells #[.int .i64 0, .int .i64 0, .string ⟨#[]⟩, .slice none 0 0] 25)).heap.size = w9.heap.size + 1 := by rw [World.size_alloc]
      rw [hr2] at hkz
      obtain ⟨zi, hzi⟩ : ∃ v, z.id = v := ⟨_, rfl⟩
      obtain ⟨zk, hzk⟩ : ∃ v, z.kind = v := ⟨_, rfl⟩
      obtain ⟨zt, hzt⟩ : ∃ v, z.text = v := ⟨_, rfl⟩
      obtain ⟨nz, hnz⟩ : ∃ v, z.kids.length = v := ⟨_, rfl⟩
      have HN_z := Lib.hid (And.intro hzi (And.intro hzk hzt))
      rw [hzi, hzk, hzt, hnz]
      rw [hnz] at hkz
      have HC_z := Lib.hid hcz
      refine hK.out _ _ hS_w10 (fun hHeld => ?_)
      clear hK K' hHeld
      try simp only [Act.put]
      try simp only [List.setIfInBounds_toArray]
      try simp only [List.set_cons_succ]
      try simp only [List.set_cons_zero]
      refine takeH (i := 6) (d := (some 24)) (v := ?_) rfl rfl (by kernel_rfl) (by kernel_rfl) (by kernel_rfl) (fun _ _ _ h => h) (Or.inl ⟨by kernel_rfl, ?_⟩) hS_w10 ?_
      rotate_left
      focus (intro w hSw; (try dsimp only at hSw); go_simp; first | done | with_reducible rfl)
      try simp only [Act.put]
      try simp only [List.setIfInBounds_toArray]
      try simp only [List.set_cons_succ]
      try simp only [List.set_cons_zero]
      refine takeH (i := 7) (d := (some 31)) (v := ?_) rfl rfl (by kernel_rfl) (by kernel_rfl) (by kernel_rfl) (fun _ _ _ h => h) (Or.inl ⟨by kernel_rfl, ?_⟩) hS_w10 ?_
      rotate_left
      focus (intro w hSw; (try dsimp only at hSw); go_simp; first | done | with_reducible rfl)
      try simp only [Act.put]
      try simp only [List.setIfInBounds_toArray]
      try simp only [List.set_cons_succ]
      try simp only [List.set_cons_zero]
      refine takeH (i := 8) (d := (some 32)) (v := ?_) rfl rfl (by kernel_rfl) (by kernel_rfl) (by kernel_rfl) (fun _ _ _ h => h) (Or.inl ⟨by kernel_rfl, ?_⟩) hS_w10 ?_
      rotate_left
      focus (intro w hSw; (try dsimp only at hSw); go_simp; first | done | with_reducible rfl)
      try simp only [Act.put]
      try simp only [List.setIfInBounds_toArray]
      try simp only [List.set_cons_succ]
      try simp only [List.set_cons_zero]
      refine wpAnyH_ready (rs := [10]) (by kernel_rfl) (by simp) ?_
      refine AllReadyH.cons (o := _) rfl (fun K' hK => ?_) AllReadyH.nil
      have r0 := kr.cell 0
      have r1 := kr.cell 1
      have r2 := kr.cell 2
      have r3 := kr.cell 3
      have s0 := kr.frozen 0
      have s1 := kr.frozen 1
      have s2 := kr.frozen 2
      have s3 := kr.frozen 3
      simp only [List.getElem?_toArray, List.getElem?_cons_zero, List.getElem?_cons_succ] at r0 r1 r2 r3
      go_simp
      obtain ⟨Wz, hWz⟩ : ∃ W, ((((w10.setCell ⟨w9.heap.size, 0, none⟩ (.int .i64 zi)).setCell ⟨w9.heap.size, 1, none⟩ (.int .i64 zk)).setCell ⟨w9.heap.size, 2, none⟩ (.string zt)).setCell ⟨w9.heap.size, 3, none⟩ (.slice uz nz cz)) = W := ⟨_, rfl⟩
      have HBZ : Hid (Below w8.heap.size w8 Wz) := by show Below _ _ _; rw [← hWz]; exact ((((b10.setCell (p := ⟨w9.heap.size, 0, none⟩) (by show w8.heap.size ≤ w9.heap.size; exact hr1) _).setCell (p := ⟨w9.heap.size, 1, none⟩) (by show w8.heap.size ≤ w9.heap.size; exact hr1) _).setCell (p := ⟨w9.heap.size, 2, none⟩) (by show w8.heap.size ≤ w9.heap.size; exact hr1) _).setCell (p := ⟨w9.heap.size, 3, none⟩) (by show w8.heap.size ≤ w9.heap.size; exact hr1) _)
      rw [hWz]
      have HRZ : Hid (Blk Wz w9.heap.size 25 #[.int .i64 zi, .int .i64 zk, .string zt, .slice uz nz cz]) := by show Blk _ _ _ _; rw [← hWz]; simpa using (((kr.set 0 (.int .i64 zi)).set 1 (.int .i64 zk)).set 2 (.string zt)).set 3 (.slice uz nz cz)
      have HKZ : Hid (KV (fun _ => True) Wz uz nz cz z.kids) := by
        show KV _ _ _ _ _ _
        obtain ⟨hbb, hss⟩ := set4 w10 w9.heap.size 0 (.int .i64 zi) (.int .i64 zk) (.string zt) (.slice uz nz cz)
        simp only [Nat.zero_add] at hbb hss
        rw [← hWz]
        exact hkz.keep (by rw [hss]; exact Nat.le_refl _) (fun j hj _ => hbb j (by rcases hj with h | h <;> omega)) (fun _ _ _ => trivial)
      obtain ⟨qz, hqz⟩ : ∃ r, w9.heap.size = r := ⟨_, rfl⟩
      rw [hqz] at HRZ ⊢
      have hS8 := HS4.out Wz HBZ.out
      refine hK.out _ _ hS8 (fun hHeld => ?_)
      clear hK K' hHeld
      try simp only [Act.put]
      try simp only [List.setIfInBounds_toArray]
      try simp only [List.set_cons_succ]
      try simp only [List.set_cons_zero]
      refine takeH (i := 11) (d := (some 15)) (v := ?_) rfl rfl (by kernel_rfl) (by kernel_rfl) (by kernel_rfl) (fun _ _ _ h => h) (Or.inl ⟨by kernel_rfl, ?_⟩) hS8 ?_
      rotate_left
      focus (intro w hSw; (try dsimp only at hSw); go_simp; first | done | with_reducible rfl)
      try simp only [Act.put]
      try simp only [List.setIfInBounds_toArray]
      try simp only [List.set_cons_succ]
      try simp only [List.set_cons_zero]
      refine wpAnyH_done (by kernel_rfl) ?_ _
      clear r0 r1 r2 r3 s0 s1 s2 s3 kr
      clear hL hL3 hsl br b0 b9 b10 b11 bz hS0 hS_w9 hS_w10 hS_b11 hS8 hkz hcz hzi hzk hzt hnz hWz hqz hr1 hr2
  rotate_right
  focus
    have b0 : Below w8.heap.size w8 w8.drew := (Below.refl _ _).drew
    go_simp
    have b11 : Below w8.heap.size w8 (w8.drew.alloc (.cells #[.int .i64 0, .int .i64 0, .string ⟨#[]⟩, .slice none 0 0] 25)) := b0.alloc b0.size _
    have hS_b11 := HS4.out _ b11
    refine hK.out _ _ hS_b11 (fun hHeld => ?_)
    clear hK K' hHeld
    try simp only [Act.put]
    try simp only [List.setIfInBounds_toArray]
    try simp only [List.set_cons_succ]
    try simp only [List.set_cons_zero]
    refine wpAnyH_ready (rs := [3]) (by kernel_rfl) (by simp) ?_
    refine AllReadyH.cons (o := _) rfl (fun K' hK => ?_) AllReadyH.nil
    go_simp
    go_at_call 16
    refine (HRO.out _ b11).mono ?_
    rintro e w9 ⟨pa, L, pc, zs, rfl, hL, hL3, hsl, br⟩
    have b9 : Below w8.heap.size w8 w9 := b11.trans (br.mono b11.size)
    have hS_w9 := HS4.out w9 b9
    try go_simp
    refine hK.out _ _ hS_w9 (fun hHeld => ?_)
    clear hK K' hHeld
    try simp only [Act.put]
    try simp only [List.setIfInBounds_toArray]
    try simp only [List.set_cons_succ]
    try simp only [List.set_cons_zero]
    have kr9 : Blk w9 w8.heap.size 25 #[.int .i64 0, .int .i64 0, .string ⟨#[]⟩, .slice none 0 0] := (Blk.new w8.drew 25 #[.int .i64 0, .int .i64 0, .string ⟨#[]⟩, .slice none 0 0]).same (br.block w8.heap.size (by simp))
    have hr2 : (w8.drew.alloc (.cells #[.int .i64 0, .int .i64 0, .string ⟨#[]⟩, .slice none 0 0] 25)).heap.size = w8.heap.size + 1 := by rw [World.size_alloc]; rfl
    have hr3 := br.size
    rw [hr2] at hr3
    refine wpAnyH_ready (rs := [5]) (by kernel_rfl) (by simp) ?_
    refine AllReadyH.cons (o := _) rfl (fun K' hK => ?_) AllReadyH.nil
    go_simp
    go_at_call 19
    refine (HRP.out w9 pa L pc zs hL hL3 b9 hsl).mono ?_
    rintro e w10 ⟨z, uz, cz, okz, rfl, hcz, hkz, bz⟩
    have b10 : Below w8.heap.size w8 w10 := b9.trans (bz.mono b9.size)
    have hS_w10 := HS4.out w10 b10
    try go_simp
    have kr : Blk w10 w8.heap.size 25 #[.int .i64 0, .int .i64 0, .string ⟨#[]⟩, .slice none 0 0] := kr9.same (bz.block w8.heap.size (by omega))
    have hr1 : w8.heap.size ≤ w8.heap.size := Nat.le_refl _
    obtain ⟨zi, hzi⟩ : ∃ v, z.id = v := ⟨_, rfl⟩
    obtain ⟨zk, hzk⟩ : ∃ v, z.kind = v := ⟨_, rfl⟩
    obtain ⟨zt, hzt⟩ : ∃ v, z.text = v := ⟨_, rfl⟩
    obtain ⟨nz, hnz⟩ : ∃ v, z.kids.length = v := ⟨_, rfl⟩
    have HN_z := Lib.hid (And.intro hzi (And.intro hzk hzt))
    rw [hzi, hzk, hzt, hnz]
    rw [hnz] at hkz
    have HC_z := Lib.hid hcz
    refine hK.out _ _ hS_w10 (fun hHeld => ?_)
    clear hK K' hHeld
    try simp only [Act.put]
    try simp only [List.setIfInBounds_toArray]
    try simp only [List.set_cons_succ]
    try simp only [List.set_cons_zero]
    refine takeH (i := 6) (d := (some 24)) (v := ?_) rfl rfl (by kernel_rfl) (by kernel_rfl) (by kernel_rfl) (fun _ _ _ h => h) (Or.inl ⟨by kernel_rfl, ?_⟩) hS_w10 ?_
    rotate_left
    focus (intro w hSw; (try dsimp only at hSw); go_simp; first | done | with_reducible rfl)
    try simp only [Act.put]
    try simp only [List.setIfInBounds_toArray]
    try simp only [List.set_cons_succ]
    try simp only [List.set_cons_zero]
    refine takeH (i := 7) (d := (some 31)) (v := ?_) rfl rfl (by kernel_rfl) (by kernel_rfl) (by kernel_rfl) (fun _ _ _ h => h) (Or.inl ⟨by kernel_rfl, ?_⟩) hS_w10 ?_
    rotate_left
    focus (intro w hSw; (try dsimp only at hSw); go_simp; first | done | with_reducible rfl)
    try simp only [Act.put]
    try simp only [List.setIfInBounds_toArray]
    try simp only [List.set_cons_succ]
    try simp only [List.set_cons_zero]
    refine takeH (i := 8) (d := (some 32)) (v := ?_) rfl rfl (by kernel_rfl) (by kernel_rfl) (by kernel_rfl) (fun _ _ _ h => h) (Or.inl ⟨by kernel_rfl, ?_⟩) hS_w10 ?_
    rotate_left
    focus (intro w hSw; (try dsimp only at hSw); go_simp; first | done | with_reducible rfl)
    try simp only [Act.put]
    try simp only [List.setIfInBounds_toArray]
    try simp only [List.set_cons_succ]
    try simp only [List.set_cons_zero]
    refine wpAnyH_ready (rs := [10]) (by kernel_rfl) (by simp) ?_
    refine AllReadyH.cons (o := _) rfl (fun K' hK => ?_) AllReadyH.nil
    have r0 := kr.cell 0
    have r1 := kr.cell 1
    have r2 := kr.cell 2
    have r3 := kr.cell 3
    have s0 := kr.frozen 0
    have s1 := kr.frozen 1
    have s2 := kr.frozen 2
    have s3 := kr.frozen 3
    simp only [List.getElem?_toArray, List.getElem?_cons_zero, List.getElem?_cons_succ] at r0 r1 r2 r3
    go_simp
    obtain ⟨Wz, hWz⟩ : ∃ W, ((((w10.setCell ⟨w8.heap.size, 0, none⟩ (.int .i64 zi)).setCell ⟨w8.heap.size, 1, none⟩ (.int .i64 zk)).setCell ⟨w8.heap.size, 2, none⟩ (.string zt)).setCell ⟨w8.heap.size, 3, none⟩ (.slice uz nz cz)) = W := ⟨_, rfl⟩
    have HBZ : Hid (Below w8.heap.size w8 Wz) := by show Below _ _ _; rw [← hWz]; exact ((((b10.setCell (p := ⟨w8.heap.size, 0, none⟩) (by show w8.heap.size ≤ w8.heap.size; exact hr1) _).setCell (p := ⟨w8.heap.size, 1, none⟩) (by show w8.heap.size ≤ w8.heap.size; exact hr1) _).setCell (p := ⟨w8.heap.size, 2, none⟩) (by show w8.heap.size ≤ w8.heap.size; exact hr1) _).setCell (p := ⟨w8.heap.size, 3, none⟩) (by show w8.heap.size ≤ w8.heap.size; exact hr1) _)
    rw [hWz]
    have HRZ : Hid (Blk Wz w8.heap.size 25 #[.int .i64 zi, .int .i64 zk, .string zt, .slice uz nz cz]) := by show Blk _ _ _ _; rw [← hWz]; simpa using (((kr.set 0 (.int .i64 zi)).set 1 (.int .i64 zk)).set 2 (.string zt)).set 3 (.slice uz nz cz)
    have HKZ : Hid (KV (fun _ => True) Wz uz nz cz z.kids) := by
      show KV _ _ _ _ _ _
      obtain ⟨hbb, hss⟩ := set4 w10 w8.heap.size 0 (.int .i64 zi) (.int .i64 zk) (.string zt) (.slice uz nz cz)
      simp only [Nat.zero_add] at hbb hss
      rw [← hWz]
      exact hkz.keep (by rw [hss]; exact Nat.le_refl _) (fun j hj _ => hbb j (by rcases hj with h | h <;> omega)) (fun _ _ _ => trivial)
    obtain ⟨qz, hqz⟩ : ∃ r, w8.heap.size = r := ⟨_, rfl⟩
    rw [hqz] at HRZ ⊢
    have hS8 := HS4.out Wz HBZ.out
    refine hK.out _ _ hS8 (fun hHeld => ?_)
    clear hK K' hHeld
    try simp only [Act.put]
    try simp only [List.setIfInBounds_toArray]
    try simp only [List.set_cons_succ]
    try simp only [List.set_cons_zero]
    refine takeH (i := 11) (d := (some 15)) (v := ?_) rfl rfl (by kernel_rfl) (by kernel_rfl) (by kernel_rfl) (fun _ _ _ h => h) (Or.inl ⟨by kernel_rfl, ?_⟩) hS8 ?_
    rotate_left
    focus (intro w hSw; (try dsimp only at hSw); go_simp; first | done | with_reducible rfl)
    try simp only [Act.put]
    try simp only [List.setIfInBounds_toArray]
    try simp only [List.set_cons_succ]
    try simp only [List.set_cons_zero]
    refine wpAnyH_done (by kernel_rfl) ?_ _
    clear r0 r1 r2 r3 s0 s1 s2 s3 kr
    clear hL hL3 hsl br b0 b9 b10 b11 bz hS0 hS_w9 hS_w10 hS_b11 hS8 hkz hcz hzi hzk hzt hnz hWz hqz hr1 hr2 hr3 kr9
  all_goals
    obtain ⟨x0, x1, x2, x3, _, _, _, _, n0, n1, n2, n3⟩ := HNX.out Wz HBZ.out
    clear x0 x1 x2 x3
    go_wp2_with fail
    refine (HNM.out Wz HBZ.out).mono ?_
    rintro e wn ⟨uk, ck, f', rfl, hkk, bk⟩
    obtain ⟨Wk, hWk⟩ : ∃ W, wn.alloc (.cells #[.int .i64 fr, .int .i64 nk, .string nt, .slice uk nn ck] 25) = W := ⟨_, rfl⟩
    have bWk : Below wn.heap.size wn Wk := by rw [← hWk]; exact (Below.refl _ _).alloc (Nat.le_refl _) _
    have kk : Blk Wk wn.heap.size 25 #[.int .i64 fr, .int .i64 nk, .string nt, .slice uk nn ck] := by rw [← hWk]; exact Blk.new _ _ _
    have bzk : Below Wz.heap.size Wz Wk := bk.trans (bWk.mono bk.size)
    have HBK : Hid (Below w8.heap.size w8 Wk) := HBZ.out.trans (bzk.mono HBZ.out.size)
    have HRK := Lib.hid (HRZ.out.same (bzk.block qz HRZ.out.lt))
    have HKZ2 := Lib.hid (HKZ.out.on bzk)
    have HKK := Lib.hid (hkk.on bWk)
    obtain ⟨qk, hqk⟩ : ∃ r, wn.heap.size = r := ⟨_, rfl⟩
    rw [hqk] at kk
    have HKB := Lib.hid kk; have HWK := Lib.hid hWk; have HQK := Lib.hid hqk
    have HS6 : Hid (∀ V, Below Wk.heap.size Wk V → V.cell? ⟨qx, 0, none⟩ = some (.int .i64 xi) ∧ V.cell? ⟨qx, 1, none⟩ = some (.int .i64 xk) ∧ V.cell? ⟨qx, 2, none⟩ = some (.string xt) ∧ V.cell? ⟨qx, 3, none⟩ = some (.slice xa xn xc) ∧ V.cell? ⟨qy, 0, none⟩ = some (.int .i64 yi) ∧ V.cell? ⟨qy, 1, none⟩ = some (.int .i64 yk) ∧ V.cell? ⟨qy, 2, none⟩ = some (.string yt) ∧ V.cell? ⟨qy, 3, none⟩ = some (.slice ya yn yc) ∧ V.cell? ⟨qn, 0, none⟩ = some (.int .i64 ni) ∧ V.cell? ⟨qn, 1, none⟩ = some (.int .i64 nk) ∧ V.cell? ⟨qn, 2, none⟩ = some (.string nt) ∧ V.cell? ⟨qn, 3, none⟩ = some (.slice na nn nc) ∧ V.cell? ⟨qz, 0, none⟩ = some (.int .i64 zi) ∧ V.cell? ⟨qz, 1, none⟩ = some (.int .i64 zk) ∧ V.cell? ⟨qz, 2, none⟩ = some (.string zt) ∧ V.cell? ⟨qz, 3, none⟩ = some (.slice uz nz cz) ∧ V.cell? ⟨qk, 0, none⟩ = some (.int .i64 fr) ∧ V.cell? ⟨qk, 1, none⟩ = some (.int .i64 nk) ∧ V.cell? ⟨qk, 2, none⟩ = some (.string nt) ∧ V.cell? ⟨qk, 3, none⟩ = some (.slice uk nn ck)) := fun V hV => by
      obtain ⟨x0, x1, x2, x3, y0, y1, y2, y3, n0, n1, n2, n3⟩ := HNX.out V (HBK.out.trans (hV.mono HBK.out.size))
      have h1 := HRK.out.same (hV.block qz HRK.out.lt)
      have h2 := HKB.out.same (hV.block qk HKB.out.lt)
      exact ⟨x0, x1, x2, x3, y0, y1, y2, y3, n0, n1, n2, n3, h1.cell 0, h1.cell 1, h1.cell 2, h1.cell 3, h2.cell 0, h2.cell 1, h2.cell 2, h2.cell 3⟩
    obtain ⟨e2, he2⟩ : ∃ e, n.eqv z = e := ⟨_, rfl⟩
    have hlz : z.kids.length = nz := HKZ.out.len.1
    have HE3 : Hid (∀ W, Below Wk.heap.size Wk W → Calls Try.prog 21 #[.agg #[.int .i64 ni, .int .i64 nk, .string nt, .slice na nn nc], .agg #[.int .i64 zi, .int .i64 zk, .string zt, .slice uz nz cz]] W fun e w' => e = .returned (.bool e2) ∧ Below W.heap.size W w') := fun W hW => by
      have := pequal_any n.dep n z na nn nc uz nz cz W (fun _ => True) (Nat.le_refl _) ((HK_n.out.on (HBK.out.trans (hW.mono HBK.out.size))).keep (Nat.le_refl _) (fun _ _ _ => rfl) (fun _ _ _ => trivial)) (HKZ2.out.on hW) (by have := HC_n.out; omega)
      unfold ndv at this
      rw [HN_n.out.1, HN_n.out.2.1, HN_n.out.2.2, HN_z.out.1, HN_z.out.2.1, HN_z.out.2.2, he2] at this
      exact this
    have HE4 : Hid (∀ W, Below Wk.heap.size Wk W → Calls Try.prog 22 #[.agg #[.int .i64 ni, .int .i64 nk, .string nt, .slice na nn nc], .agg #[.int .i64 zi, .int .i64 zk, .string zt, .slice uz nz cz]] W fun e w' => e = .returned (.bool e2) ∧ Below W.heap.size W w') := fun W hW => by
      have := requal_any n.dep n z na nn nc uz nz cz W (fun _ => True) (Nat.le_refl _) ((HK_n.out.on (HBK.out.trans (hW.mono HBK.out.size))).keep (Nat.le_refl _) (fun _ _ _ => rfl) (fun _ _ _ => trivial)) (HKZ2.out.on hW) (by have := HC_n.out; omega) HC_z.out
      unfold ndv at this
      rw [HN_n.out.1, HN_n.out.2.1, HN_n.out.2.2, HN_z.out.1, HN_z.out.2.1, HN_z.out.2.2, he2] at this
      exact this
    have HE5 : Hid (∀ W, Below Wk.heap.size Wk W → Calls Try.prog 21 #[.agg #[.int .i64 ni, .int .i64 nk, .string nt, .slice na nn nc], .agg #[.int .i64 fr, .int .i64 nk, .string nt, .slice uk nn ck]] W fun e w' => e = .returned (.bool true) ∧ Below W.heap.size W w') := fun W hW => by
      have := pequal_any n.dep n (n.numw fr) na nn nc uk nn ck W (fun _ => True) (Nat.le_refl _) ((HK_n.out.on (HBK.out.trans (hW.mono HBK.out.size))).keep (Nat.le_refl _) (fun _ _ _ => rfl) (fun _ _ _ => trivial)) (HKK.out.on hW) (by have := HC_n.out; omega)
      rw [numw_eqv] at this
      unfold ndv at this
      have h1 : (n.numw fr).id = fr ∧ (n.numw fr).kind = n.kind ∧ (n.numw fr).text = n.text := by rw [Nd.numw_eq]; exact ⟨rfl, rfl, rfl⟩
      rw [h1.1, h1.2.1, h1.2.2, HN_n.out.1, HN_n.out.2.1, HN_n.out.2.2] at this
      exact this
    have hS0 := HS6.out Wk.drew (Below.refl _ _).drew
    have q1 : (e1 == e1) = true := by simp
    have q2 : (e2 == e2) = true := by simp
    clear hkk bk hWk bWk kk bzk hqk he2 hlz n0 n1 n2 n3
    go_wp2_with fail
    rw [HWK.out, HQK.out]
    refine wp_region_held (S := (fun V : World => V.cell? ⟨qx, 0, none⟩ = some (.int .i64 xi) ∧ V.cell? ⟨qx, 1, none⟩ = some (.int .i64 xk) ∧ V.cell? ⟨qx, 2, none⟩ = some (.string xt) ∧ V.cell? ⟨qx, 3, none⟩ = some (.slice xa xn xc) ∧ V.cell? ⟨qy, 0, none⟩ = some (.int .i64 yi) ∧ V.cell? ⟨qy, 1, none⟩ = some (.int .i64 yk) ∧ V.cell? ⟨qy, 2, none⟩ = some (.string yt) ∧ V.cell? ⟨qy, 3, none⟩ = some (.slice ya yn yc) ∧ V.cell? ⟨qn, 0, none⟩ = some (.int .i64 ni) ∧ V.cell? ⟨qn, 1, none⟩ = some (.int .i64 nk) ∧ V.cell? ⟨qn, 2, none⟩ = some (.string nt) ∧ V.cell? ⟨qn, 3, none⟩ = some (.slice na nn nc) ∧ V.cell? ⟨qz, 0, none⟩ = some (.int .i64 zi) ∧ V.cell? ⟨qz, 1, none⟩ = some (.int .i64 zk) ∧ V.cell? ⟨qz, 2, none⟩ = some (.string zt) ∧ V.cell? ⟨qz, 3, none⟩ = some (.slice uz nz cz) ∧ V.cell? ⟨qk, 0, none⟩ = some (.int .i64 fr) ∧ V.cell? ⟨qk, 1, none⟩ = some (.int .i64 nk) ∧ V.cell? ⟨qk, 2, none⟩ = some (.string nt) ∧ V.cell? ⟨qk, 3, none⟩ = some (.slice uk nn ck))) (by kernel_rfl) ?_
    change wpAnyH _ _ _ _ _ _ _ _ (World.drew _)
    have b0 : Below Wk.heap.size Wk Wk.drew := (Below.refl _ _).drew
    refine takeH (i := 0) (d := (some 39)) (v := ?_) rfl rfl (by kernel_rfl) (by kernel_rfl) (by kernel_rfl) (fun _ _ _ h => h) (Or.inl ⟨by kernel_rfl, ?_⟩) hS0 ?_
    rotate_left
    focus (intro w hSw; (try dsimp only at hSw); go_simp; first | done | with_reducible rfl)
    try simp only [Act.put]
    try simp only [List.setIfInBounds_toArray]
    try simp only [List.set_cons_succ]
    try simp only [List.set_cons_zero]
    refine takeH (i := 1) (d := (some 40)) (v := ?_) rfl rfl (by kernel_rfl) (by kernel_rfl) (by kernel_rfl) (fun _ _ _ h => h) (Or.inl ⟨by kernel_rfl, ?_⟩) hS0 ?_
    rotate_left
    focus (intro w hSw; (try dsimp only at hSw); go_simp; first | done | with_reducible rfl)
    try simp only [Act.put]
    try simp only [List.setIfInBounds_toArray]
    try simp only [List.set_cons_succ]
    try simp only [List.set_cons_zero]
    refine takeH (i := 3) (d := (some 42)) (v := ?_) rfl rfl (by kernel_rfl) (by kernel_rfl) (by kernel_rfl) (fun _ _ _ h => h) (Or.inl ⟨by kernel_rfl, ?_⟩) hS0 ?_
    rotate_left
    focus (intro w hSw; (try dsimp only at hSw); go_simp; first | done | with_reducible rfl)
    try simp only [Act.put]
    try simp only [List.setIfInBounds_toArray]
    try simp only [List.set_cons_succ]
    try simp only [List.set_cons_zero]
    refine takeH (i := 4) (d := (some 43)) (v := ?_) rfl rfl (by kernel_rfl) (by kernel_rfl) (by kernel_rfl) (fun _ _ _ h => h) (Or.inl ⟨by kernel_rfl, ?_⟩) hS0 ?_
    rotate_left
    focus (intro w hSw; (try dsimp only at hSw); go_simp; first | done | with_reducible rfl)
    try simp only [Act.put]
    try simp only [List.setIfInBounds_toArray]
    try simp only [List.set_cons_succ]
    try simp only [List.set_cons_zero]
    refine wpAnyH_ready (rs := [2]) (by kernel_rfl) (by simp) ?_
    refine AllReadyH.cons (o := _) rfl (fun K' hK => ?_) AllReadyH.nil
    go_simp
    go_at_call 21
    refine (HE1.out Wk.drew (HBK.out.trans (b0.mono HBK.out.size))).mono ?_
    rintro e v1 ⟨rfl, bq⟩
    have b1 : Below Wk.heap.size Wk v1 := b0.trans (bq.mono b0.size)
    have hS_v1 := HS6.out v1 b1
    try go_simp
    refine hK.out _ _ hS_v1 (fun hHeld => ?_)
    clear hK K' hHeld
    try simp only [Act.put]
    try simp only [List.setIfInBounds_toArray]
    try simp only [List.set_cons_succ]
    try simp only [List.set_cons_zero]
    refine wpAnyH_ready (rs := [5]) (by kernel_rfl) (by simp) ?_
    refine AllReadyH.cons (o := _) rfl (fun K' hK => ?_) AllReadyH.nil
    go_simp
    go_at_call 22
    refine (HE2.out v1 (HBK.out.trans (b1.mono HBK.out.size))).mono ?_
    rintro e v2 ⟨rfl, bq⟩
    have b2 : Below Wk.heap.size Wk v2 := b1.trans (bq.mono b1.size)
    have hS_v2 := HS6.out v2 b2
    try go_simp
    refine hK.out _ _ hS_v2 (fun hHeld => ?_)
    clear hK K' hHeld
    try simp only [Act.put]
    try simp only [List.setIfInBounds_toArray]
    try simp only [List.set_cons_succ]
    try simp only [List.set_cons_zero]
    refine takeH (i := 6) (d := (some 45)) (v := .bool true) rfl rfl (by kernel_rfl) (by kernel_rfl) (by kernel_rfl) (fun _ _ _ h => h) (Or.inl ⟨by kernel_rfl, ?_⟩) hS_v2 ?_
    focus (intro w hSw; (try dsimp only at hSw); go_simp; first | done | (simp; done) | with_reducible rfl)
    try simp only [Act.put]
    try simp only [List.setIfInBounds_toArray]
    try simp only [List.set_cons_succ]
    try simp only [List.set_cons_zero]
    refine takeH (i := 7) (d := (some 46)) (v := .bool true) rfl rfl (by kernel_rfl) (by kernel_rfl) (by kernel_rfl) (fun _ _ _ h => h) (Or.inl ⟨by kernel_rfl, ?_⟩) hS_v2 ?_
    focus (intro w hSw; (try dsimp only at hSw); go_simp; first | done | (simp; done) | with_reducible rfl)
    try simp only [Act.put]
    try simp only [List.setIfInBounds_toArray]
    try simp only [List.set_cons_succ]
    try simp only [List.set_cons_zero]
    refine takeH (i := 8) (d := (some 47)) (v := ?_) rfl rfl (by kernel_rfl) (by kernel_rfl) (by kernel_rfl) (fun _ _ _ h => h) (Or.inl ⟨by kernel_rfl, ?_⟩) hS_v2 ?_
    rotate_left
    focus (intro w hSw; (try dsimp only at hSw); go_simp; first | done | with_reducible rfl)
    try simp only [Act.put]
    try simp only [List.setIfInBounds_toArray]
    try simp only [List.set_cons_succ]
    try simp only [List.set_cons_zero]
    refine takeH (i := 9) (d := (some 48)) (v := ?_) rfl rfl (by kernel_rfl) (by kernel_rfl) (by kernel_rfl) (fun _ _ _ h => h) (Or.inl ⟨by kernel_rfl, ?_⟩) hS_v2 ?_
    rotate_left
    focus (intro w hSw; (try dsimp only at hSw); go_simp; first | done | with_reducible rfl)
    try simp only [Act.put]
    try simp only [List.setIfInBounds_toArray]
    try simp only [List.set_cons_succ]
    try simp only [List.set_cons_zero]
    refine takeH (i := 11) (d := (some 50)) (v := ?_) rfl rfl (by kernel_rfl) (by kernel_rfl) (by kernel_rfl) (fun _ _ _ h => h) (Or.inl ⟨by kernel_rfl, ?_⟩) hS_v2 ?_
    rotate_left
    focus (intro w hSw; (try dsimp only at hSw); go_simp; first | done | with_reducible rfl)
    try simp only [Act.put]
    try simp only [List.setIfInBounds_toArray]
    try simp only [List.set_cons_succ]
    try simp only [List.set_cons_zero]
    refine takeH (i := 12) (d := (some 51)) (v := ?_) rfl rfl (by kernel_rfl) (by kernel_rfl) (by kernel_rfl) (fun _ _ _ h => h) (Or.inl ⟨by kernel_rfl, ?_⟩) hS_v2 ?_
    rotate_left
    focus (intro w hSw; (try dsimp only at hSw); go_simp; first | done | with_reducible rfl)
    try simp only [Act.put]
    try simp only [List.setIfInBounds_toArray]
    try simp only [List.set_cons_succ]
    try simp only [List.set_cons_zero]
    refine wpAnyH_ready (rs := [10]) (by kernel_rfl) (by simp) ?_
    refine AllReadyH.cons (o := _) rfl (fun K' hK => ?_) AllReadyH.nil
    go_simp
    go_at_call 21
    refine (HE3.out v2 b2).mono ?_
    rintro e v3 ⟨rfl, bq⟩
    have b3 : Below Wk.heap.size Wk v3 := b2.trans (bq.mono b2.size)
    have hS_v3 := HS6.out v3 b3
    try go_simp
    refine hK.out _ _ hS_v3 (fun hHeld => ?_)
    clear hK K' hHeld
    try simp only [Act.put]
    try simp only [List.setIfInBounds_toArray]
    try simp only [List.set_cons_succ]
    try simp only [List.set_cons_zero]
    refine wpAnyH_ready (rs := [13]) (by kernel_rfl) (by simp) ?_
    refine AllReadyH.cons (o := _) rfl (fun K' hK => ?_) AllReadyH.nil
    go_simp
    go_at_call 22
    refine (HE4.out v3 b3).mono ?_
    rintro e v4 ⟨rfl, bq⟩
    have b4 : Below Wk.heap.size Wk v4 := b3.trans (bq.mono b3.size)
    have hS_v4 := HS6.out v4 b4
    try go_simp
    refine hK.out _ _ hS_v4 (fun hHeld => ?_)
    clear hK K' hHeld
    try simp only [Act.put]
    try simp only [List.setIfInBounds_toArray]
    try simp only [List.set_cons_succ]
    try simp only [List.set_cons_zero]
    refine takeH (i := 14) (d := (some 53)) (v := .bool true) rfl rfl (by kernel_rfl) (by kernel_rfl) (by kernel_rfl) (fun _ _ _ h => h) (Or.inl ⟨by kernel_rfl, ?_⟩) hS_v4 ?_
    focus (intro w hSw; (try dsimp only at hSw); go_simp; first | done | (simp; done) | with_reducible rfl)
    try simp only [Act.put]
    try simp only [List.setIfInBounds_toArray]
    try simp only [List.set_cons_succ]
    try simp only [List.set_cons_zero]
    refine takeH (i := 15) (d := (some 54)) (v := .bool true) rfl rfl (by kernel_rfl) (by kernel_rfl) (by kernel_rfl) (fun _ _ _ h => h) (Or.inl ⟨by kernel_rfl, ?_⟩) hS_v4 ?_
    focus (intro w hSw; (try dsimp only at hSw); go_simp; first | done | (simp; done) | with_reducible rfl)
    try simp only [Act.put]
    try simp only [List.setIfInBounds_toArray]
    try simp only [List.set_cons_succ]
    try simp only [List.set_cons_zero]
    refine takeH (i := 16) (d := (some 55)) (v := .bool true) rfl rfl (by kernel_rfl) (by kernel_rfl) (by kernel_rfl) (fun _ _ _ h => h) (Or.inl ⟨by kernel_rfl, ?_⟩) hS_v4 ?_
    focus (intro w hSw; (try dsimp only at hSw); go_simp; first | done | (simp; done) | with_reducible rfl)
    try simp only [Act.put]
    try simp only [List.setIfInBounds_toArray]
    try simp only [List.set_cons_succ]
    try simp only [List.set_cons_zero]
    refine takeH (i := 17) (d := (some 56)) (v := ?_) rfl rfl (by kernel_rfl) (by kernel_rfl) (by kernel_rfl) (fun _ _ _ h => h) (Or.inl ⟨by kernel_rfl, ?_⟩) hS_v4 ?_
    rotate_left
    focus (intro w hSw; (try dsimp only at hSw); go_simp; first | done | with_reducible rfl)
    try simp only [Act.put]
    try simp only [List.setIfInBounds_toArray]
    try simp only [List.set_cons_succ]
    try simp only [List.set_cons_zero]
    refine takeH (i := 18) (d := (some 57)) (v := ?_) rfl rfl (by kernel_rfl) (by kernel_rfl) (by kernel_rfl) (fun _ _ _ h => h) (Or.inl ⟨by kernel_rfl, ?_⟩) hS_v4 ?_
    rotate_left
    focus (intro w hSw; (try dsimp only at hSw); go_simp; first | done | with_reducible rfl)
    try simp only [Act.put]
    try simp only [List.setIfInBounds_toArray]
    try simp only [List.set_cons_succ]
    try simp only [List.set_cons_zero]
    refine wpAnyH_ready (rs := [19]) (by kernel_rfl) (by simp) ?_
    refine AllReadyH.cons (o := _) rfl (fun K' hK => ?_) AllReadyH.nil
    go_simp
    go_at_call 21
    refine (HE5.out v4 b4).mono ?_
    rintro e v5 ⟨rfl, bq⟩
    have b5 : Below Wk.heap.size Wk v5 := b4.trans (bq.mono b4.size)
    have hS_v5 := HS6.out v5 b5
    try go_simp
    refine hK.out _ _ hS_v5 (fun hHeld => ?_)
    clear hK K' hHeld
    try simp only [Act.put]
    try simp only [List.setIfInBounds_toArray]
    try simp only [List.set_cons_succ]
    try simp only [List.set_cons_zero]
    refine takeH (i := 20) (d := (some 59)) (v := .bool true) rfl rfl (by kernel_rfl) (by kernel_rfl) (by kernel_rfl) (fun _ _ _ h => h) (Or.inl ⟨by kernel_rfl, ?_⟩) hS_v5 ?_
    focus (intro w hSw; (try dsimp only at hSw); go_simp; first | done | (simp; done) | with_reducible rfl)
    try simp only [Act.put]
    try simp only [List.setIfInBounds_toArray]
    try simp only [List.set_cons_succ]
    try simp only [List.set_cons_zero]
    refine takeH (i := 21) (d := (some 60)) (v := .bool true) rfl rfl (by kernel_rfl) (by kernel_rfl) (by kernel_rfl) (fun _ _ _ h => h) (Or.inl ⟨by kernel_rfl, ?_⟩) hS_v5 ?_
    focus (intro w hSw; (try dsimp only at hSw); go_simp; first | done | (simp; done) | with_reducible rfl)
    try simp only [Act.put]
    try simp only [List.setIfInBounds_toArray]
    try simp only [List.set_cons_succ]
    try simp only [List.set_cons_zero]
    refine takeH (i := 22) (d := (some 61)) (v := ?_) rfl rfl (by kernel_rfl) (by kernel_rfl) (by kernel_rfl) (fun _ _ _ h => h) (Or.inl ⟨by kernel_rfl, ?_⟩) hS_v5 ?_
    rotate_left
    focus (intro w hSw; (try dsimp only at hSw); go_simp; first | done | with_reducible rfl)
    try simp only [Act.put]
    try simp only [List.setIfInBounds_toArray]
    try simp only [List.set_cons_succ]
    try simp only [List.set_cons_zero]
    refine takeH (i := 23) (d := (some 62)) (v := ?_) rfl rfl (by kernel_rfl) (by kernel_rfl) (by kernel_rfl) (fun _ _ _ h => h) (Or.inl ⟨by kernel_rfl, ?_⟩) hS_v5 ?_
    rotate_left
    focus (intro w hSw; (try dsimp only at hSw); go_simp; first | done | with_reducible rfl)
    try simp only [Act.put]
    try simp only [List.setIfInBounds_toArray]
    try simp only [List.set_cons_succ]
    try simp only [List.set_cons_zero]
    refine wpAnyH_ready (rs := [24]) (by kernel_rfl) (by simp) ?_
    refine AllReadyH.cons (o := _) rfl (fun K' hK => ?_) AllReadyH.nil
    go_simp
    go_at_call 21
    refine (HE6.out v5 (HBK.out.trans (b5.mono HBK.out.size))).mono ?_
    rintro e v6 ⟨rfl, bq⟩
    have b6 : Below Wk.heap.size Wk v6 := b5.trans (bq.mono b5.size)
    have hS_v6 := HS6.out v6 b6
    try go_simp
    refine hK.out _ _ hS_v6 (fun hHeld => ?_)
    clear hK K' hHeld
    try simp only [Act.put]
    try simp only [List.setIfInBounds_toArray]
    try simp only [List.set_cons_succ]
    try simp only [List.set_cons_zero]
    refine takeH (i := 25) (d := (some 64)) (v := .bool true) rfl rfl (by kernel_rfl) (by kernel_rfl) (by kernel_rfl) (fun _ _ _ h => h) (Or.inl ⟨by kernel_rfl, ?_⟩) hS_v6 ?_
    focus (intro w hSw; (try dsimp only at hSw); go_simp; first | done | (simp; done) | with_reducible rfl)
    try simp only [Act.put]
    try simp only [List.setIfInBounds_toArray]
    try simp only [List.set_cons_succ]
    try simp only [List.set_cons_zero]
    refine takeH (i := 26) (d := (some 65)) (v := .bool true) rfl rfl (by kernel_rfl) (by kernel_rfl) (by kernel_rfl) (fun _ _ _ h => h) (Or.inl ⟨by kernel_rfl, ?_⟩) hS_v6 ?_
    focus (intro w hSw; (try dsimp only at hSw); go_simp; first | done | (simp; done) | with_reducible rfl)
    try simp only [Act.put]
    try simp only [List.setIfInBounds_toArray]
    try simp only [List.set_cons_succ]
    try simp only [List.set_cons_zero]
    refine wpAnyH_ready (rs := [27]) (by kernel_rfl) (by simp) ?_
    refine AllReadyH.cons (o := _) rfl (fun K' hK => ?_) AllReadyH.nil
    go_simp
    go_at_call 14
    refine (lives_any v6).mono ?_
    rintro e v7 ⟨rfl, bq⟩
    have b7 : Below Wk.heap.size Wk v7 := b6.trans (bq.mono b6.size)
    have hS_v7 := HS6.out v7 b7
    try go_simp
    refine hK.out _ _ hS_v7 (fun hHeld => ?_)
    clear hK K' hHeld
    try simp only [Act.put]
    try simp only [List.setIfInBounds_toArray]
    try simp only [List.set_cons_succ]
    try simp only [List.set_cons_zero]
    refine takeH (i := 28) (d := (some 67)) (v := .bool true) rfl rfl (by kernel_rfl) (by kernel_rfl) (by kernel_rfl) (fun _ _ _ h => h) (Or.inl ⟨by kernel_rfl, ?_⟩) hS_v7 ?_
    focus (intro w hSw; (try dsimp only at hSw); go_simp; first | done | (simp; done) | with_reducible rfl)
    try simp only [Act.put]
    try simp only [List.setIfInBounds_toArray]
    try simp only [List.set_cons_succ]
    try simp only [List.set_cons_zero]
    refine takeH (i := 29) (d := (some 10)) (v := .bool true) rfl rfl (by kernel_rfl) (by kernel_rfl) (by kernel_rfl) (fun _ _ _ h => h) (Or.inl ⟨by kernel_rfl, ?_⟩) hS_v7 ?_
    focus (intro w hSw; (try dsimp only at hSw); go_simp; first | done | (simp; done) | with_reducible rfl)
    try simp only [Act.put]
    try simp only [List.setIfInBounds_toArray]
    try simp only [List.set_cons_succ]
    try simp only [List.set_cons_zero]
    refine wpAnyH_done (by kernel_rfl) ?_ _
    have HF := Lib.hid (HBw8.out.trans ((HBK.out.trans (b7.mono HBK.out.size)).mono HBw8.out.size))
    clear hS0 hS_v1 hS_v2 hS_v3 hS_v4 hS_v5 hS_v6 hS_v7 b0 b1 b2 b3 b4 b5 b6 b7 bq q1 q2
    go_wp2
    go_ret
    exact ⟨rfl, HF.out⟩

end Go.Proofs.Ytfecajeenmnoeaa
