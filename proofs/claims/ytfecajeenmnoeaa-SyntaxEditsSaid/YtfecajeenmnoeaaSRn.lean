/- The reference's Number. Conditions: trees of at most 100000 nodes, first IDs of at most 1000000000. -/
import Derived.Test.YtfecajeenmnoeaaSRg
import Derived.Test.YtfecajeenmnoeaaSTr
namespace Go.Proofs.Ytfecajeenmnoeaa
open Go.RowKit Go.Shelf
set_option linter.unusedVariables false

mutual
/-- The nodes are numbered in preorder. -/
def Nd.num : Nd → Int → Nd
  | .mk _ k x ks, f => .mk f k x (nums ks (f + 1))
def nums : List Nd → Int → List Nd
  | [], _ => []
  | x :: l, f => x.num f :: nums l (f + (x.cnt : Int))
end
theorem Nd.num_eq (t : Nd) (f : Int) : t.num f = .mk f t.kind t.text (nums t.kids (f + 1)) := by cases t; rw [Nd.num]; rfl
theorem nums_len : ∀ (l : List Nd) (f : Int), (nums l f).length = l.length
  | [], f => by rw [nums]
  | x :: l, f => by rw [nums, List.length_cons, List.length_cons, nums_len l]
theorem nums_app : ∀ (a b : List Nd) (f : Int), nums (a ++ b) f = nums a f ++ nums b (f + (cnts a : Int))
  | [], b, f => by simp [nums, cnts]
  | x :: a, b, f => by
    rw [List.cons_append, nums, nums_app a b, nums, List.cons_append, cnts]
    rw [show f + (x.cnt : Int) + (cnts a : Int) = f + ((x.cnt + cnts a : Nat) : Int) by omega]
theorem nums_take (l : List Nd) (k : Nat) (f : Int) (h : k < l.length) : nums (l.take (k + 1)) f = nums (l.take k) f ++ [(l[k]).num (f + (cnts (l.take k) : Int))] := by
  rw [List.take_succ_eq_append_getElem h, nums_app, nums, nums]

/-- What the loop over the kids keeps. -/
def NuL (w : World) (q : Nat) (f kd : Int) (tx : ByteArray) (ks : List Nd) (a : Option Addr) (n cap : Nat) (i : Nat) (v : Value) (W : World) : Prop :=
  ∃ us, KRow (fun b => q + 2 ≤ b) (q + 2) W v (nums (ks.take i) (f + 1)) us ∧ Blk W q 25 #[.int .i64 f, .int .i64 kd, .string tx, .slice a n cap] ∧ Blk W (q + 1) 25 #[.int .i64 0, .int .i64 0, .string ⟨#[]⟩, .slice none 0 0] ∧ Below q w W
/-- A call hands back a numbered tree. -/
def NumP (t : Nd) (f : Int) (n : Nat) (w : World) (e : Ending) (w' : World) : Prop :=
  ∃ (a : Option Addr) (c : Nat), e = .returned (.tuple #[.agg #[.int .i64 f, .int .i64 t.kind, .string t.text, .slice a n c], .int .i64 (f + (t.cnt : Int))]) ∧ KV (fun b => w.heap.size ≤ b) w' a n c (t.num f).kids ∧ Below w.heap.size w w'
theorem NuL.step {w : World} {q : Nat} {f kd : Int} {tx : ByteArray} {ks : List Nd} {a : Option Addr} {n cap i : Nat} {av : Option Addr} {vc : Nat} {W w5 X w6 : World} {x : Nd} {a' : Option Addr} {n' c' : Nat} {v6 : Value} {us : List (Option Addr × Nat × Nat)} (hk : KRow (fun b => q + 2 ≤ b) (q + 2) W (.slice av i vc) (nums (ks.take i) (f + 1)) us) (hq : Blk W q 25 #[.int .i64 f, .int .i64 kd, .string tx, .slice a n cap]) (hr : Blk W (q + 1) 25 #[.int .i64 0, .int .i64 0, .string ⟨#[]⟩, .slice none 0 0]) (hb : Below q w W) (hx : ks[i]? = some x)
    (b5 : Below W.heap.size W w5) (hkv : KV (fun b => W.heap.size ≤ b) w5 a' n' c' (x.num (f + 1 + (cnts (ks.take i) : Int))).kids) (hX : Below w5.heap.size w5 X) (hg : X.grownBy w6 (Value.slice av i vc).ownBlock)
    (ho6 : w6.ownsRow (q + 2) 25 4 v6 (i + 1) (kcs (nums (ks.take i) (f + 1)) us ++ [.int .i64 (x.num (f + 1 + (cnts (ks.take i) : Int))).id, .int .i64 (x.num (f + 1 + (cnts (ks.take i) : Int))).kind, .string (x.num (f + 1 + (cnts (ks.take i) : Int))).text, .slice a' n' c']))
    (hat : v6.ownBlock = (Value.slice av i vc).ownBlock ∨ v6.ownBlock = some X.heap.size) : NuL w q f kd tx ks a n cap (i + 1) v6 w6 := by
  have hik : i < ks.length := (List.getElem?_eq_some_iff.1 hx).1
  have hxe := (List.getElem?_eq_some_iff.1 hx).2
  have hol := hk.own.lt
  have hz5 := b5.size
  have hzX := hX.size
  have hz6 := hg.size
  have hql := hr.lt
  have hk5 : KRow (fun b => q + 2 ≤ b) (q + 2) w5 (.slice av i vc) (nums (ks.take i) (f + 1)) us := hk.keep hz5 (fun b hb' hlt => b5.block b hlt)
  have hlen : (nums (ks.take i) (f + 1)).length = i := by rw [nums_len, List.length_take]; omega
  obtain ⟨gg, c1, rfl⟩ := ownsRow_succ ho6
  have hkv5 : KV (fun b => q + 2 ≤ b ∧ (Value.slice av i vc).ownBlock ≠ some b) w5 a' n' c' (x.num (f + 1 + (cnts (ks.take i) : Int))).kids := hkv.keep (Nat.le_refl _) (fun _ _ _ => rfl) (fun b hb' _ => ⟨by omega, fun e => by have := (hol b e).2; omega⟩)
  have hk6 := hk5.push (g := gg) (c := c1) hkv5 hX hg (hat.imp (fun e => e.symm.trans rfl) (fun e => by simp only [Value.ownBlock, Option.some.injEq] at e; omega)) (by rw [hlen]; exact ho6)
  have hb6 : ∀ b, b ≤ q + 1 → w6.heap[b]? = W.heap[b]? := fun b hb' => ((hg.block b (by omega) (fun e => by have := (hol b e.symm).1; omega)).trans (hX.block b (by omega))).trans (b5.block b (by omega))
  rw [hlen] at hk6
  refine ⟨us ++ [(a', n', c')], ?_, hq.same (hb6 q (by omega)), hr.same (hb6 (q + 1) (by omega)), ?_⟩
  · rw [nums_take ks i (f + 1) hik, hxe]
    exact hk6
  · exact ((hb.trans (b5.mono (by omega))).trans (hX.mono (by omega))).grown hg (by omega) (fun k hk' => by have := (hol k hk').1; omega)

set_option maxRecDepth 100000 in
set_option maxHeartbeats 4000000 in
theorem rnumber_any : ∀ (d : Nat) (t : Nd) (a : Option Addr) (n cap : Nat) (f : Int) (w : World) (G : Nat → Prop), t.dep ≤ d → KV G w a n cap t.kids → t.cnt ≤ 100000 → -1000000000 ≤ f → f + (t.cnt : Int) ≤ 1000000000 →
    Calls Try.prog 20 #[ndv t a n cap, .int .i64 f] w (NumP t f n w)
  | 0, t, a, n, cap, f, w, G, hd, hK, hc, h1, h2 => by have := t.dep_eq; omega
  | d + 1, t, a, n, cap, f, w, G, hd, hK, hc, hf1, hf2 => by
    obtain ⟨i3, hi3, iy0, iy1, iy2⟩ := info_parts infoNd
    obtain ⟨hkl, hnc, hcm⟩ := hK.len
    obtain ⟨q, hq⟩ : ∃ q, w.heap.size = q := ⟨_, rfl⟩
    obtain ⟨W2, hW2⟩ : ∃ W, (w.alloc (.cells #[.int .i64 f, .int .i64 t.kind, .string t.text, .slice a n cap] 25)).alloc (.cells #[.int .i64 0, .int .i64 0, .string ⟨#[]⟩, .slice none 0 0] 25) = W := ⟨_, rfl⟩
    have b2 : Below q w W2 := by rw [← hW2, ← hq]; exact ((Below.refl _ _).alloc (Nat.le_refl _) _).alloc (by simp) _
    have k1 : Blk W2 q 25 #[.int .i64 f, .int .i64 t.kind, .string t.text, .slice a n cap] := by rw [← hW2, ← hq]; exact (Blk.new _ _ _).alloc _
    have k2 : Blk W2 (q + 1) 25 #[.int .i64 0, .int .i64 0, .string ⟨#[]⟩, .slice none 0 0] := by
      rw [← hW2, ← hq]
      have := Blk.new (w.alloc (.cells #[.int .i64 f, .int .i64 t.kind, .string t.text, .slice a n cap] 25)) 25 #[.int .i64 0, .int .i64 0, .string ⟨#[]⟩, .slice none 0 0]
      rw [World.size_alloc] at this
      exact this
    have HL0 : Hid (NuL w q f t.kind t.text t.kids a n cap 0 (.slice none 0 0) W2) := ⟨[], by rw [List.take_zero, nums]; exact KRow.nil _ _ _, k1, k2, b2⟩
    have hkn := t.kids_len
    have hce := t.cnt_eq
    have HREC : Hid (∀ (x : Nd) (a' : Option Addr) (n' c' : Nat) (F : Int) (W : World), x ∈ t.kids → KV G W a' n' c' x.kids → -1000000000 ≤ F → F + (x.cnt : Int) ≤ 1000000000 → Calls Try.prog 20 #[ndv x a' n' c', .int .i64 F] W (NumP x F n' W)) := fun x a' n' c' F W hx hk g1 g2 => rnumber_any d x a' n' c' F W G (by have := t.kid_dep hx; omega) hk (by have := t.kid_cnt hx; omega) g1 g2
    have HNUM := Lib.hid (t.num_eq f)
    obtain ⟨id, hid⟩ : ∃ x, t.id = x := ⟨_, rfl⟩
    obtain ⟨kd, hkd⟩ : ∃ x, t.kind = x := ⟨_, rfl⟩
    obtain ⟨tx, htx⟩ : ∃ x, t.text = x := ⟨_, rfl⟩
    obtain ⟨ks, hks⟩ : ∃ x, t.kids = x := ⟨_, rfl⟩
    have HPOST : Hid (∀ (av : Option Addr) (c : Nat) (w' : World), KV (fun b => w.heap.size ≤ b) w' av n c (nums ks (f + 1)) → Below w.heap.size w w' → NumP t f n w (.returned (.tuple #[.agg #[.int .i64 f, .int .i64 kd, .string tx, .slice av n c], .int .i64 (f + 1 + (cnts ks : Int))])) w') := fun av c w' h1 h2 => by
      refine ⟨av, c, ?_, ?_, h2⟩
      · rw [hkd, htx, hce, hks, show f + ((cnts ks + 1 : Nat) : Int) = f + 1 + (cnts ks : Int) by omega]
      · rw [HNUM.out, hks]; exact h1
    unfold ndv at *
    rw [hkd, htx] at hW2 HL0
    rw [hid, hkd, htx]
    rw [hks] at HREC hkl hkn HL0 hce hK
    have hce2 : cnts ks + 1 ≤ 100000 := by omega
    have hcef : f + 1 + (cnts ks : Int) ≤ 1000000000 := by omega
    have HW2 := Lib.hid hW2; have HQ := Lib.hid hq; have HK := Lib.hid hK; have HKL := Lib.hid hkl; have HB2 := Lib.hid b2
    have hn5 : n ≤ 100000 := by omega
    clear hK hd hc hkl hW2 b2 k1 k2 hkn hid hkd htx hks hq hce hf2
    have m0 : IntKind.i64.wrap (f + 1) = f + 1 := by simp [IntKind.wrap, IntKind.signed, IntKind.bits]; omega
    go_enter Try.func20, Try.ntmps20
    go_wp2_with fail
    rw [HW2.out, HQ.out]
    go_loopw [1, 6, 7] (fun g v j wr => ∃ i : Nat, j = .int .i64 (i : Int) ∧ i ≤ n ∧ g = .int .i64 (f + 1 + (cnts (ks.take i) : Int)) ∧ Hid (NuL w q f kd tx ks a n cap i v wr)) (fun _ _ j _ => n - (intOf j).toNat)
    case atStart => exact ⟨0, rfl, by omega, by simp [cnts], HL0⟩
    case round =>
      obtain ⟨i, rfl, hi, rfl, HL⟩ := hrel
      obtain ⟨us, hkr, hkq, hkr2, hbw⟩ := HL.out
      have e3 := hkq.cell 3
      simp only [List.getElem?_toArray, List.getElem?_cons_zero, List.getElem?_cons_succ] at e3
      have hzq : Hid (q + 2 ≤ wr.heap.size) := by have := hkr2.lt; show _ ≤ _; omega
      have hlen : (nums (ks.take i) (f + 1)).length = i := by rw [nums_len, List.length_take]; have := HKL.out; omega
      have hown := hkr.own
      rw [hlen] at hown
      obtain ⟨av, vc, rfl⟩ := own_slice hown
      by_cases hin : i < n
      · have hin2 : (i : Int) < (n : Int) := by omega
        have m1 : IntKind.i64.wrap ((i : Int) + 1) = (i : Int) + 1 := by simp [IntKind.wrap, IntKind.signed, IntKind.bits]; omega
        have hik : i < ks.length := by rw [HKL.out]; exact hin
        obtain ⟨b, off, u, un, uc, rfl, hG, hb, hku, hcell⟩ := HK.out.kid hik
        have hz := hbw.size
        obtain ⟨d0, d1, d2, d3⟩ := hcell wr (hbw.block b (by rw [← HQ.out]; exact hb))
        obtain ⟨x, hx⟩ : ∃ x, ks[i] = x := ⟨_, rfl⟩
        have hx' : ks[i]? = some x := by rw [← hx]; exact List.getElem?_eq_getElem hik
        rw [hx] at d0 d1 d2 hku
        have hxm : x ∈ ks := by rw [← hx]; exact List.getElem_mem hik
        have hct := cnts_take ks i hik
        rw [hx] at hct
        have hcl := cnts_le ks (i + 1)
        obtain ⟨F, hF⟩ : ∃ F, f + 1 + (cnts (ks.take i) : Int) = F := ⟨_, rfl⟩
        have HC := Lib.hid (HREC.out x u un uc F wr hxm (hku.on (by rw [HQ.out]; exact hbw)) (by omega) (by omega))
        have HFN : Hid (f + 1 + (cnts (ks.take (i + 1)) : Int) = F + (x.cnt : Int)) := by show _ = _; omega
        have hlen5 := hku.len.1
        have HSTEP : Hid (∀ (w5 X w6 : World) (a' : Option Addr) (c' : Nat) (v6 : Value), Below wr.heap.size wr w5 → KV (fun b => wr.heap.size ≤ b) w5 a' un c' (x.num F).kids → Below w5.heap.size w5 X → X.ownsRow (q + 2) 25 4 (.slice av i vc) i (kcs (nums (ks.take i) (f + 1)) us) ∧
            (X.grownBy w6 (Value.slice av i vc).ownBlock → w6.ownsRow (q + 2) 25 4 v6 (i + 1) (kcs (nums (ks.take i) (f + 1)) us ++ [.int .i64 F, .int .i64 x.kind, .string x.text, .slice a' un c']) → (v6.ownBlock = (Value.slice av i vc).ownBlock ∨ v6.ownBlock = some X.heap.size) → NuL w q f kd tx ks (some ⟨b, off, none⟩) n cap (i + 1) v6 w6)) := fun w5 X w6 a' c' v6 h1 h2 h3 => by
          have hkX : X.ownsRow (q + 2) 25 4 (.slice av i vc) i (kcs (nums (ks.take i) (f + 1)) us) := own_same hown (fun g hg => by
            have h5 := (hown.lt g hg).2
            have h6 := h1.size
            exact (h3.block g (by omega)).trans (h1.block g h5))
          refine ⟨hkX, fun hg ho hat => ?_⟩
          have hn := x.num_eq F
          refine NuL.step hkr hkq hkr2 hbw hx' h1 (by rw [hF]; exact h2) h3 hg ?_ hat
          rw [hF, hn]
          exact ho
        obtain ⟨xi, hxi⟩ : ∃ y, x.id = y := ⟨_, rfl⟩
        obtain ⟨xk, hxk⟩ : ∃ y, x.kind = y := ⟨_, rfl⟩
        obtain ⟨xt, hxt⟩ : ∃ y, x.text = y := ⟨_, rfl⟩
        obtain ⟨xc, hxc⟩ : ∃ y, x.cnt = y := ⟨_, rfl⟩
        rw [hxi] at d0 HC
        rw [hxk] at d1 HC HSTEP
        rw [hxt] at d2 HC HSTEP
        rw [hxc] at HFN
        unfold NumP at HC
        rw [hxk, hxt, hxc] at HC
        rw [hF]
        have HLEN := Lib.hid hlen
        clear hkr hkq hkr2 hG hb hku hcell hx hx' hxm hct hcl hF hlen hown hxi hxk hxt hxc hz hbw
        go_wp2_with fail
        refine HC.out.mono ?_
        rintro e w5 ⟨a', c', rfl, hkv5, b5⟩
        obtain ⟨W6, hW6⟩ : ∃ W, (w5.alloc (.cells #[.int .i64 F, .int .i64 xk, .string xt, .slice a' un c'] 25)).alloc (.cells #[.int .i64 F, .int .i64 xk, .string xt, .slice a' un c'] 25) = W := ⟨_, rfl⟩
        have b6 : Below w5.heap.size w5 W6 := by rw [← hW6]; exact ((Below.refl _ _).alloc (Nat.le_refl _) _).alloc (by simp) _
        have k6 : Blk W6 (w5.heap.size + 1) 25 #[.int .i64 F, .int .i64 xk, .string xt, .slice a' un c'] := by
          rw [← hW6]
          have := Blk.new (w5.alloc (.cells #[.int .i64 F, .int .i64 xk, .string xt, .slice a' un c'] 25)) 25 #[.int .i64 F, .int .i64 xk, .string xt, .slice a' un c']
          rw [World.size_alloc] at this
          exact this
        have HST6 : Hid (∀ w6 v6, W6.ownsRow (q + 2) 25 4 (.slice av i vc) i (kcs (nums (ks.take i) (f + 1)) us) ∧ (W6.grownBy w6 (Value.slice av i vc).ownBlock → w6.ownsRow (q + 2) 25 4 v6 (i + 1) (kcs (nums (ks.take i) (f + 1)) us ++ [.int .i64 F, .int .i64 xk, .string xt, .slice a' un c']) → (v6.ownBlock = (Value.slice av i vc).ownBlock ∨ v6.ownBlock = some W6.heap.size) → NuL w q f kd tx ks (some ⟨b, off, none⟩) n cap (i + 1) v6 w6)) := fun w6 v6 => HSTEP.out w5 W6 w6 a' c' v6 b5 hkv5 b6
        have HO6 := Lib.hid (HST6.out w5 (.slice none 0 0)).1
        have HNW : Hid (∀ j u, [Value.int .i64 F, .int .i64 xk, .string xt, .slice a' un c'][j]? = some u → W6.cell? ((⟨w5.heap.size + 1, 0, none⟩ : Addr).add j) = some u) := World.news_of_block (cs := #[.int .i64 F, .int .i64 xk, .string xt, .slice a' un c']) (t := 25) (fr := (0, 0)) k6
        have hz6 : q + 2 ≤ W6.heap.size := by
          have h1 := b5.size
          have h2 := b6.size
          have h3 := hzq.out
          omega
        have HW6 := Lib.hid hW6
        clear hkv5 b5 b6 k6 hW6
        go_wp2_with (at_builtin; rw [HW6.out]; refine wpList_append_own_at _ rfl _ _ 23 rfl (q + 2) 25 i3 (.agg #[.int .i64 0, .int .i64 0, .string ⟨#[]⟩, .slice none 0 0]) 4 56 Try.underlying23 hi3 iy0 iy1 iy2 rfl (by decide) _ i (kcs (nums (ks.take i) (f + 1)) us) rfl HO6.out ⟨w5.heap.size + 1, 0, none⟩ 1 1 [.int .i64 F, .int .i64 xk, .string xt, .slice a' un c'] rfl rfl HNW.out (fun u hu => by simp at hu; rcases hu with rfl | rfl | rfl | rfl <;> rfl) (by unfold maxLen; omega) (by omega) hz6 ?_; intro v6 w6 hown6 hgrow6 hnn6 hat6)
        have HN6 := Lib.hid ((HST6.out w6 v6).2 hgrow6 hown6 hat6)
        clear hown6 hgrow6 hnn6 hat6
        go_wp2
        go_roundw
        case rel => exact ⟨i + 1, by go_num, by omega, by rw [HFN.out], HN6⟩
        case measure => simp [intOf]; omega
      · have hin2 : ¬ ((i : Int) < (n : Int)) := by omega
        obtain rfl : i = n := by omega
        have hall : ks.take i = ks := List.take_of_length_le (Nat.le_of_eq HKL.out)
        rw [hall] at hkr
        have hkv := hkr.kv (G' := fun b => q + 2 ≤ b) (fun b hb hlt => by
          rcases hb with hb | hb
          · exact hb
          · exact (hkr.own.lt b hb).1)
        obtain ⟨hbb, hss⟩ := set4 (wr.setCell ⟨q, 3, none⟩ (.slice av i vc)) (q + 1) 0 (.int .i64 f) (.int .i64 kd) (.string tx) (.slice av i vc)
        simp only [Nat.zero_add] at hbb hss
        have hsq : (wr.setCell ⟨q, 3, none⟩ (.slice av i vc)).heap.size = wr.heap.size := by simp [World.setCell]
        have hbq : ∀ b, b ≠ q → (wr.setCell ⟨q, 3, none⟩ (.slice av i vc)).heap[b]? = wr.heap[b]? := fun b hb => Below.heap_setCell wr ⟨q, 3, none⟩ _ b hb
        have hz : Blk (((((wr.setCell ⟨q, 3, none⟩ (.slice av i vc)).setCell ⟨q + 1, 0, none⟩ (.int .i64 f)).setCell ⟨q + 1, 1, none⟩ (.int .i64 kd)).setCell ⟨q + 1, 2, none⟩ (.string tx)).setCell ⟨q + 1, 3, none⟩ (.slice av i vc)) (q + 1) 25 #[.int .i64 f, .int .i64 kd, .string tx, .slice av i vc] := by
          have h0 : Blk (wr.setCell ⟨q, 3, none⟩ (.slice av i vc)) (q + 1) 25 #[.int .i64 0, .int .i64 0, .string ⟨#[]⟩, .slice none 0 0] := hkr2.same (hbq (q + 1) (by omega))
          simpa using (((h0.set 0 (.int .i64 f)).set 1 (.int .i64 kd)).set 2 (.string tx)).set 3 (.slice av i vc)
        have hfin := HPOST.out av vc (((((wr.setCell ⟨q, 3, none⟩ (.slice av i vc)).setCell ⟨q + 1, 0, none⟩ (.int .i64 f)).setCell ⟨q + 1, 1, none⟩ (.int .i64 kd)).setCell ⟨q + 1, 2, none⟩ (.string tx)).setCell ⟨q + 1, 3, none⟩ (.slice av i vc))
          (by rw [HQ.out]; exact hkv.1.keep (by omega) (fun b hb _ => (hbb b (by omega)).trans (hbq b (by omega))) (fun b hb _ => by omega))
          (by rw [HQ.out]; exact ((((hbw.setCell (p := ⟨q, 3, none⟩) (Nat.le_refl _) _).setCell (p := ⟨q + 1, 0, none⟩) (by show q ≤ q + 1; omega) _).setCell (p := ⟨q + 1, 1, none⟩) (by show q ≤ q + 1; omega) _).setCell (p := ⟨q + 1, 2, none⟩) (by show q ≤ q + 1; omega) _).setCell (p := ⟨q + 1, 3, none⟩) (by show q ≤ q + 1; omega) _)
        have e0 := hkq.cell 0
        have e1 := hkq.cell 1
        have e2 := hkq.cell 2
        have y3 := hkq.frozen 3
        have z0 := hkr2.cell 0
        have z1 := hkr2.cell 1
        have z2 := hkr2.cell 2
        have z3 := hkr2.cell 3
        have v0 := hkr2.frozen 0
        have v1 := hkr2.frozen 1
        have v2 := hkr2.frozen 2
        have v3 := hkr2.frozen 3
        simp only [List.getElem?_toArray, List.getElem?_cons_zero, List.getElem?_cons_succ] at e0 e1 e2 z0 z1 z2 z3
        have HZ := Lib.hid hz; have HFIN := Lib.hid hfin
        rw [hall]
        clear hkr hkq hkr2 hkv hbw hbb hss hsq hbq hz hfin hall hlen hown hi
        go_wp2_with fail
        have z0 := HZ.out.cell 0
        have z1 := HZ.out.cell 1
        have z2 := HZ.out.cell 2
        have z3 := HZ.out.cell 3
        simp only [List.getElem?_toArray, List.getElem?_cons_zero, List.getElem?_cons_succ] at z0 z1 z2 z3
        refine bodyPost_ret (v := .tuple #[.agg #[.int .i64 f, .int .i64 kd, .string tx, .slice av i vc], .int .i64 (f + 1 + (cnts ks : Int))]) (by simp [results, Try.results20, go_sem, z0, z1, z2, z3]) rfl HFIN.out

end Go.Proofs.Ytfecajeenmnoeaa
