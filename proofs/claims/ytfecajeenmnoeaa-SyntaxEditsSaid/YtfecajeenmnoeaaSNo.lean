/- The reference's Nodes. Conditions: trees of at most 100000 nodes. -/
import Derived.Test.YtfecajeenmnoeaaSR2
namespace Go.Proofs.Ytfecajeenmnoeaa
open Go.RowKit Go.Shelf
set_option linter.unusedVariables false

theorem infoNd : (Try.prog.info? 25).map (fun i => (i.zero, i.size, i.bytes)) = some (some (.agg #[.int .i64 0, .int .i64 0, .string ⟨#[]⟩, .slice none 0 0]), 4, 56) := by kernel_rfl
/-- The cells of nodes in a row: their IDs. -/
def NdR (l : List Nd) (vs : List Value) : Prop := vs.length = l.length * 4 ∧ (∀ k (h : k < l.length), vs[k * 4]? = some (.int .i64 (l[k]).id)) ∧ ∀ u ∈ vs, u.oneCell' = true
theorem NdR.app {a b : List Nd} {va vb : List Value} (h1 : NdR a va) (h2 : NdR b vb) : NdR (a ++ b) (va ++ vb) := by
  refine ⟨by rw [List.length_append, List.length_append, h1.1, h2.1]; omega, fun k hk => ?_, fun u hu => (List.mem_append.1 hu).elim (h1.2.2 u) (h2.2.2 u)⟩
  by_cases hka : k < a.length
  · rw [List.getElem?_append_left (by rw [h1.1]; omega), List.getElem_append_left hka]; exact h1.2.1 k hka
  · rw [List.getElem?_append_right (by rw [h1.1]; omega), List.getElem_append_right (by omega), h1.1, show k * 4 - a.length * 4 = (k - a.length) * 4 by omega]
    exact h2.2.1 _ _
theorem NdR.one (t : Nd) (a : Option Addr) (n cap : Nat) : NdR [t] [.int .i64 t.id, .int .i64 t.kind, .string t.text, .slice a n cap] := by
  refine ⟨rfl, fun k hk => ?_, fun u hu => ?_⟩
  · obtain rfl : k = 0 := by simp at hk; omega
    rfl
  · simp at hu; rcases hu with rfl | rfl | rfl | rfl <;> rfl
mutual
theorem Nd.all_len : ∀ (t : Nd), t.all.length = t.cnt
  | .mk i k t ks => by rw [Nd.all, List.length_cons, alls_len ks, Nd.cnt]
theorem alls_len : ∀ (l : List Nd), (alls l).length = cnts l
  | [] => by rw [alls, cnts]; rfl
  | x :: l => by rw [alls, cnts, List.length_append, x.all_len, alls_len l]
end
theorem cntsA (a b : List Nd) : cnts (a ++ b) = cnts a + cnts b := by
  induction a with
  | nil => simp [cnts]
  | cons x a ih => rw [List.cons_append, cnts, cnts, ih]; omega
/-- A call hands back a row of nodes of its own. -/
def NewNd (w : World) (l : List Nd) (u : Value) (w' : World) : Prop := ∃ vs, w'.ownsRow w.heap.size 25 4 u l.length vs ∧ NdR l vs ∧ Below w.heap.size w w'

set_option maxRecDepth 100000 in
set_option maxHeartbeats 4000000 in
theorem rnodes_any : ∀ (d : Nat) (t : Nd) (a : Option Addr) (n cap : Nat) (w : World) (G : Nat → Prop), t.dep ≤ d → KV G w a n cap t.kids → t.cnt ≤ 100000 →
    Calls Try.prog 39 #[ndv t a n cap] w fun e w' => ∃ u, e = .returned u ∧ NewNd w t.all u w'
  | 0, t, a, n, cap, w, G, hd, hK, hc => by have := t.dep_eq; omega
  | d + 1, t, a, n, cap, w, G, hd, hK, hc => by
    obtain ⟨i3, hi3, iy0, iy1, iy2⟩ := info_parts infoNd
    obtain ⟨hkl, hnc, hcm⟩ := hK.len
    obtain ⟨W1, hW1⟩ : ∃ W, w.alloc (.cells (ndc t a n cap) 25) = W := ⟨_, rfl⟩
    have b1 : Below w.heap.size w W1 := by rw [← hW1]; exact (Below.refl _ _).alloc (Nat.le_refl _) _
    have k1 : Blk W1 w.heap.size 25 (ndc t a n cap) := by rw [← hW1]; exact Blk.new _ _ _
    have hs1 : W1.heap.size = w.heap.size + 1 := by rw [← hW1]; simp
    obtain ⟨W2, hW2⟩ : ∃ W, W1.alloc (.cells (ndc t a n cap) 25) = W := ⟨_, rfl⟩
    have b2 : Below W1.heap.size W1 W2 := by rw [← hW2]; exact (Below.refl _ _).alloc (Nat.le_refl _) _
    have hrow0 : W2.ownsRow W1.heap.size 25 4 (.slice (some ⟨W1.heap.size, 0, none⟩) 1 1) 1 [.int .i64 t.id, .int .i64 t.kind, .string t.text, .slice a n cap] := by
      rw [← hW2]
      exact World.ownsRow_lit W1 #[.int .i64 t.id, .int .i64 t.kind, .string t.text, .slice a n cap] 1 (size := 4) (e := 25) (base := W1.heap.size) (Nat.le_refl _) (by unfold maxLen; omega) rfl
    have hnr0 := NdR.one t a n cap
    have hK1 := hK.on b1
    have hall := t.all_eq
    have hce := t.cnt_eq
    obtain ⟨q, hq⟩ : ∃ q, w.heap.size = q := ⟨_, rfl⟩
    rw [hq] at k1 hs1
    have HX : Hid (∀ W, Below W1.heap.size W1 W → W.cell? ⟨q, 3, none⟩ = some (.slice a n cap) ∧ Below q w W) := fun W hW => ⟨(k1.same (hW.block q k1.lt)).cell 3, by rw [← hq]; exact b1.trans (hW.mono b1.size)⟩
    obtain ⟨id, hid⟩ : ∃ x, t.id = x := ⟨_, rfl⟩
    obtain ⟨kd, hkd⟩ : ∃ x, t.kind = x := ⟨_, rfl⟩
    obtain ⟨tx, htx⟩ : ∃ x, t.text = x := ⟨_, rfl⟩
    obtain ⟨ks, hks⟩ : ∃ x, t.kids = x := ⟨_, rfl⟩
    have hdk : ∀ x ∈ ks, x.dep ≤ d ∧ x.cnt ≤ 100000 := fun x hx => by rw [← hks] at hx; have := t.kid_dep hx; have := t.kid_cnt hx; omega
    have hkn := t.kids_len
    unfold ndv ndc at *
    rw [hid, hkd, htx] at hW1 hW2 hrow0 hnr0
    rw [hid, hkd, htx]
    rw [hks] at hK1 hkl hkn hall hce
    rw [hall]
    have HK1 := Lib.hid hK1; have HDK := Lib.hid hdk; have HW1 := Lib.hid hW1; have HW2 := Lib.hid hW2; have HKN := Lib.hid hkl; have HQ := Lib.hid hq; have HS1 := Lib.hid hs1
    have HREC : Hid (∀ x (a' : Option Addr) (n' c' : Nat) W, x ∈ ks → KV G W a' n' c' x.kids → Calls Try.prog 39 #[ndv x a' n' c'] W fun e w' => ∃ u, e = .returned u ∧ NewNd W x.all u w') := fun x a' n' c' W hx hk => rnodes_any d x a' n' c' W G (HDK.out x hx).1 hk (HDK.out x hx).2
    have hn5 : n ≤ 100000 := by omega
    have HCE : Hid (cnts ks + 1 ≤ 100000) := by show _ ≤ _; omega
    have HB2 := Lib.hid b2
    have HI0 : Hid (∃ vs, W2.ownsRow W1.heap.size 25 4 (.slice (some ⟨q + 1, 0, none⟩) 1 1) (t :: alls (ks.take 0)).length vs ∧ NdR (t :: alls (ks.take 0)) vs) := ⟨_, by rw [List.take_zero, alls_nil]; rw [hs1] at hrow0 ⊢; exact hrow0, by rw [List.take_zero, alls_nil]; exact hnr0⟩
    clear hK hK1 hdk hd hc hkl hnc hcm hW1 hW2 b1 b2 k1 hid hkd htx hks hkn hall hce hq hs1 hrow0 hnr0
    go_enter Try.func39, Try.ntmps39
    go_wp2_with fail
    rw [show w.alloc (.cells #[.int .i64 id, .int .i64 kd, .string tx, .slice a n cap] 25) = W1 from HW1.out, HW2.out, HQ.out]
    have HSZ : Hid (Below W1.heap.size W1 W2) := HB2
    go_loopw [3, 4] (fun o g wr => ∃ i : Nat, g = .int .i64 (i : Int) ∧ i ≤ n ∧ Hid (∃ vs, wr.ownsRow W1.heap.size 25 4 o (t :: alls (ks.take i)).length vs ∧ NdR (t :: alls (ks.take i)) vs) ∧ Hid (Below W1.heap.size W1 wr)) (fun _ g _ => n - (intOf g).toNat)
    case atStart => exact ⟨0, rfl, by omega, HI0, HB2⟩
    case round =>
      obtain ⟨i, rfl, hi, HO, HR⟩ := hrel
      obtain ⟨c3, z1⟩ := HX.out wr HR.out
      by_cases hin : i < n
      · have hin2 : (i : Int) < (n : Int) := by omega
        have m1 : IntKind.i64.wrap ((i : Int) + 1) = (i : Int) + 1 := by simp [IntKind.wrap, IntKind.signed, IntKind.bits]; omega
        have hik : i < ks.length := by rw [HKN.out]; exact hin
        obtain ⟨b, off, u, un, uc, rfl, hG, hb, hku, hcell⟩ := HK1.out.kid hik
        obtain ⟨d0, d1, d2, d3⟩ := hcell wr (HR.out.block b hb)
        obtain ⟨x, hx⟩ : ∃ x, ks[i] = x := ⟨_, rfl⟩
        rw [hx] at d0 d1 d2 hku
        have hxm : x ∈ ks := by rw [← hx]; exact List.getElem_mem hik
        have hall := alls_take ks i hik
        rw [hx] at hall
        have hlen : (alls (ks.take (i + 1))).length ≤ 100000 := by
          rw [alls_len]
          have h1 : cnts ks = cnts (ks.take (i + 1)) + cnts (ks.drop (i + 1)) := by rw [← cntsA, List.take_append_drop]
          have := HCE.out; omega
        rw [hall, List.length_append] at hlen
        have HC := Lib.hid (HREC.out x u un uc wr hxm (hku.keep HR.out.size (fun b _ hlt => HR.out.block b hlt) (fun _ h _ => h)))
        unfold ndv at HC
        obtain ⟨xi, hxi⟩ : ∃ y, x.id = y := ⟨_, rfl⟩
        obtain ⟨xk, hxk⟩ : ∃ y, x.kind = y := ⟨_, rfl⟩
        obtain ⟨xt, hxt⟩ : ∃ y, x.text = y := ⟨_, rfl⟩
        rw [hxi, hxk, hxt] at HC
        rw [hxi] at d0; rw [hxk] at d1; rw [hxt] at d2
        obtain ⟨L0, hL0⟩ : ∃ l, t :: alls (ks.take i) = l := ⟨_, rfl⟩
        obtain ⟨L1, hL1⟩ : ∃ l, x.all = l := ⟨_, rfl⟩
        have hL1n : L1.length ≠ 0 := by rw [← hL1, x.all_eq]; simp
        have hll : L0.length + L1.length ≤ 100001 := by rw [← hL0, ← hL1, List.length_cons]; omega
        rw [hL0] at HO
        rw [hL1] at HC
        have HALL : Hid (t :: alls (ks.take (i + 1)) = L0 ++ L1) := by show _ = _; rw [hall, ← hL0, hL1]; rfl
        clear hG hb hku hcell hx hxm hall z1 hxi hxk hxt hL0 hL1 hlen
        go_wp2_with fail
        refine HC.out.mono ?_
        rintro e w5 ⟨v5, rfl, vs5, hrow, hnr5, b5⟩
        obtain ⟨vs0, ho0, hn0⟩ := HO.out
        have H5 : Hid (Below W1.heap.size W1 w5) := HR.out.trans (b5.mono HR.out.size)
        have HO5 := Lib.hid (own_same ho0 (fun g hg => b5.block g (ho0.lt g hg).2))
        have HNR := Lib.hid (hn0.app hnr5)
        rcases hrow.2 with ⟨rfl, h0⟩ | ⟨g, cp, cur, rfl, hlo5, hg5, hle5, hmx5, _⟩
        · exact absurd h0 hL1n
        · have HRC := Lib.hid (row_cells hrow)
          have HTL : Hid (vs5.length = L1.length * 4) := hnr5.1
          have HON := Lib.hid hnr5.2.2
          have hz5 : W1.heap.size ≤ w5.heap.size := H5.out.size
          clear hrow b5 hg5 hlo5 ho0 hn0 hnr5
          go_wp2_with (at_builtin; refine wpList_append_own_at _ rfl _ _ 23 rfl W1.heap.size 25 i3 (.agg #[.int .i64 0, .int .i64 0, .string ⟨#[]⟩, .slice none 0 0]) 4 56 Try.underlying23 hi3 iy0 iy1 iy2 rfl (by decide) _ L0.length vs0 rfl HO5.out ⟨g, 0, none⟩ L1.length cp vs5 rfl HTL.out HRC.out HON.out (by unfold maxLen; omega) (by omega) hz5 ?_; intro v6 w6 hown6 hgrow6 hnn6 hat6)
          have HB6 : Hid (Below W1.heap.size W1 w6) := H5.out.grown hgrow6 hz5 (fun g hg => (HO5.out.lt g hg).1)
          exact ⟨⟨i + 1, by go_num, by omega, ⟨_, by rw [HALL.out, List.length_append]; exact hown6, by rw [HALL.out]; exact HNR.out⟩, HB6⟩, by simp [intOf]; omega⟩
      · have hin2 : ¬ ((i : Int) < (n : Int)) := by omega
        obtain rfl : i = n := by omega
        have hall : ks.take i = ks := List.take_of_length_le (Nat.le_of_eq HKN.out)
        rw [hall] at HO
        obtain ⟨vs0, ho0, hn0⟩ := HO.out
        have HFIN : Hid (NewNd w (t :: alls ks) u3 wr) := ⟨vs0, by rw [HQ.out]; exact own_base2 ho0 (by rw [HS1.out]; omega), hn0, by rw [HQ.out]; exact z1⟩
        clear hall hi z1 ho0 hn0
        go_wp2_with fail
        go_ret
        exact ⟨_, rfl, HFIN.out⟩

end Go.Proofs.Ytfecajeenmnoeaa
