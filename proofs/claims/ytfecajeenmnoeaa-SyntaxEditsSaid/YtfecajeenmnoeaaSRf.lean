/- The reference's Leaf, leaves, Leaves. Conditions: trees of at most 100000 nodes, texts of at most 1000000 bytes. -/
import Derived.Test.YtfecajeenmnoeaaSNd
import Derived.Test.YtfecajeenmnoeaaRowI
import Derived.Laws.AppendOwnNone
namespace Go.Proofs.Ytfecajeenmnoeaa
open Go.RowKit Go.Shelf
set_option linter.unusedVariables false

/-- What the numbers of a tree are. -/
inductive NOk : Nd → Prop
  | mk {i k : Int} {t : ByteArray} {ks : List Nd} (hi : -9223372036854775808 ≤ i ∧ i ≤ 9223372036854775807) (hk : -9223372036854775808 ≤ k ∧ k ≤ 9223372036854775807) (hs : ∀ x ∈ ks, NOk x) : NOk (.mk i k t ks)

set_option maxRecDepth 100000 in
set_option maxHeartbeats 1000000 in
theorem rleaf_any (t : Nd) (a : Option Addr) (n cap : Nat) (w : World) :
    Calls Try.prog 46 #[ndv t a n cap] w fun e w' => e = .returned (.bool (decide t.leaf)) ∧ Below w.heap.size w w' := by
  obtain ⟨i, hi⟩ : ∃ i, t.id = i := ⟨_, rfl⟩
  obtain ⟨k, hk⟩ : ∃ i, t.kind = i := ⟨_, rfl⟩
  obtain ⟨s, hs⟩ : ∃ i, t.text = i := ⟨_, rfl⟩
  have hd : decide t.leaf = decide (0 ≤ k ∧ k ≤ 8) := decide_eq_decide.2 (by unfold Nd.leaf; rw [hk])
  rw [hd]
  unfold ndv
  rw [hi, hk, hs]
  have hb : Below w.heap.size w (w.alloc (.cells #[.int .i64 i, .int .i64 k, .string s, .slice a n cap] 25)) := (Below.refl _ _).alloc (Nat.le_refl _) _
  have HB := Lib.hid hb
  clear hb hd hi hk hs
  by_cases h1 : 0 ≤ k
  · by_cases h2 : k ≤ 8
    · rw [show decide (0 ≤ k ∧ k ≤ 8) = true by simp; omega]
      go_enter Try.func46, Try.ntmps46
      go_wp2
      go_ret
      exact ⟨rfl, HB.out⟩
    · rw [show decide (0 ≤ k ∧ k ≤ 8) = false by simp; omega]
      go_enter Try.func46, Try.ntmps46
      go_wp2
      go_ret
      exact ⟨rfl, HB.out⟩
  · rw [show decide (0 ≤ k ∧ k ≤ 8) = false by simp; omega]
    go_enter Try.func46, Try.ntmps46
    go_wp2
    go_ret
    exact ⟨rfl, HB.out⟩

theorem own_base2 {w : World} {b b' e size n : Nat} {v : Value} {xs : List Value} (h : w.ownsRow b e size v n xs) (hb : b' ≤ b) : w.ownsRow b' e size v n xs := by
  refine ⟨h.1, ?_⟩
  rcases h.2 with hn | ⟨g, cap, cur, rfl, h1, r⟩
  · exact .inl hn
  · exact .inr ⟨g, cap, cur, rfl, by omega, r⟩
/-- The cells of tokens. -/
def tkv (l : List (Int × ByteArray × Nat)) : List Value := l.flatMap fun x => [.int .i64 x.1, .string x.2.1, .int .i64 (x.2.2 : Int)]
theorem tkv_app (a b : List (Int × ByteArray × Nat)) : tkv (a ++ b) = tkv a ++ tkv b := by simp [tkv]
theorem tkv_len (l : List (Int × ByteArray × Nat)) : (tkv l).length = l.length * 3 := by
  induction l with
  | nil => rfl
  | cons x l ih => simp only [tkv, List.flatMap_cons, List.length_append] at ih ⊢; rw [ih]; simp; omega
theorem tkv_one (l : List (Int × ByteArray × Nat)) : ∀ u ∈ tkv l, u.oneCell' = true := by
  intro u hu
  obtain ⟨p, _, hp⟩ := List.mem_flatMap.1 hu
  simp only [List.mem_cons, List.not_mem_nil, or_false] at hp
  rcases hp with rfl | rfl | rfl <;> rfl
theorem infoTk : (Try.prog.info? 55).map (fun i => (i.zero, i.size, i.bytes)) = some (some (.agg #[.int .i64 0, .string ⟨#[]⟩, .int .i64 0]), 3, 32) := by kernel_rfl
/-- A call hands back a row of tokens of its own. -/
def NewTk (w : World) (l : List (Int × ByteArray × Nat)) (u : Value) (w' : World) : Prop := w'.ownsRow w.heap.size 55 3 u l.length (tkv l) ∧ Below w.heap.size w w'
/-- The cells of an owned row, for an append of them. -/
theorem row_cells {w : World} {lo g n cap size : Nat} {e : TypeId} {xs : List Value} (h : w.ownsRow lo e size (.slice (some ⟨g, 0, none⟩) n cap) n xs) : ∀ j u, xs[j]? = some u → w.cell? ((⟨g, 0, none⟩ : Addr).add j) = some u := by
  intro j u hj
  have hl := h.1
  have hlt := (List.getElem?_eq_some_iff.1 hj).1
  rw [show (⟨g, 0, none⟩ : Addr).add j = ⟨g, j, none⟩ by by_cases h0 : j = 0 <;> simp [Addr.add, h0], h.cellAt j (by omega), hj]

set_option maxRecDepth 100000 in
set_option maxHeartbeats 4000000 in
theorem rleaves_any : ∀ (d : Nat) (t : Nd) (a : Option Addr) (n cap at_ : Nat) (w : World) (G : Nat → Prop), t.dep ≤ d → KV G w a n cap t.kids → t.cnt ≤ 100000 → at_ + wid t.lf ≤ 1000000000 →
    Calls Try.prog 63 #[ndv t a n cap, .int .i64 (at_ : Int)] w fun e w' => ∃ u, e = .returned (.tuple #[u, .int .i64 ((at_ + wid t.lf : Nat) : Int)]) ∧ NewTk w (toks t.lf at_) u w'
  | 0, t, a, n, cap, at_, w, G, hd, hK, hc, hw => by have := t.dep_eq; omega
  | d + 1, t, a, n, cap, at_, w, G, hd, hK, hc, hw => by
    obtain ⟨i3, hi3, iy0, iy1, iy2⟩ := info_parts infoTk
    obtain ⟨hkl, hnc, hcm⟩ := hK.len
    obtain ⟨W1, hW1⟩ : ∃ W, w.alloc (.cells (ndc t a n cap) 25) = W := ⟨_, rfl⟩
    have b1 : Below w.heap.size w W1 := by rw [← hW1]; exact (Below.refl _ _).alloc (Nat.le_refl _) _
    have k1 : Blk W1 w.heap.size 25 (ndc t a n cap) := by rw [← hW1]; exact Blk.new _ _ _
    have hK1 := hK.on b1
    obtain ⟨q, hq⟩ : ∃ q, w.heap.size = q := ⟨_, rfl⟩
    rw [hq] at k1
    have HX : Hid (∀ W, Below W1.heap.size W1 W → W.cell? ⟨q, 0, none⟩ = some (.int .i64 t.id) ∧ W.cell? ⟨q, 1, none⟩ = some (.int .i64 t.kind) ∧ W.cell? ⟨q, 2, none⟩ = some (.string t.text) ∧ W.cell? ⟨q, 3, none⟩ = some (.slice a n cap) ∧ Below q w W ∧ q < W.heap.size) := fun W hW => by
      have kk := k1.same (hW.block q k1.lt)
      have hb := b1.trans (hW.mono b1.size)
      rw [hq] at hb
      exact ⟨kk.cell 0, kk.cell 1, kk.cell 2, kk.cell 3, hb, by have := hW.size; have := k1.lt; omega⟩
    have CL : ∀ W, Calls Try.prog 46 #[ndv t a n cap] W fun e w' => e = .returned (.bool (decide t.leaf)) ∧ Below W.heap.size W w' := fun W => rleaf_any t a n cap W
    obtain ⟨id, hid⟩ : ∃ x, t.id = x := ⟨_, rfl⟩
    obtain ⟨kd, hkd⟩ : ∃ x, t.kind = x := ⟨_, rfl⟩
    obtain ⟨tx, htx⟩ : ∃ x, t.text = x := ⟨_, rfl⟩
    obtain ⟨ks, hks⟩ : ∃ x, t.kids = x := ⟨_, rfl⟩
    have hdk : ∀ x ∈ ks, x.dep ≤ d ∧ x.cnt ≤ 100000 := fun x hx => by rw [← hks] at hx; have := t.kid_dep hx; have := t.kid_cnt hx; omega
    have hlf := t.lf_eq
    have hkn := t.kids_len
    unfold ndv ndc at *
    rw [hid, hkd, htx] at CL HX hW1
    rw [hid, hkd, htx]
    rw [hks] at hK1 hkl hlf hkn
    rw [hkd, htx] at hlf
    have HK1 := Lib.hid hK1; have HDK := Lib.hid hdk; have HW1 := Lib.hid hW1; have HQ := Lib.hid hq
    by_cases hleaf : t.leaf
    · rw [show decide t.leaf = true by simp [hleaf]] at CL
      rw [if_pos hleaf] at hlf
      rw [hlf] at hw ⊢
      simp only [wid] at hw ⊢
      have HCL := Lib.hid CL
      have htz : tx.size ≤ 1000000000 := by omega
      have m1 : IntKind.i64.wrap ((at_ : Int) + (tx.size : Int)) = ((at_ + (tx.size + 0) : Nat) : Int) := by simp [IntKind.wrap, IntKind.signed, IntKind.bits]; omega
      clear hK hK1 hdk hd hc hkl hnc hleaf hlf hW1 k1 b1 CL hid hkd htx hks
      go_enter Try.func63, Try.ntmps63
      go_wp2_with fail
      rw [show w.alloc (.cells #[.int .i64 id, .int .i64 kd, .string tx, .slice a n cap] 25) = W1 from HW1.out]
      obtain ⟨c0, c1, c2, c3, z1, z2⟩ := HX.out W1 (Below.refl _ _)
      clear z1 z2
      go_wp2_with fail
      refine (HCL.out W1).mono ?_
      rintro e w2 ⟨rfl, b2⟩
      clear c0 c1 c2 c3
      obtain ⟨c0, c1, c2, c3, z1, z2⟩ := HX.out w2 b2
      have HB2 := Lib.hid z1
      clear z1 b2
      go_wp2_with fail
      go_region
      have HN : Hid (NewTk w [(kd, tx, at_)] (.slice (some ⟨w2.heap.size, 0, none⟩) 1 1) (w2.alloc (.cells #[.int .i64 kd, .string tx, .int .i64 (at_ : Int)] 55)).drew) := by
        have hb := (HB2.out.alloc (by omega) (.cells #[.int .i64 kd, .string tx, .int .i64 (at_ : Int)] 55)).drew
        refine ⟨?_, by rw [HQ.out]; exact hb⟩
        have := World.ownsRow_lit w2 #[.int .i64 kd, .string tx, .int .i64 (at_ : Int)] 1 (size := 3) (e := 55) (base := w.heap.size) (by rw [HQ.out]; omega) (by unfold maxLen; omega) rfl
        exact this.drew
      all_goals
        go_wp2
        go_ret2
        refine ⟨_, ?_, HN.out⟩
        rw [show (((at_ + (tx.size + 0) : Nat)) : Int) = (at_ : Int) + (tx.size : Int) by omega]
        rfl
    · rw [show decide t.leaf = false by simp [hleaf]] at CL
      rw [if_neg hleaf] at hlf
      rw [hlf] at hw ⊢
      have HCL := Lib.hid CL
      have HREC : Hid (∀ x (a' : Option Addr) (n' c' m : Nat) W, x ∈ ks → KV G W a' n' c' x.kids → m + wid x.lf ≤ 1000000000 → Calls Try.prog 63 #[ndv x a' n' c', .int .i64 (m : Int)] W fun e w' => ∃ u, e = .returned (.tuple #[u, .int .i64 ((m + wid x.lf : Nat) : Int)]) ∧ NewTk W (toks x.lf m) u w') := fun x a' n' c' m W hx hk hm => rleaves_any d x a' n' c' m W G (HDK.out x hx).1 hk (HDK.out x hx).2 hm
      have HWD : Hid (at_ + wid (lfs ks) ≤ 1000000000) := hw
      have hlo : q + 1 = W1.heap.size := by rw [← hW1, ← hq]; simp
      have HLL : Hid ((lfs ks).length ≤ 100000) := by have := lfs_len ks; have := t.cnt_eq; rw [hks] at this; show _ ≤ _; omega
      have hn5 : n ≤ 100000 := by omega
      have HKN := Lib.hid hkl
      clear hK hK1 hdk hd hc hkl hnc hleaf hlf hW1 k1 b1 CL hid hkd htx hks hw hkn
      go_enter Try.func63, Try.ntmps63
      go_wp2_with fail
      rw [show w.alloc (.cells #[.int .i64 id, .int .i64 kd, .string tx, .slice a n cap] 25) = W1 from HW1.out]
      obtain ⟨c0, c1, c2, c3, z1, z2⟩ := HX.out W1 (Below.refl _ _)
      clear z1 z2
      go_wp2_with fail
      refine (HCL.out W1).mono ?_
      rintro e w2 ⟨rfl, b2⟩
      have HB2 := Lib.hid b2
      clear c0 c1 c2 c3 b2
      go_wp2_with fail
      go_loopw [1, 6, 7] (fun p o g wr => ∃ i : Nat, g = .int .i64 (i : Int) ∧ i ≤ n ∧ p = .int .i64 ((at_ + wid (lfs (ks.take i)) : Nat) : Int) ∧ Hid (wr.ownsRow W1.heap.size 55 3 o (lfs (ks.take i)).length (tkv (toks (lfs (ks.take i)) at_))) ∧ Hid (Below W1.heap.size W1 wr)) (fun _ _ g _ => n - (intOf g).toNat)
      case atStart => exact ⟨0, rfl, by omega, by simp [lfs_nil, wid], Lib.hid (by rw [List.take_zero, lfs_nil]; exact World.ownsRow_nil _ _ _ _), HB2⟩
      case round =>
        obtain ⟨i, rfl, hi, rfl, HO, HR⟩ := hrel
        obtain ⟨c0, c1, c2, c3, z1, z2⟩ := HX.out wr HR.out
        by_cases hin : i < n
        · have hin2 : (i : Int) < (n : Int) := by omega
          have m1 : IntKind.i64.wrap ((i : Int) + 1) = (i : Int) + 1 := by simp [IntKind.wrap, IntKind.signed, IntKind.bits]; omega
          have hik : i < ks.length := by rw [HKN.out]; exact hin
          obtain ⟨b, off, u, un, uc, rfl, hG, hb, hku, hcell⟩ := HK1.out.kid hik
          obtain ⟨d0, d1, d2, d3⟩ := hcell wr (HR.out.block b hb)
          obtain ⟨x, hx⟩ : ∃ x, ks[i] = x := ⟨_, rfl⟩
          rw [hx] at d0 d1 d2 hku
          have hxm : x ∈ ks := by rw [← hx]; exact List.getElem_mem hik
          have htk := lfs_take ks i hik
          rw [hx] at htk
          obtain ⟨M, hM⟩ : ∃ M, at_ + wid (lfs (ks.take i)) = M := ⟨_, rfl⟩
          have hMx : M + wid x.lf ≤ 1000000000 := by
            have h1 := wid_take ks (i + 1)
            rw [htk, wid_app] at h1
            have := HWD.out; omega
          have HC := Lib.hid (HREC.out x u un uc M wr hxm (hku.keep HR.out.size (fun b _ hlt => HR.out.block b hlt) (fun _ h _ => h)) hMx)
          have HTK := Lib.hid htk
          have HM := Lib.hid hM
          have HM2 : Hid (at_ + wid (lfs (ks.take (i + 1))) = M + wid x.lf) := by show _ = _; rw [htk, wid_app]; omega
          have HLN : Hid ((lfs (ks.take i)).length + x.lf.length ≤ 100000) := by
            have h1 : lfs ks = lfs (ks.take (i + 1)) ++ lfs (ks.drop (i + 1)) := by rw [← lfs_app, List.take_append_drop]
            have h2 := HLL.out
            rw [h1, htk, List.length_append, List.length_append] at h2
            show _ ≤ _; omega
          rw [hM]
          unfold ndv at HC
          obtain ⟨xi, hxi⟩ : ∃ y, x.id = y := ⟨_, rfl⟩
          obtain ⟨xk, hxk⟩ : ∃ y, x.kind = y := ⟨_, rfl⟩
          obtain ⟨xt, hxt⟩ : ∃ y, x.text = y := ⟨_, rfl⟩
          rw [hxi, hxk, hxt] at HC
          rw [hxi] at d0; rw [hxk] at d1; rw [hxt] at d2
          clear hG hb hku hcell hx hxm htk hM hMx z1 hxi hxk hxt
          go_wp2_with fail
          refine HC.out.mono ?_
          rintro e w5 ⟨v5, rfl, hrow, b5⟩
          have H5 : Hid (Below W1.heap.size W1 w5) := HR.out.trans (b5.mono HR.out.size)
          have HO5 := Lib.hid (own_same HO.out (fun g hg => b5.block g (HO.out.lt g hg).2))
          obtain ⟨L0, hL0⟩ : ∃ l, lfs (ks.take i) = l := ⟨_, rfl⟩
          obtain ⟨L1, hL1⟩ : ∃ l, x.lf = l := ⟨_, rfl⟩
          rw [hL0] at HO5 HLN
          rw [hL1] at hrow HLN
          rw [hL1]
          have HREL : Hid (∀ (o' : Value) (w6 : World), w6.ownsRow W1.heap.size 55 3 o' (L0.length + L1.length) (tkv (toks L0 at_) ++ tkv (toks L1 M)) → Hid (w6.ownsRow W1.heap.size 55 3 o' (lfs (ks.take (i + 1))).length (tkv (toks (lfs (ks.take (i + 1))) at_)))) := fun o' w6 h1 => by
            have hM9 := HM.out
            rw [hL0] at hM9
            show World.ownsRow _ _ _ _ _ _ _
            rw [HTK.out, hL0, hL1, toks_app, tkv_app, List.length_append, hM9]
            exact h1
          have hl1 : (toks L1 M).length = L1.length := toks_len _ _
          rw [hl1] at hrow
          have HM3 : Hid (at_ + wid (lfs (ks.take (i + 1))) = M + wid L1) := by rw [← hL1]; exact HM2.out
          have hln := HLN.out
          rcases hrow.2 with ⟨rfl, h0⟩ | ⟨g, cp, cur, rfl, hlo5, hg5, hle5, hmx5, _⟩
          · have hL1e : L1.length = 0 := h0
            have hrel2 := HREL.out
            have hnil : L1 = [] := List.eq_nil_of_length_eq_zero hL1e
            clear hL0 hL1 hrow b5 HREL
            subst hnil
            have HREL := Lib.hid hrel2
            clear hrel2
            go_wp2_with (at_builtin; refine wpList_append_own_none rfl _ _ 52 rfl W1.heap.size 55 i3 3 Try.underlying52 hi3 _ L0.length (tkv (toks L0 at_)) rfl HO5.out rfl ?_)
            refine ⟨⟨i + 1, by go_num, by omega, by rw [HM3.out, Int.natCast_add], HREL.out _ _ ?_, H5⟩, by simp [intOf]; omega⟩
            have := HO5.out
            simpa [toks, tkv] using this
          · have hrc := row_cells hrow
            have HRC := Lib.hid hrc
            have HTL : Hid ((tkv (toks L1 M)).length = L1.length * 3) := by show _ = _; rw [tkv_len, hl1]
            have hz5 : W1.heap.size ≤ w5.heap.size := H5.out.size
            clear hL0 hL1 hrow b5 hrc hg5 hl1 hlo5
            go_wp2_with (at_builtin; refine wpList_append_own_at _ rfl _ _ 52 rfl W1.heap.size 55 i3 (.agg #[.int .i64 0, .string ⟨#[]⟩, .int .i64 0]) 3 32 Try.underlying52 hi3 iy0 iy1 iy2 rfl (by decide) _ L0.length (tkv (toks L0 at_)) rfl HO5.out ⟨g, 0, none⟩ L1.length cp (tkv (toks L1 M)) rfl HTL.out HRC.out (tkv_one _) (by unfold maxLen; omega) (by omega) hz5 ?_; intro v6 w6 hown6 hgrow6 hnn6 hat6)
            have HB6 : Hid (Below W1.heap.size W1 w6) := H5.out.grown hgrow6 hz5 (fun g hg => (HO5.out.lt g hg).1)
            exact ⟨⟨i + 1, by go_num, by omega, by rw [HM3.out, Int.natCast_add], HREL.out _ _ hown6, HB6⟩, by simp [intOf]; omega⟩
        · have hin2 : ¬ ((i : Int) < (n : Int)) := by omega
          obtain rfl : i = n := by omega
          have hall : ks.take i = ks := List.take_of_length_le (Nat.le_of_eq HKN.out)
          rw [hall] at HO ⊢
          have HFIN : Hid (NewTk w (toks (lfs ks) at_) u6 wr) := by
            refine ⟨by rw [toks_len, HQ.out]; exact own_base2 HO.out (by omega), by rw [HQ.out]; exact z1⟩
          clear hall hi z1
          go_wp2_with fail
          go_ret2
          exact ⟨_, rfl, HFIN.out⟩

end Go.Proofs.Ytfecajeenmnoeaa
