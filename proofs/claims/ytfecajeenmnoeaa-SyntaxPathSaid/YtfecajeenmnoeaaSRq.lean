/- The reference's Path. Conditions: tidy trees of at most 100000 nodes and 1000000 bytes. -/
import Derived.Test.YtfecajeenmnoeaaSHi
import Derived.Test.YtfecajeenmnoeaaRegH
namespace Go.Proofs.Ytfecajeenmnoeaa
open Go.RowKit Go.Shelf
set_option linter.unusedVariables false

/-- What the reference's Path hands back. -/
def RPathP (t : Nd) (o : Int) (w : World) (e : Ending) (w' : World) : Prop := Below w.heap.size w w' ∧
  ((∃ (s : Spot) (v : Value), s ∈ lspots t ∧ Hit o s ∧ e = .returned (.tuple #[v, .bool true]) ∧ w'.ownsRow w.heap.size 3 1 v s.path.length (ints s.path)) ∨
   ((∀ s ∈ lspots t, ¬ Hit o s) ∧ e = .returned (.tuple #[.slice none 0 0, .bool false])))
theorem sli_intsP {w : World} {base n : Nat} {v : Value} {p : List Nat} (h : w.ownsRow base 3 1 v n (ints p)) : ∃ a c, v = .slice a p.length c ∧ Sli .i64 w a c (zi p) := by
  obtain ⟨_, a, c, rfl, hs⟩ := sli_of_own (zs := zi p) (by rw [zi, List.map_map]; exact h)
  exact ⟨a, c, by simp, hs⟩
theorem ints_one (p : List Nat) : ∀ u ∈ ints p, u.oneCell' = true := by
  intro u hu
  obtain ⟨x, _, rfl⟩ := List.mem_map.1 hu
  rfl

set_option maxRecDepth 100000 in
set_option maxHeartbeats 8000000 in
theorem rpath_any : ∀ (d : Nat) (t : Nd) (a : Option Addr) (n cap : Nat) (o : Int) (w : World) (G : Nat → Prop), t.dep ≤ d → KV G w a n cap t.kids → t.cnt ≤ 100000 → t.pw ≤ 1000000 → t.tidy → -9223372036854775808 ≤ o → o ≤ 9223372036854775807 →
    Calls Try.prog 49 #[ndv t a n cap, .int .i64 o] w (RPathP t o w)
  | 0, t, a, n, cap, o, w, G, hd, hK, hc, hw, ht, ho1, ho2 => by have := t.dep_eq; omega
  | d + 1, t, a, n, cap, o, w, G, hd, hK, hc, hw, ht, ho1, ho2 => by
    obtain ⟨i3, hi3, iy0, iy1, iy2⟩ := info_parts info3
    obtain ⟨hkl, hnc, hcm⟩ := hK.len
    obtain ⟨W1, hW1⟩ : ∃ W, w.alloc (.cells (ndc t a n cap) 25) = W := ⟨_, rfl⟩
    have b1 : Below w.heap.size w W1 := by rw [← hW1]; exact (Below.refl _ _).alloc (Nat.le_refl _) _
    have k1 : Blk W1 w.heap.size 25 (ndc t a n cap) := by rw [← hW1]; exact Blk.new _ _ _
    have hK1 := hK.on b1
    obtain ⟨q, hq⟩ : ∃ q, w.heap.size = q := ⟨_, rfl⟩
    rw [hq] at k1
    have HX : Hid (∀ W, Below W1.heap.size W1 W → W.cell? ⟨q, 0, none⟩ = some (.int .i64 t.id) ∧ W.cell? ⟨q, 1, none⟩ = some (.int .i64 t.kind) ∧ W.cell? ⟨q, 2, none⟩ = some (.string t.text) ∧ W.cell? ⟨q, 3, none⟩ = some (.slice a n cap) ∧ Below q w W) := fun W hW => by
      have kk := k1.same (hW.block q k1.lt)
      have hb := b1.trans (hW.mono b1.size)
      rw [hq] at hb
      exact ⟨kk.cell 0, kk.cell 1, kk.cell 2, kk.cell 3, hb⟩
    have hpl := pw_lf t ht
    have hwl : wid t.lf ≤ 1000000 := by omega
    have HTX : Hid (∀ W, Below W1.heap.size W1 W → Calls Try.prog 37 #[ndv t a n cap] W fun e w' => e = .returned (.string (cat t.lf)) ∧ Below W.heap.size W w') := fun W hW => rText_any t a n cap W _ (hK1.on hW) hc hwl
    have CL : Hid (∀ W, Calls Try.prog 46 #[ndv t a n cap] W fun e w' => e = .returned (.bool (decide t.leaf)) ∧ Below W.heap.size W w') := fun W => rleaf_any t a n cap W
    have hsz : (cat t.lf).size = t.pw := by rw [cat_size, hpl]
    have hlo : w.heap.size ≤ W1.heap.size := b1.size
    have HNO : Hid (o < 0 ∨ (t.pw : Int) ≤ o → ∀ W, Below W1.heap.size W1 W → RPathP t o w (.returned (.tuple #[.slice none 0 0, .bool false])) W) := fun h W hW => ⟨b1.trans (hW.mono hlo), .inr ⟨no_hit ht (by rw [← hpl]; exact h), rfl⟩⟩
    have HLF : Hid (t.leaf → 0 ≤ o → o < (t.pw : Int) → ∀ W, Below W1.heap.size W1 W → RPathP t o w (.returned (.tuple #[.slice none 0 0, .bool true])) W) := fun hl h0 h1 W hW => by
      refine ⟨b1.trans (hW.mono hlo), .inl ⟨⟨[], t, 0⟩, _, by rw [leaf_spot ht hl]; simp, ?_, rfl, World.ownsRow_nil _ _ _ _⟩⟩
      have h2 := t.pw_eq
      have h3 : pws t.kids = 0 := by
        have h0 : t.kids = [] := by obtain ⟨i, kk, x, ks⟩ := t; rw [Nd.tidy] at ht; exact ht.1 hl
        rw [h0]; simp [pws]
      rw [if_pos hl] at h2
      exact ⟨by simpa using h0, by show o < ((0 : Nat) : Int) + (t.text.size : Int); omega⟩
    have HKD : Hid (¬ t.leaf → ∀ i (hi : i < t.kids.length) (s : Spot) (v6 : Value) (w6 : World), s ∈ lspots t.kids[i] → Hit (o - (pws (t.kids.take i) : Int)) s → w6.ownsRow W1.heap.size 3 1 v6 (1 + s.path.length) (.int .i64 (i : Int) :: ints s.path) → Below W1.heap.size W1 w6 → RPathP t o w (.returned (.tuple #[v6, .bool true])) w6) := fun hl i hi s v6 w6 hs hh hown hb => by
      refine ⟨b1.trans (hb.mono hlo), .inl ⟨_, v6, kid_spot hl hi hs, ?_, rfl, ?_⟩⟩
      · obtain ⟨g1, g2⟩ := hh
        refine ⟨?_, ?_⟩
        · show ((pws (t.kids.take i) + s.off : Nat) : Int) ≤ o
          omega
        · show o < ((pws (t.kids.take i) + s.off : Nat) : Int) + (s.nd.text.size : Int)
          omega
      · have := own_base2 hown hlo
        rw [Nat.add_comm] at this
        exact this
    have hdk : ∀ x ∈ t.kids, x.dep ≤ d ∧ x.cnt ≤ 100000 ∧ x.pw ≤ 1000000 ∧ x.tidy := fun x hx => by
      have h1 := t.kid_dep hx
      have h2 := t.kid_cnt hx
      obtain ⟨i, hi, rfl⟩ := List.mem_iff_getElem.1 hx
      have h3 := pws_take t.kids i hi
      have h4 := pws_le t.kids (i + 1)
      have h5 := t.pw_eq
      exact ⟨by omega, by omega, by omega, tidys_mem (tidy_kids ht) (List.getElem_mem hi)⟩
    have HREC : Hid (∀ x (a' : Option Addr) (n' c' : Nat) (o' : Int) W, x ∈ t.kids → KV G W a' n' c' x.kids → -9223372036854775808 ≤ o' → o' ≤ 9223372036854775807 → Calls Try.prog 49 #[ndv x a' n' c', .int .i64 o'] W (RPathP x o' W)) := fun x a' n' c' o' W hx hk h1 h2 => rpath_any d x a' n' c' o' W G (hdk x hx).1 hk (hdk x hx).2.1 (hdk x hx).2.2.1 (hdk x hx).2.2.2 h1 h2
    have HKT : Hid (∀ x (a' : Option Addr) (n' c' : Nat) W, x ∈ t.kids → KV G W a' n' c' x.kids → Calls Try.prog 37 #[ndv x a' n' c'] W fun e w' => e = .returned (.string (cat x.lf)) ∧ Below W.heap.size W w') := fun x a' n' c' W hx hk => rText_any x a' n' c' W G hk (hdk x hx).2.1 (by have := pw_lf x (hdk x hx).2.2.2; have := (hdk x hx).2.2.1; omega)
    have HSZ : Hid (∀ x ∈ t.kids, (cat x.lf).size = x.pw ∧ ∀ o' : Int, 0 ≤ o' → o' < (x.pw : Int) → ∃ s ∈ lspots x, Hit o' s) := fun x hx => by
      have h1 := pw_lf x (hdk x hx).2.2.2
      refine ⟨by rw [cat_size, h1], fun o' h2 h3 => ?_⟩
      obtain ⟨m, rfl⟩ : ∃ m : Nat, o' = (m : Int) := ⟨o'.toNat, by omega⟩
      exact hit_ex (hdk x hx).2.2.2 (by omega)
    have HPL : Hid (∀ x ∈ t.kids, ∀ s ∈ lspots x, s.path.length ≤ 100000) := fun x hx s hs => by have h1 := (off_leaf hs).2; have h2 := x.dep_cnt; have h3 := (hdk x hx).2.1; omega
    have HPW : Hid (¬ t.leaf → t.pw = pws t.kids) := fun hl => by have := t.pw_eq; rw [if_neg hl] at this; omega
    obtain ⟨ct, hct⟩ : ∃ z, cat t.lf = z := ⟨_, rfl⟩
    obtain ⟨id, hid⟩ : ∃ x, t.id = x := ⟨_, rfl⟩
    obtain ⟨kd, hkd⟩ : ∃ x, t.kind = x := ⟨_, rfl⟩
    obtain ⟨tx, htx⟩ : ∃ x, t.text = x := ⟨_, rfl⟩
    have hkn := t.kids_len
    obtain ⟨lf, hlf⟩ : ∃ p : Prop, t.leaf = p := ⟨_, rfl⟩
    obtain ⟨pw, hpw⟩ : ∃ x, t.pw = x := ⟨_, rfl⟩
    unfold ndv ndc at *
    rw [hid, hkd, htx] at hW1
    rw [hid, hkd, htx] at CL HX HTX
    rw [hid, hkd, htx]
    rw [hct] at HTX hsz
    rw [hpw] at hw hsz HNO HLF HPW
    generalize t.kids = ks at hK1 hkl HKD HREC HKT HSZ HPW HPL hkn
    have HK1 := Lib.hid hK1; have HW1 := Lib.hid hW1; have HQ := Lib.hid hq; have HKN := Lib.hid hkl
    have hn5 : n ≤ 100000 := by omega
    obtain ⟨lb, hlb⟩ : ∃ b, decide t.leaf = b := ⟨_, rfl⟩
    rw [hlb] at CL
    have HLB : Hid ((lb = true → t.leaf) ∧ (lb = false → ¬ t.leaf)) := ⟨fun h => of_decide_eq_true (hlb.trans h), fun h => of_decide_eq_false (hlb.trans h)⟩
    clear hK hK1 hdk hd hc hkl hnc hW1 k1 b1 hid hkd htx hkn hct hpl hwl hlf hpw ht hq hlo hlb
    obtain ⟨c0, c1, c2, c3, _⟩ := HX.out W1 (Below.refl _ _)
    by_cases h0 : o < 0
    · have HF := Lib.hid (HNO.out (.inl h0) W1 (Below.refl _ _))
      go_enter Try.func49, Try.ntmps49
      go_wp2_with fail
      rw [HW1.out, HQ.out]
      go_wp2
      go_ret2
      exact HF.out
    · by_cases h1 : (pw : Int) ≤ o
      · have HF := Lib.hid (HNO.out (.inr h1))
        have h2 : (ct.size : Int) ≤ o := by omega
        go_enter Try.func49, Try.ntmps49
        go_wp2_with fail
        rw [HW1.out, HQ.out]
        go_wp2_with fail
        refine (HTX.out W1 (Below.refl _ _)).mono ?_
        rintro e w2 ⟨rfl, b2⟩
        have HF2 := Lib.hid (HF.out w2 b2)
        clear b2
        go_wp2
        go_ret2
        exact HF2.out
      · have h2 : ¬ (ct.size : Int) ≤ o := by omega
        go_enter Try.func49, Try.ntmps49
        go_wp2_with fail
        rw [HW1.out, HQ.out]
        go_wp2_with fail
        refine (HTX.out W1 (Below.refl _ _)).mono ?_
        rintro e w2 ⟨rfl, b2⟩
        have HB2 := Lib.hid b2
        clear c0 c1 c2 c3
        obtain ⟨c0, c1, c2, c3, _⟩ := HX.out w2 b2
        clear b2
        go_wp2_with fail
        refine (CL.out w2).mono ?_
        rintro e w3 ⟨rfl, b3⟩
        have HB3 : Hid (Below W1.heap.size W1 w3) := HB2.out.trans (b3.mono HB2.out.size)
        clear c0 c1 c2 c3 b3
        cases lb with
        | true =>
          have HF := Lib.hid (HLF.out (HLB.out.1 rfl) (by omega) (by omega) w3 HB3.out)
          go_wp2
          go_ret2
          exact HF.out
        | false =>
          have HNL : Hid (¬ t.leaf) := HLB.out.2 rfl
          have hpk := HPW.out HNL.out
          have HPK : Hid (pw = pws ks) := hpk
          clear hpk
          go_wp2_with fail
          go_loopw [6, 7] (fun v g wr => ∃ i : Nat, g = .int .i64 (i : Int) ∧ i ≤ n ∧ v = .int .i64 ((pws (ks.take i) : Nat) : Int) ∧ ((pws (ks.take i) : Nat) : Int) ≤ o ∧ Hid (Below W1.heap.size W1 wr)) (fun _ g _ => n - (intOf g).toNat)
          case atStart => exact ⟨0, rfl, by omega, by simp [pws], by simp [pws]; omega, HB3⟩
          case round =>
            obtain ⟨i, rfl, hi, rfl, hat, HR⟩ := hrel
            obtain ⟨c0, c1, c2, c3, _⟩ := HX.out wr HR.out
            by_cases hin : i < n
            · have hin2 : (i : Int) < (n : Int) := by omega
              have m1 : IntKind.i64.wrap ((i : Int) + 1) = (i : Int) + 1 := by simp [IntKind.wrap, IntKind.signed, IntKind.bits]; omega
              have hik : i < ks.length := by rw [HKN.out]; exact hin
              obtain ⟨b, off, u, un, uc, rfl, hG, hb, hku, hcell⟩ := HK1.out.kid hik
              have hxm : ks[i] ∈ ks := List.getElem_mem hik
              obtain ⟨hs1, hs2⟩ := HSZ.out _ hxm
              have hkuw := hku.keep HR.out.size (fun b _ hlt => HR.out.block b hlt) (fun _ h _ => h)
              have HTE := Lib.hid (HKT.out _ u un uc wr hxm hkuw)
              have HSPOT := Lib.hid hs2
              have htk := pws_take ks i hik
              have htl := pws_le ks (i + 1)
              have hpk := HPK.out
              have HKD2 := Lib.hid (HKD.out HNL.out i hik)
              have HREC2 : Hid (∀ (o' : Int) W, Below wr.heap.size wr W → -9223372036854775808 ≤ o' → o' ≤ 9223372036854775807 → Calls Try.prog 49 #[ndv ks[i] u un uc, .int .i64 o'] W (RPathP ks[i] o' W)) := fun o' W hW h1 h2 => HREC.out _ u un uc o' W hxm (hkuw.on hW) h1 h2
              obtain ⟨x, hx⟩ : ∃ x, ks[i] = x := ⟨_, rfl⟩
              have HPL2 := Lib.hid (HPL.out _ hxm)
              rw [hx] at HTE hs1 htk
              simp only [hx] at HSPOT HREC2 HKD2 HPL2 hcell
              obtain ⟨z, hz⟩ : ∃ z, pws (ks.take i) = z := ⟨_, rfl⟩
              rw [hz] at hat htk ⊢
              simp only [hz] at HKD2
              have hzy : z + x.pw ≤ 1000000 := by omega
              have HZ2 : Hid (pws (ks.take (i + 1)) = z + x.pw) := htk
              obtain ⟨xi, hxi⟩ : ∃ y, x.id = y := ⟨_, rfl⟩
              obtain ⟨xk, hxk⟩ : ∃ y, x.kind = y := ⟨_, rfl⟩
              obtain ⟨xt, hxt⟩ : ∃ y, x.text = y := ⟨_, rfl⟩
              obtain ⟨cx, hcx⟩ : ∃ y, cat x.lf = y := ⟨_, rfl⟩
              obtain ⟨pk, hpk'⟩ : ∃ y, x.pw = y := ⟨_, rfl⟩
              rw [hcx] at HTE hs1
              rw [hpk'] at hs1 hzy HZ2
              simp only [hpk'] at HSPOT
              try unfold ndv at HTE
              try unfold ndv at HREC2
              rw [hxi, hxk, hxt] at HTE HREC2
              simp only [hxi, hxk, hxt] at hcell
              obtain ⟨d0, d1, d2, d3⟩ := hcell wr (HR.out.block b hb)
              have HCL := Lib.hid hcell
              have HHB := Lib.hid hb
              have m3 : IntKind.i64.wrap ((z : Int) + (cx.size : Int)) = (z : Int) + (cx.size : Int) := by simp [IntKind.wrap, IntKind.signed, IntKind.bits]; omega
              have m4 : IntKind.i64.wrap (o - (z : Int)) = o - (z : Int) := by simp [IntKind.wrap, IntKind.signed, IntKind.bits]; omega
              clear hG hku hkuw hxm hs2 htk htl hpk hx hz hxi hxk hxt hcx hpk' hcell hb
              by_cases hlt : o < (z : Int) + (cx.size : Int)
              · go_wp2_with fail
                refine HTE.out.mono ?_
                rintro e w4 ⟨rfl, b4⟩
                have HR4 : Hid (Below W1.heap.size W1 w4) := HR.out.trans (b4.mono HR.out.size)
                have HRC := Lib.hid (HREC2.out (o - (z : Int)) w4 b4 (by omega) (by omega))
                clear b4 c0 c1 c2 c3 d0 d1 d2 d3
                obtain ⟨d0, d1, d2, d3⟩ := HCL.out w4 (HR4.out.block b HHB.out)
                obtain ⟨c0, c1, c2, c3, _⟩ := HX.out w4 HR4.out
                go_wp2_with fail
                refine HRC.out.mono ?_
                rintro e w5 ⟨b5, ⟨s, v, hs, hh, rfl, hown⟩ | ⟨hno, _⟩⟩
                · have HR5 : Hid (Below W1.heap.size W1 w5) := HR4.out.trans (b5.mono HR4.out.size)
                  have hL := HPL2.out s hs
                  have HFIN : Hid (∀ v6 w6, w6.ownsRow W1.heap.size 3 1 v6 (1 + s.path.length) (.int .i64 (i : Int) :: ints s.path) → Below W1.heap.size W1 w6 → RPathP t o w (.returned (.tuple #[v6, .bool true])) w6) := fun v6 w6 => HKD2.out s v6 w6 hs hh
                  have hz5 : W1.heap.size ≤ w5.heap.size := HR5.out.size
                  have HLIT : Hid ((w5.alloc (.cells #[.int .i64 (i : Int)] 3)).ownsRow W1.heap.size 3 1 (.slice (some ⟨w5.heap.size, 0, none⟩) 1 1) 1 [.int .i64 (i : Int)]) := World.ownsRow_lit w5 #[.int .i64 (i : Int)] 1 (size := 1) (e := 3) (base := W1.heap.size) hz5 (by unfold maxLen; omega) rfl
                  have HBA : Hid (Below W1.heap.size W1 (w5.alloc (.cells #[.int .i64 (i : Int)] 3))) := HR5.out.alloc hz5 _
                  obtain ⟨sp, hsp⟩ : ∃ z, s.path = z := ⟨_, rfl⟩
                  rw [hsp] at hown hL HFIN
                  clear hs hh b5 hsp
                  rcases hown.2 with ⟨rfl, hn0⟩ | ⟨g, cp, cur, rfl, hlo5, hg5, hle5, hmx5, _⟩
                  · have hnil : sp = [] := List.eq_nil_of_length_eq_zero hn0
                    clear hown hn0 hL
                    subst hnil
                    go_wp2_with (at_builtin; refine wpList_append_own_none rfl _ _ 22 rfl W1.heap.size 3 i3 1 Try.underlying22 hi3 _ 1 [.int .i64 (i : Int)] rfl HLIT.out rfl ?_)
                    go_ret2
                    exact HFIN.out _ _ HLIT.out HBA.out
                  · have hrow := own_same hown (C := w5.alloc (.cells #[.int .i64 (i : Int)] 3)) (fun g hg => Below.heap_alloc _ _ g (hown.lt g hg).2)
                    have HRW := Lib.hid (row_cells hrow)
                    have HTL : Hid ((ints sp).length = sp.length * 1) := by show _ = _; simp
                    have HZ6 : Hid (W1.heap.size ≤ (w5.alloc (.cells #[.int .i64 (i : Int)] 3)).heap.size) := by show _ ≤ _; simp; omega
                    obtain ⟨L, hLL⟩ : ∃ z, sp.length = z := ⟨_, rfl⟩
                    rw [hLL] at HTL HFIN hL hle5 ⊢
                    clear hown hrow hlo5 hg5 hLL
                    go_wp2_with (at_builtin; refine wpList_append_own_at _ rfl _ _ 22 rfl W1.heap.size 3 i3 (.int .i64 0) 1 8 Try.underlying22 hi3 iy0 iy1 iy2 rfl (by decide) _ 1 [.int .i64 (i : Int)] rfl HLIT.out ⟨g, 0, none⟩ L cp (ints sp) rfl HTL.out HRW.out (ints_one sp) (by unfold maxLen; omega) (by omega) HZ6.out ?_; intro v6 w6 hown6 hgrow6 hnn6 hat6)
                    have HB6 : Hid (Below W1.heap.size W1 w6) := HBA.out.grown hgrow6 HZ6.out (fun g hg => (HLIT.out.lt g hg).1)
                    have HOW6 := Lib.hid hown6
                    clear hown6 hgrow6 hnn6 hat6
                    go_wp2
                    go_ret2
                    exact HFIN.out _ _ HOW6.out HB6.out
                · obtain ⟨s, hs, hh⟩ := HSPOT.out (o - (z : Int)) (by omega) (by omega)
                  exact absurd hh (hno s hs)
              · go_wp2_with fail
                refine HTE.out.mono ?_
                rintro e w4 ⟨rfl, b4⟩
                have HR4 : Hid (Below W1.heap.size W1 w4) := HR.out.trans (b4.mono HR.out.size)
                clear b4 c0 c1 c2 c3 d0 d1 d2 d3
                go_wp2
                go_roundw
                case rel => exact ⟨i + 1, by go_num, by omega, by rw [HZ2.out, Int.natCast_add, ← hs1], by rw [HZ2.out]; omega, HR4⟩
                case measure => simp [intOf]; omega
            · have hall : ks.take i = ks := List.take_of_length_le (by rw [HKN.out]; omega)
              rw [hall] at hat
              have := HPK.out
              omega

end Go.Proofs.Ytfecajeenmnoeaa
