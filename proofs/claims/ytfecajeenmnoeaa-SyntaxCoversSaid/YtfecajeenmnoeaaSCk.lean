/- The walk of SyntaxCovers. It has no conditions. -/
import Derived.Test.YtfecajeenmnoeaaSCm
import Derived.Test.YtfecajeenmnoeaaSLi
import Derived.Test.YtfecajeenmnoeaaSTt
namespace Go.Proofs.Ytfecajeenmnoeaa
open Go.RowKit Go.Shelf
set_option linter.unusedVariables false

theorem sli_ints {w : World} {base n : Nat} {v : Value} {p : List Nat} (h : w.ownsRow base 3 1 v n (ints p)) : ∃ a c, v = .slice a p.length c ∧ Sli .i64 w a c (zi p) := by
  obtain ⟨_, a, c, rfl, hs⟩ := sli_of_own (zs := zi p) (by rw [zi, List.map_map]; exact h)
  exact ⟨a, c, by simp, hs⟩

set_option maxRecDepth 100000 in
set_option maxHeartbeats 8000000 in
theorem walkSCov (a0 : Option Addr) (c0 : Nat) (ls : List Int) (w : World) (hl : Sli .i64 w a0 c0 ls) (hwl : ∀ n ∈ ls, -9223372036854775808 ≤ n ∧ n ≤ 9223372036854775807) :
    Calls Try.prog 9 #[.slice a0 ls.length c0] w fun e w' => e = .returned (.bool true) ∧ Below w.heap.size w w' := by
  have HTR := Lib.hid (Tree_any a0 ls.length c0 hl.le hl.mx w (SlJ.of hl hwl))
  obtain ⟨ln, hln⟩ : ∃ z, ls.length = z := ⟨_, rfl⟩
  rw [hln] at HTR ⊢
  clear hl hwl hln
  go_enter Try.func9, Try.ntmps9
  go_wp2_with fail
  refine HTR.out.mono ?_
  rintro e w1 ⟨t, a, n, cap, rfl, hkv, hsm, _, b1⟩
  obtain ⟨w2, hw2⟩ : ∃ W, w1.alloc (.cells (ndc t a n cap) 25) = W := ⟨_, rfl⟩
  have b2' : Below w1.heap.size w1 w2 := by rw [← hw2]; exact (Below.refl _ _).alloc (Nat.le_refl _) _
  have k2 : Blk w2 w1.heap.size 25 (ndc t a n cap) := by rw [← hw2]; exact Blk.new _ _ _
  have b2 : Below w.heap.size w w2 := b1.trans (b2'.mono b1.size)
  have hkv2 := hkv.on b2'
  have hcnt := hsm.cnt
  have hpw := hsm.pw
  have hcnt' : t.cnt ≤ 3125 := hcnt
  have htd := hsm.tidy
  have hpl := pw_lf t htd
  obtain ⟨q, hq⟩ : ∃ q, w1.heap.size = q := ⟨_, rfl⟩
  rw [hq] at k2
  have HX : Hid (∀ W, Below w2.heap.size w2 W → W.cell? ⟨q, 0, none⟩ = some (.int .i64 t.id) ∧ W.cell? ⟨q, 1, none⟩ = some (.int .i64 t.kind) ∧ W.cell? ⟨q, 2, none⟩ = some (.string t.text) ∧ W.cell? ⟨q, 3, none⟩ = some (.slice a n cap)) := fun W hW => by
    have kk := k2.same (hW.block q k2.lt)
    exact ⟨kk.cell 0, kk.cell 1, kk.cell 2, kk.cell 3⟩
  obtain ⟨L, hL⟩ : ∃ L, t.lf = L := ⟨_, rfl⟩
  have HTX : Hid (Calls Try.prog 31 #[ndv t a n cap] w2 fun e w' => e = .returned (.string (cat L)) ∧ Below w2.heap.size w2 w') := by
    have := ptext_any t a n cap w2 _ hkv2 (by omega) (by omega)
    rw [text_cat t htd, hL] at this
    exact this
  have HLE : Hid (∀ W, Below w2.heap.size w2 W → Calls Try.prog 32 #[ndv t a n cap] W fun e w' => ∃ u, e = .returned u ∧ NewTk W (toks L 0) u w') := fun W hW => by
    have := pleaves_any t a n cap W _ (hkv2.on hW) (by omega) (by omega)
    rw [show ltk (lspots t) = toks L 0 by rw [← hL]; exact lspots_toks t htd] at this
    exact this
  have HPA : Hid (∀ W (o : Int), 0 ≤ o → o < (cat L).size → Below w2.heap.size w2 W → Calls Try.prog 33 #[ndv t a n cap, .int .i64 o] W fun e w' => ∃ (s : Spot) (pa : Option Addr) (pc : Nat), s ∈ lspots t ∧ Hit o s ∧ e = .returned (.tuple #[.slice pa s.path.length pc, .bool true]) ∧ Sli .i64 w' pa pc (zi s.path) ∧ Below W.heap.size W w') := fun W o h1 h2 hW => by
    have hsz : (cat L).size ≤ 1000000 := by rw [cat_size, ← hL, ← hpl]; omega
    refine (ppath_any t a n cap o W _ (hkv2.on hW) (by omega) (by omega) ⟨by omega, by omega⟩).mono ?_
    rintro e w' ⟨hb, ⟨k, s, v, g1, _, g3, rfl, g5⟩ | ⟨g1, _⟩⟩
    · obtain ⟨pa, pc, rfl, hs⟩ := sli_ints g5
      exact ⟨s, pa, pc, List.mem_of_getElem? g1, g3, rfl, hs, hb⟩
    · obtain ⟨o', rfl⟩ : ∃ o' : Nat, o = (o' : Int) := ⟨o.toNat, by omega⟩
      obtain ⟨s, hs, hh⟩ := hit_ex htd (o := o') (by rw [hL, ← cat_size]; omega)
      exact absurd hh (g1 s hs)
  have HGE : Hid (∀ W (s : Spot) (pa : Option Addr) (pc : Nat), s ∈ lspots t → Sli .i64 W pa pc (zi s.path) → Below w2.heap.size w2 W → Calls Try.prog 30 #[ndv t a n cap, .slice pa s.path.length pc] W fun e w' => ∃ (ga : Option Addr) (gc : Nat), e = .returned (.tuple #[.agg #[.int .i64 s.nd.id, .int .i64 s.nd.kind, .string s.nd.text, .slice ga 0 gc], .int .i64 (s.off : Int), .bool true]) ∧ Below W.heap.size W w') := fun W s pa pc hs hsl hW => by
    obtain ⟨g1, g2, _⟩ := lspot_get htd hs
    have hof := off_leaf hs
    have hdc := Nd.dep_cnt t
    have := pget_any t a n cap pa pc (zi s.path) W _ (hkv2.on hW) (by omega) (by omega) hsl (by simp; omega)
    rw [show (zi s.path).length = s.path.length by simp] at this
    refine this.mono ?_
    rintro e w' ⟨hb, ⟨x, o, ga, gc, h1, rfl, _⟩ | ⟨h1, _⟩⟩
    · rw [g1] at h1
      simp only [Option.some.injEq, Prod.mk.injEq] at h1
      obtain ⟨rfl, rfl⟩ := h1
      rw [g2]
      exact ⟨ga, gc, rfl, hb⟩
    · rw [g1] at h1; cases h1
  have HSP : Hid (∀ (s : Spot) (o : Nat), s ∈ lspots t → Hit (o : Int) s → ¬ (8 < s.nd.kind) ∧ s.off ≤ o ∧ o < s.off + s.nd.text.size ∧ s.off + s.nd.text.size ≤ 1000000 ∧ ∃ c : Int, (∀ W, Sem.run Try.prog (Instr.index 9 (.string s.nd.text) (.int .i64 ((o - s.off : Nat) : Int))) W = .ok (.int .u8 c) W) ∧ (∀ W, Sem.run Try.prog (Instr.index 9 (.string (cat L)) (.int .i64 (o : Int))) W = .ok (.int .u8 c) W)) := fun s o hs hh => by
    obtain ⟨g1, g2, g3, g4⟩ := lspot_get htd hs
    have hof := off_leaf hs
    obtain ⟨i1, i2⟩ := hh
    have hj : o - s.off < s.nd.text.size := by omega
    obtain ⟨h2, h3⟩ := leaf_byte htd hs (j := o - s.off) hj
    have he : s.off + (o - s.off) = o := by omega
    simp only [hL, he] at h2 h3
    refine ⟨by omega, by omega, by omega, by omega, ((s.nd.text[o - s.off]).toNat : Int), fun W => ?_, fun W => ?_⟩
    · rw [run_index_string W 9 s.nd.text .i64 _ Try.underlying9, dif_pos ⟨by omega, by omega⟩]
      simp only [Int.toNat_natCast]
    · rw [run_index_string W 9 (cat L) .i64 _ Try.underlying9, dif_pos ⟨by omega, by omega⟩]
      simp only [Int.toNat_natCast, h3]
  have HWI : Hid (∀ W, Below w2.heap.size w2 W → Calls Try.prog 34 #[ndv t a n cap] W fun e w' => e = .returned (.int .i64 ((cat L).size : Int)) ∧ Below W.heap.size W w') := fun W hW => by
    have := pwidth_any t a n cap W _ (hkv2.on hW) (by omega) (by omega)
    rw [hpl, hL, ← cat_size] at this
    exact this
  have hsz : (cat L).size ≤ 1000000 := by rw [cat_size, ← hL, ← hpl]; omega
  have hll : L.length ≤ 100000 := by rw [← hL]; have := t.lf_len; omega
  obtain ⟨id, hid⟩ : ∃ x, t.id = x := ⟨_, rfl⟩
  obtain ⟨kd, hkd⟩ : ∃ x, t.kind = x := ⟨_, rfl⟩
  obtain ⟨tx, htx⟩ : ∃ x, t.text = x := ⟨_, rfl⟩
  unfold ndv at HTX HLE HPA HGE HWI
  unfold ndc at hw2
  rw [hid, hkd, htx] at HTX HLE HPA HGE HWI HX hw2
  have HW2 := Lib.hid hw2; have HQ := Lib.hid hq; have HB2 := Lib.hid b2
  obtain ⟨ST, hST⟩ : ∃ x, cat L = x := ⟨_, rfl⟩
  have HST := Lib.hid hST
  rw [hST] at HTX HPA HSP HWI hsz
  clear hkv hsm b1 b2' k2 hkv2 hcnt hpw hcnt' htd hw2 hq b2 hpl hL hST
  unfold ndv
  rw [hid, hkd, htx]
  clear hid hkd htx
  go_wp2_with fail
  rw [HW2.out, HQ.out]
  refine HTX.out.mono ?_
  rintro e w3 ⟨rfl, b3⟩
  obtain ⟨e0, e1, e2, e3⟩ := HX.out w3 b3
  have HB3 := Lib.hid b3
  clear b3
  go_wp2_with fail
  refine (HLE.out w3 HB3.out).mono ?_
  rintro e w4 ⟨u, rfl, hu⟩
  obtain ⟨N, hNN⟩ : ∃ N, L.length = N := ⟨_, rfl⟩
  have hrow := hu.1
  rw [toks_len, hNN] at hrow
  obtain ⟨au, cu, rfl⟩ := own_slice hrow
  have HB4 : Hid (Below w2.heap.size w2 w4) := HB3.out.trans (hu.2.mono HB3.out.size)
  have HN := Lib.hid hNN
  have hN5 : N ≤ 100000 := by omega
  have HCELL : Hid (∀ i (hi : i < L.length), ∃ g, au = some ⟨g, 0, none⟩ ∧ w4.cell? ⟨g, i * 3 + 1, none⟩ = some (.string (L[i]).2) ∧ w4.cell? ⟨g, i * 3 + 2, none⟩ = some (.int .i64 ((cat (L.take i)).size : Int))) := fun i hi => by
    obtain ⟨m, hm⟩ : ∃ m, N = m + 1 := ⟨N - 1, by omega⟩
    have h1 := hrow
    rw [hm] at h1
    obtain ⟨g, cp, h2⟩ := ownsRow_succ h1
    rw [← hm] at h2
    simp only [Value.slice.injEq] at h2
    obtain ⟨rfl, _, _⟩ := h2
    have hi2 : i < (toks L 0).length := by rw [toks_len]; exact hi
    have h3 := tkv_get (toks L 0) i hi2
    rw [toks_get L 0 i hi] at h3
    refine ⟨g, rfl, ?_, ?_⟩
    · rw [hrow.cellAt (i * 3 + 1) (by omega), h3.2.1]
    · rw [hrow.cellAt (i * 3 + 2) (by omega), h3.2.2, cat_size, Nat.zero_add]
  clear hu hrow hNN e0 e1 e2 e3
  go_wp2_with fail
  go_loopw [6, 7] (fun s g wr => ∃ i : Nat, g = .int .i64 (i : Int) ∧ i ≤ N ∧ s = .string (cat (L.take i)) ∧ wr = w4) (fun _ g _ => N - (intOf g).toNat)
  case atStart => exact ⟨0, rfl, by omega, rfl, rfl⟩
  case round =>
    obtain ⟨i, rfl, hi, rfl, rfl⟩ := hrel
    have m1 : IntKind.i64.wrap ((i : Int) + 1) = (i : Int) + 1 := by simp [IntKind.wrap, IntKind.signed, IntKind.bits]; omega
    by_cases hin : i < N
    · have hin2 : (i : Int) < (N : Int) := by omega
      have hiL : i < L.length := by rw [HN.out]; exact hin
      obtain ⟨g, rfl, c1, c2⟩ := HCELL.out i hiL
      have hct := cat_take L i hiL
      have hszn : (cat (L.take (i + 1))).size ≤ 1000000 := by rw [cat_size]; have h1 := wid_take2 L (i + 1); have h2 := cat_size L; rw [HST.out] at h2; omega
      rw [hct, ByteArray.size_append] at hszn
      obtain ⟨y, hy⟩ : ∃ y, (L[i]).2 = y := ⟨_, rfl⟩
      rw [hy] at c1 hct hszn
      obtain ⟨z, hz⟩ : ∃ z, cat (L.take i) = z := ⟨_, rfl⟩
      rw [hz] at hct hszn c2 ⊢
      have hsz2 : z.size + y.size ≤ 9223372036854775807 := by omega
      have hbne : ((z.size : Int) != (z.size : Int)) = false := by simp
      have HCT := Lib.hid hct
      clear hy hz hct
      go_wp2
      go_roundw
      case rel => first | exact ⟨i + 1, by go_num, by omega, by rw [HCT.out], rfl⟩ | exact ⟨i + 1, by go_num, by omega, by rw [HCT.out], trivial⟩ | exact ⟨i + 1, by go_num, by omega, HCT.out.symm⟩
      case measure => simp [intOf]; omega
    · have hin2 : ¬ ((i : Int) < (N : Int)) := by omega
      obtain rfl : i = N := by omega
      have hall : L.take i = L := List.take_of_length_le (Nat.le_of_eq HN.out)
      rw [hall, HST.out]
      obtain ⟨SZ, hSZ⟩ : ∃ z, ST.size = z := ⟨_, rfl⟩
      have HSZ := Lib.hid hSZ
      rw [hSZ] at hsz HPA HWI
      clear hall
      go_wp2_with fail
      go_loopw [8] (fun g wq => ∃ j : Nat, g = .int .i64 (j : Int) ∧ j ≤ SZ ∧ Hid (Below w2.heap.size w2 wq)) (fun g _ => SZ - (intOf g).toNat)
      case atStart => exact ⟨0, rfl, by omega, HB4⟩
      case round =>
        obtain ⟨j, rfl, hj, HR⟩ := hrel
        obtain ⟨e0, e1, e2, e3⟩ := HX.out wr HR.out
        by_cases hjn : j < SZ
        · have hjn2 : (j : Int) < (SZ : Int) := by omega
          have m2 : IntKind.i64.wrap ((j : Int) + 1) = (j : Int) + 1 := by simp [IntKind.wrap, IntKind.signed, IntKind.bits]; omega
          go_wp2_with fail
          refine (HPA.out wr (j : Int) (by omega) hjn2 HR.out).mono ?_
          rintro e w5 ⟨s, pa, pc, hs, hh, rfl, hsl, b5'⟩
          have b5 : Below w2.heap.size w2 w5 := HR.out.trans (b5'.mono HR.out.size)
          obtain ⟨e0, e1, e2, e3⟩ := HX.out w5 b5
          have HG5 := HGE.out w5 s pa pc hs hsl b5
          obtain ⟨p1, p2, p3, p4, cc, p5, p6⟩ := HSP.out s j hs hh
          obtain ⟨pn, hpn⟩ : ∃ z, s.path.length = z := ⟨_, rfl⟩
          obtain ⟨sid, hsid⟩ : ∃ z, s.nd.id = z := ⟨_, rfl⟩
          obtain ⟨kk, hkk⟩ : ∃ z, s.nd.kind = z := ⟨_, rfl⟩
          obtain ⟨x, hx⟩ : ∃ z, s.nd.text = z := ⟨_, rfl⟩
          obtain ⟨z, hz⟩ : ∃ z, s.off = z := ⟨_, rfl⟩
          simp only [hx, hz, hkk] at p1 p2 p3 p4 p5
          rw [hpn, hsid, hkk, hx, hz] at HG5
          rw [hpn]
          have HG5 := Lib.hid HG5
          have HB5 := Lib.hid b5
          clear hs hh hsl b5' b5 hpn hsid hkk hx hz
          go_wp2_with fail
          refine HG5.out.mono ?_
          rintro e w6 ⟨ga, gc, rfl, b6'⟩
          obtain ⟨W7, hW7⟩ : ∃ W, w6.alloc (.cells #[.int .i64 sid, .int .i64 kk, .string x, .slice ga 0 gc] 25) = W := ⟨_, rfl⟩
          have b7' : Below w6.heap.size w6 W7 := by rw [← hW7]; exact (Below.refl _ _).alloc (Nat.le_refl _) _
          have k7 : Blk W7 w6.heap.size 25 #[.int .i64 sid, .int .i64 kk, .string x, .slice ga 0 gc] := by rw [← hW7]; exact Blk.new _ _ _
          have HB6 : Hid (Below w2.heap.size w2 w6) := HB5.out.trans (b6'.mono HB5.out.size)
          have HB7 : Hid (Below w2.heap.size w2 W7.drew) := (HB6.out.trans (b7'.mono HB6.out.size)).drew
          obtain ⟨r, hr⟩ : ∃ r, w6.heap.size = r := ⟨_, rfl⟩
          rw [hr] at k7
          have hS0 : W7.drew.cell? ⟨r, 1, none⟩ = some (.int .i64 kk) ∧ W7.drew.cell? ⟨r, 2, none⟩ = some (.string x) ∧ W7.drew.cell? ⟨r, 3, none⟩ = some (.slice ga 0 gc) := ⟨k7.cell 1, k7.cell 2, k7.cell 3⟩
          have n1 : IntKind.i64.wrap ((z : Int) + (x.size : Int)) = (z : Int) + (x.size : Int) := by simp [IntKind.wrap, IntKind.signed, IntKind.bits]; omega
          have n2 : IntKind.i64.wrap ((j : Int) - (z : Int)) = ((j - z : Nat) : Int) := by simp [IntKind.wrap, IntKind.signed, IntKind.bits]; omega
          have n3 : ¬ ((j : Int) < (z : Int)) := by omega
          have n4 : ¬ ((z : Int) + (x.size : Int) ≤ (j : Int)) := by omega
          obtain ⟨J, hJ⟩ : ∃ J, j - z = J := ⟨_, rfl⟩
          rw [hJ] at n2 p5
          have n5 : (J : Int) < (x.size : Int) := by omega
          have n6 : 0 ≤ (J : Int) := by omega
          have n7 : (j : Int) < (SZ : Int) := hjn2
          have t1 : decide (8 < kk) = false := by simp; omega
          have t2 : decide (j < z) = false := by simp; omega
          have t3 : decide ((z : Int) + (x.size : Int) ≤ (j : Int)) = false := by simp; omega
          have HW7 := Lib.hid hW7; have HR7 := Lib.hid hr; have HJ := Lib.hid hJ
          clear b6' b7' k7 hW7 hr hJ
          go_wp2_with fail
          rw [HW7.out, HR7.out]
          refine wp_region_held (S := (fun V : World => V.cell? ⟨r, 1, none⟩ = some (.int .i64 kk) ∧ V.cell? ⟨r, 2, none⟩ = some (.string x) ∧ V.cell? ⟨r, 3, none⟩ = some (.slice ga 0 gc))) (by kernel_rfl) ?_
          change wpAnyH _ _ _ _ _ _ _ _ (World.drew _)
          refine takeH (i := 0) (d := (some 60)) (v := ?_) rfl rfl (by kernel_rfl) (by kernel_rfl) (by kernel_rfl) (fun _ _ _ h => h) (Or.inl ⟨by kernel_rfl, ?_⟩) hS0 ?_
          rotate_left
          focus (intro w hSw; (try dsimp only at hSw); go_simp; first | done | with_reducible rfl)
          try simp only [Act.put]
          try simp only [List.setIfInBounds_toArray]
          try simp only [List.set_cons_succ]
          try simp only [List.set_cons_zero]
          refine takeH (i := 1) (d := (some 61)) (v := ?_) rfl rfl (by kernel_rfl) (by kernel_rfl) (by kernel_rfl) (fun _ _ _ h => h) (Or.inl ⟨by kernel_rfl, ?_⟩) hS0 ?_
          rotate_left
          focus (intro w hSw; (try dsimp only at hSw); go_simp; first | done | with_reducible rfl)
          try simp only [Act.put]
          try simp only [List.setIfInBounds_toArray]
          try simp only [List.set_cons_succ]
          try simp only [List.set_cons_zero]
          refine takeH (i := 2) (d := (some 62)) (v := ?_) rfl rfl (by kernel_rfl) (by kernel_rfl) (by kernel_rfl) (fun _ _ _ h => h) (Or.inl ⟨by kernel_rfl, ?_⟩) hS0 ?_
          rotate_left
          focus (intro w hSw; (try dsimp only at hSw); go_simp; first | done | with_reducible rfl)
          try simp only [Act.put]
          try simp only [List.setIfInBounds_toArray]
          try simp only [List.set_cons_succ]
          try simp only [List.set_cons_zero]
          refine takeH (i := 3) (d := (some 63)) (v := ?_) rfl rfl (by kernel_rfl) (by kernel_rfl) (by kernel_rfl) (fun _ _ _ h => h) (Or.inl ⟨by kernel_rfl, ?_⟩) hS0 ?_
          rotate_left
          focus (intro w hSw; (try dsimp only at hSw); go_simp; first | done | with_reducible rfl)
          try simp only [Act.put]
          try simp only [List.setIfInBounds_toArray]
          try simp only [List.set_cons_succ]
          try simp only [List.set_cons_zero]
          refine takeH (i := 4) (d := (some 64)) (v := ?_) rfl rfl (by kernel_rfl) (by kernel_rfl) (by kernel_rfl) (fun _ _ _ h => h) (Or.inl ⟨by kernel_rfl, ?_⟩) hS0 ?_
          rotate_left
          focus (intro w hSw; (try dsimp only at hSw); go_simp; first | done | with_reducible rfl)
          try simp only [Act.put]
          try simp only [List.setIfInBounds_toArray]
          try simp only [List.set_cons_succ]
          try simp only [List.set_cons_zero]
          refine takeH (i := 5) (d := (some 65)) (v := ?_) rfl rfl (by kernel_rfl) (by kernel_rfl) (by kernel_rfl) (fun _ _ _ h => h) (Or.inl ⟨by kernel_rfl, ?_⟩) hS0 ?_
          rotate_left
          focus (intro w hSw; (try dsimp only at hSw); go_simp; first | done | with_reducible rfl)
          try simp only [Act.put]
          try simp only [List.setIfInBounds_toArray]
          try simp only [List.set_cons_succ]
          try simp only [List.set_cons_zero]
          refine takeH (i := 6) (d := (some 66)) (v := ?_) rfl rfl (by kernel_rfl) (by kernel_rfl) (by kernel_rfl) (fun _ _ _ h => h) (Or.inl ⟨by kernel_rfl, ?_⟩) hS0 ?_
          rotate_left
          focus (intro w hSw; (try dsimp only at hSw); go_simp; first | done | with_reducible rfl)
          try simp only [Act.put]
          try simp only [List.setIfInBounds_toArray]
          try simp only [List.set_cons_succ]
          try simp only [List.set_cons_zero]
          refine takeH (i := 7) (d := (some 67)) (v := ?_) rfl rfl (by kernel_rfl) (by kernel_rfl) (by kernel_rfl) (fun _ _ _ h => h) (Or.inl ⟨by kernel_rfl, ?_⟩) hS0 ?_
          rotate_left
          focus (intro w hSw; (try dsimp only at hSw); go_simp; first | done | with_reducible rfl)
          try simp only [Act.put]
          try simp only [List.setIfInBounds_toArray]
          try simp only [List.set_cons_succ]
          try simp only [List.set_cons_zero]
          refine takeH (i := 8) (d := (some 68)) (v := ?_) rfl rfl (by kernel_rfl) (by kernel_rfl) (by kernel_rfl) (fun _ _ _ h => h) (Or.inl ⟨by kernel_rfl, ?_⟩) hS0 ?_
          rotate_left
          focus (intro w hSw; (try dsimp only at hSw); go_simp; first | done | with_reducible rfl)
          try simp only [Act.put]
          try simp only [List.setIfInBounds_toArray]
          try simp only [List.set_cons_succ]
          try simp only [List.set_cons_zero]
          refine takeH (i := 9) (d := (some 69)) (v := ?_) rfl rfl (by kernel_rfl) (by kernel_rfl) (by kernel_rfl) (fun _ _ _ h => h) (Or.inl ⟨by kernel_rfl, ?_⟩) hS0 ?_
          rotate_left
          focus (intro w hSw; (try dsimp only at hSw); go_simp; first | done | with_reducible rfl)
          try simp only [Act.put]
          try simp only [List.setIfInBounds_toArray]
          try simp only [List.set_cons_succ]
          try simp only [List.set_cons_zero]
          refine takeH (i := 10) (d := (some 70)) (v := ?_) rfl rfl (by kernel_rfl) (by kernel_rfl) (by kernel_rfl) (fun _ _ _ h => h) (Or.inl ⟨by kernel_rfl, ?_⟩) hS0 ?_
          rotate_left
          focus (intro w hSw; (try dsimp only at hSw); go_simp; first | done | with_reducible rfl)
          try simp only [Act.put]
          try simp only [List.setIfInBounds_toArray]
          try simp only [List.set_cons_succ]
          try simp only [List.set_cons_zero]
          refine takeH (i := 11) (d := (some 71)) (v := ?_) rfl rfl (by kernel_rfl) (by kernel_rfl) (by kernel_rfl) (fun _ _ _ h => h) (Or.inl ⟨by kernel_rfl, ?_⟩) hS0 ?_
          rotate_left
          focus (intro w hSw; (try dsimp only at hSw); go_simp; first | done | with_reducible rfl)
          try simp only [Act.put]
          try simp only [List.setIfInBounds_toArray]
          try simp only [List.set_cons_succ]
          try simp only [List.set_cons_zero]
          refine takeH (i := 12) (d := (some 72)) (v := ?_) rfl rfl (by kernel_rfl) (by kernel_rfl) (by kernel_rfl) (fun _ _ _ h => h) (Or.inl ⟨by kernel_rfl, ?_⟩) hS0 ?_
          rotate_left
          focus (intro w hSw; (try dsimp only at hSw); go_simp; first | done | with_reducible rfl)
          try simp only [Act.put]
          try simp only [List.setIfInBounds_toArray]
          try simp only [List.set_cons_succ]
          try simp only [List.set_cons_zero]
          refine takeH (i := 13) (d := (some 73)) (v := ?_) rfl rfl (by kernel_rfl) (by kernel_rfl) (by kernel_rfl) (fun _ _ _ h => h) (Or.inl ⟨by kernel_rfl, ?_⟩) hS0 ?_
          rotate_left
          focus (intro w hSw; (try dsimp only at hSw); go_simp; first | done | with_reducible rfl)
          try simp only [Act.put]
          try simp only [List.setIfInBounds_toArray]
          try simp only [List.set_cons_succ]
          try simp only [List.set_cons_zero]
          refine takeH (i := 14) (d := (some 74)) (v := ?_) rfl rfl (by kernel_rfl) (by kernel_rfl) (by kernel_rfl) (fun _ _ _ h => h) (Or.inl ⟨by kernel_rfl, ?_⟩) hS0 ?_
          rotate_left
          focus (intro w hSw; (try dsimp only at hSw); go_simp; first | done | with_reducible rfl)
          try simp only [Act.put]
          try simp only [List.setIfInBounds_toArray]
          try simp only [List.set_cons_succ]
          try simp only [List.set_cons_zero]
          refine takeH (i := 15) (d := (some 75)) (v := ?_) rfl rfl (by kernel_rfl) (by kernel_rfl) (by kernel_rfl) (fun _ _ _ h => h) (Or.inl ⟨by kernel_rfl, ?_⟩) hS0 ?_
          rotate_left
          focus (intro w hSw; (try dsimp only at hSw); go_simp; first | done | with_reducible rfl)
          try simp only [Act.put]
          try simp only [List.setIfInBounds_toArray]
          try simp only [List.set_cons_succ]
          try simp only [List.set_cons_zero]
          refine takeH (i := 16) (d := (some 76)) (v := ?_) rfl rfl (by kernel_rfl) (by kernel_rfl) (by kernel_rfl) (fun _ _ _ h => h) (Or.inl ⟨by kernel_rfl, ?_⟩) hS0 ?_
          rotate_left
          focus (intro w hSw; (try dsimp only at hSw); go_simp; first | done | with_reducible rfl)
          try simp only [Act.put]
          try simp only [List.setIfInBounds_toArray]
          try simp only [List.set_cons_succ]
          try simp only [List.set_cons_zero]
          refine takeH (i := 17) (d := (some 77)) (v := ?_) rfl rfl (by kernel_rfl) (by kernel_rfl) (by kernel_rfl) (fun _ _ _ h => h) (Or.inl ⟨by kernel_rfl, ?_⟩) hS0 ?_
          rotate_left
          focus (intro w hSw; (try dsimp only at hSw); go_simp; first | done | with_reducible rfl)
          try simp only [Act.put]
          try simp only [List.setIfInBounds_toArray]
          try simp only [List.set_cons_succ]
          try simp only [List.set_cons_zero]
          refine takeH (i := 18) (d := (some 78)) (v := ?_) rfl rfl (by kernel_rfl) (by kernel_rfl) (by kernel_rfl) (fun _ _ _ h => h) (Or.inl ⟨by kernel_rfl, ?_⟩) hS0 ?_
          rotate_left
          focus (intro w hSw; (try dsimp only at hSw); go_simp; first | done | with_reducible rfl)
          try simp only [Act.put]
          try simp only [List.setIfInBounds_toArray]
          try simp only [List.set_cons_succ]
          try simp only [List.set_cons_zero]
          refine takeH (i := 19) (d := (some 79)) (v := ?_) rfl rfl (by kernel_rfl) (by kernel_rfl) (by kernel_rfl) (fun _ _ _ h => h) (Or.inl ⟨by kernel_rfl, ?_⟩) hS0 ?_
          rotate_left
          focus (intro w hSw; (try dsimp only at hSw); go_simp; first | done | with_reducible rfl)
          try simp only [Act.put]
          try simp only [List.setIfInBounds_toArray]
          try simp only [List.set_cons_succ]
          try simp only [List.set_cons_zero]
          refine takeH (i := 20) (d := (some 80)) (v := ?_) rfl rfl (by kernel_rfl) (by kernel_rfl) (by kernel_rfl) (fun _ _ _ h => h) (Or.inl ⟨by kernel_rfl, ?_⟩) hS0 ?_
          rotate_left
          focus (intro w hSw; (try dsimp only at hSw); go_simp; first | done | with_reducible rfl)
          try simp only [Act.put]
          try simp only [List.setIfInBounds_toArray]
          try simp only [List.set_cons_succ]
          try simp only [List.set_cons_zero]
          refine takeH (i := 21) (d := (some 81)) (v := ?_) rfl rfl (by kernel_rfl) (by kernel_rfl) (by kernel_rfl) (fun _ _ _ h => h) (Or.inl ⟨by kernel_rfl, ?_⟩) hS0 ?_
          rotate_left
          focus (intro w hSw; (try dsimp only at hSw); go_simp; first | done | with_reducible rfl)
          try simp only [Act.put]
          try simp only [List.setIfInBounds_toArray]
          try simp only [List.set_cons_succ]
          try simp only [List.set_cons_zero]
          refine takeH (i := 22) (d := (some 82)) (v := ?_) rfl rfl (by kernel_rfl) (by kernel_rfl) (by kernel_rfl) (fun _ _ _ h => h) (Or.inl ⟨by kernel_rfl, ?_⟩) hS0 ?_
          rotate_left
          focus (intro w hSw; (try dsimp only at hSw); go_simp; first | done | with_reducible rfl)
          try simp only [Act.put]
          try simp only [List.setIfInBounds_toArray]
          try simp only [List.set_cons_succ]
          try simp only [List.set_cons_zero]
          refine takeH (i := 23) (d := (some 83)) (v := ?_) rfl rfl (by kernel_rfl) (by kernel_rfl) (by kernel_rfl) (fun _ _ _ h => h) (Or.inl ⟨by kernel_rfl, ?_⟩) hS0 ?_
          rotate_left
          focus (intro w hSw; (try dsimp only at hSw); go_simp; first | done | with_reducible rfl)
          try simp only [Act.put]
          try simp only [List.setIfInBounds_toArray]
          try simp only [List.set_cons_succ]
          try simp only [List.set_cons_zero]
          refine takeH (i := 24) (d := (some 84)) (v := ?_) rfl rfl (by kernel_rfl) (by kernel_rfl) (by kernel_rfl) (fun _ _ _ h => h) (Or.inl ⟨by kernel_rfl, ?_⟩) hS0 ?_
          rotate_left
          focus (intro w hSw; (try dsimp only at hSw); go_simp; first | done | with_reducible rfl)
          try simp only [Act.put]
          try simp only [List.setIfInBounds_toArray]
          try simp only [List.set_cons_succ]
          try simp only [List.set_cons_zero]
          refine takeH (i := 25) (d := (some 85)) (v := ?_) rfl rfl (by kernel_rfl) (by kernel_rfl) (by kernel_rfl) (fun _ _ _ h => h) (Or.inl ⟨by kernel_rfl, ?_⟩) hS0 ?_
          rotate_left
          focus (intro w hSw; (try dsimp only at hSw); go_simp; first | done | with_reducible rfl)
          try simp only [Act.put]
          try simp only [List.setIfInBounds_toArray]
          try simp only [List.set_cons_succ]
          try simp only [List.set_cons_zero]
          refine takeH (i := 26) (d := (some 86)) (v := ?_) rfl rfl (by kernel_rfl) (by kernel_rfl) (by kernel_rfl) (fun _ _ _ h => h) (Or.inl ⟨by kernel_rfl, ?_⟩) hS0 ?_
          rotate_left
          focus (intro w hSw; (try dsimp only at hSw); go_simp; first | done | with_reducible rfl)
          try simp only [Act.put]
          try simp only [List.setIfInBounds_toArray]
          try simp only [List.set_cons_succ]
          try simp only [List.set_cons_zero]
          refine takeH (i := 27) (d := (some 87)) (v := ?_) rfl rfl (by kernel_rfl) (by kernel_rfl) (by kernel_rfl) (fun _ _ _ h => h) (Or.inl ⟨by kernel_rfl, ?_⟩) hS0 ?_
          rotate_left
          focus (intro w hSw; (try dsimp only at hSw); go_simp; first | done | with_reducible rfl)
          try simp only [Act.put]
          try simp only [List.setIfInBounds_toArray]
          try simp only [List.set_cons_succ]
          try simp only [List.set_cons_zero]
          refine takeH (i := 28) (d := (some 88)) (v := ?_) rfl rfl (by kernel_rfl) (by kernel_rfl) (by kernel_rfl) (fun _ _ _ h => h) (Or.inl ⟨by kernel_rfl, ?_⟩) hS0 ?_
          rotate_left
          focus (intro w hSw; (try dsimp only at hSw); go_simp; first | done | with_reducible rfl)
          try simp only [Act.put]
          try simp only [List.setIfInBounds_toArray]
          try simp only [List.set_cons_succ]
          try simp only [List.set_cons_zero]
          refine takeH (i := 29) (d := (some 89)) (v := ?_) rfl rfl (by kernel_rfl) (by kernel_rfl) (by kernel_rfl) (fun _ _ _ h => h) (Or.inl ⟨by kernel_rfl, ?_⟩) hS0 ?_
          rotate_left
          focus (intro w hSw; (try dsimp only at hSw); go_simp; first | done | with_reducible rfl)
          try simp only [Act.put]
          try simp only [List.setIfInBounds_toArray]
          try simp only [List.set_cons_succ]
          try simp only [List.set_cons_zero]
          refine takeH (i := 30) (d := (some 90)) (v := ?_) rfl rfl (by kernel_rfl) (by kernel_rfl) (by kernel_rfl) (fun _ _ _ h => h) (Or.inl ⟨by kernel_rfl, ?_⟩) hS0 ?_
          rotate_left
          focus (intro w hSw; (try dsimp only at hSw); go_simp; first | done | with_reducible rfl)
          try simp only [Act.put]
          try simp only [List.setIfInBounds_toArray]
          try simp only [List.set_cons_succ]
          try simp only [List.set_cons_zero]
          refine takeH (i := 31) (d := (some 91)) (v := ?_) rfl rfl (by kernel_rfl) (by kernel_rfl) (by kernel_rfl) (fun _ _ _ h => h) (Or.inl ⟨by kernel_rfl, ?_⟩) hS0 ?_
          rotate_left
          focus (intro w hSw; (try dsimp only at hSw); go_simp; first | done | with_reducible rfl)
          try simp only [Act.put]
          try simp only [List.setIfInBounds_toArray]
          try simp only [List.set_cons_succ]
          try simp only [List.set_cons_zero]
          refine takeH (i := 32) (d := (some 92)) (v := ?_) rfl rfl (by kernel_rfl) (by kernel_rfl) (by kernel_rfl) (fun _ _ _ h => h) (Or.inl ⟨by kernel_rfl, ?_⟩) hS0 ?_
          rotate_left
          focus (intro w hSw; (try dsimp only at hSw); go_simp; first | done | with_reducible rfl)
          try simp only [Act.put]
          try simp only [List.setIfInBounds_toArray]
          try simp only [List.set_cons_succ]
          try simp only [List.set_cons_zero]
          refine takeH (i := 33) (d := (some 93)) (v := ?_) rfl rfl (by kernel_rfl) (by kernel_rfl) (by kernel_rfl) (fun _ _ _ h => h) (Or.inl ⟨by kernel_rfl, ?_⟩) hS0 ?_
          rotate_left
          focus (intro w hSw; (try dsimp only at hSw); go_simp; first | done | with_reducible rfl)
          try simp only [Act.put]
          try simp only [List.setIfInBounds_toArray]
          try simp only [List.set_cons_succ]
          try simp only [List.set_cons_zero]
          refine takeH (i := 34) (d := (some 94)) (v := ?_) rfl rfl (by kernel_rfl) (by kernel_rfl) (by kernel_rfl) (fun _ _ _ h => h) (Or.inl ⟨by kernel_rfl, ?_⟩) hS0 ?_
          rotate_left
          focus (intro w hSw; (try dsimp only at hSw); go_simp; first | done | with_reducible rfl)
          try simp only [Act.put]
          try simp only [List.setIfInBounds_toArray]
          try simp only [List.set_cons_succ]
          try simp only [List.set_cons_zero]
          refine takeH (i := 35) (d := (some 95)) (v := ?_) rfl rfl (by kernel_rfl) (by kernel_rfl) (by kernel_rfl) (fun _ _ _ h => h) (Or.inl ⟨by kernel_rfl, ?_⟩) hS0 ?_
          rotate_left
          focus (intro w hSw; (try dsimp only at hSw); go_simp; first | done | with_reducible rfl)
          try simp only [Act.put]
          try simp only [List.setIfInBounds_toArray]
          try simp only [List.set_cons_succ]
          try simp only [List.set_cons_zero]
          refine takeH (i := 36) (d := (some 96)) (v := ?_) rfl rfl (by kernel_rfl) (by kernel_rfl) (by kernel_rfl) (fun _ _ _ h => h) (Or.inl ⟨by kernel_rfl, ?_⟩) hS0 ?_
          rotate_left
          focus (intro w hSw; (try dsimp only at hSw); go_simp; first | done | with_reducible rfl)
          try simp only [Act.put]
          try simp only [List.setIfInBounds_toArray]
          try simp only [List.set_cons_succ]
          try simp only [List.set_cons_zero]
          refine takeH (i := 37) (d := (some 97)) (v := ?_) rfl rfl (by kernel_rfl) (by kernel_rfl) (by kernel_rfl) (fun _ _ _ h => h) (Or.inl ⟨by kernel_rfl, ?_⟩) hS0 ?_
          rotate_left
          focus (intro w hSw; (try dsimp only at hSw); go_simp; first | done | with_reducible rfl)
          try simp only [Act.put]
          try simp only [List.setIfInBounds_toArray]
          try simp only [List.set_cons_succ]
          try simp only [List.set_cons_zero]
          refine takeH (i := 38) (d := (some 98)) (v := ?_) rfl rfl (by kernel_rfl) (by kernel_rfl) (by kernel_rfl) (fun _ _ _ h => h) (Or.inl ⟨by kernel_rfl, ?_⟩) hS0 ?_
          rotate_left
          focus (intro w hSw; (try dsimp only at hSw); go_simp; first | done | with_reducible rfl)
          try simp only [Act.put]
          try simp only [List.setIfInBounds_toArray]
          try simp only [List.set_cons_succ]
          try simp only [List.set_cons_zero]
          refine takeH (i := 39) (d := (some 99)) (v := ?_) rfl rfl (by kernel_rfl) (by kernel_rfl) (by kernel_rfl) (fun _ _ _ h => h) (Or.inl ⟨by kernel_rfl, ?_⟩) hS0 ?_
          rotate_left
          focus (intro w hSw; (try dsimp only at hSw); go_simp; first | done | with_reducible rfl)
          try simp only [Act.put]
          try simp only [List.setIfInBounds_toArray]
          try simp only [List.set_cons_succ]
          try simp only [List.set_cons_zero]
          refine takeH (i := 40) (d := (some 100)) (v := ?_) rfl rfl (by kernel_rfl) (by kernel_rfl) (by kernel_rfl) (fun _ _ _ h => h) (Or.inl ⟨by kernel_rfl, ?_⟩) hS0 ?_
          rotate_left
          focus (intro w hSw; (try dsimp only at hSw); go_simp; first | done | with_reducible rfl)
          try simp only [Act.put]
          try simp only [List.setIfInBounds_toArray]
          try simp only [List.set_cons_succ]
          try simp only [List.set_cons_zero]
          refine takeH (i := 41) (d := (some 101)) (v := ?_) rfl rfl (by kernel_rfl) (by kernel_rfl) (by kernel_rfl) (fun _ _ _ h => h) (Or.inl ⟨by kernel_rfl, ?_⟩) hS0 ?_
          rotate_left
          focus (intro w hSw; (try dsimp only at hSw); go_simp; first | done | with_reducible rfl)
          try simp only [Act.put]
          try simp only [List.setIfInBounds_toArray]
          try simp only [List.set_cons_succ]
          try simp only [List.set_cons_zero]
          refine takeH (i := 42) (d := (some 102)) (v := ?_) rfl rfl (by kernel_rfl) (by kernel_rfl) (by kernel_rfl) (fun _ _ _ h => h) (Or.inl ⟨by kernel_rfl, ?_⟩) hS0 ?_
          rotate_left
          focus (intro w hSw; (try dsimp only at hSw); go_simp; first | done | with_reducible rfl)
          try simp only [Act.put]
          try simp only [List.setIfInBounds_toArray]
          try simp only [List.set_cons_succ]
          try simp only [List.set_cons_zero]
          refine wpAnyH_done (by kernel_rfl) ?_ _
          go_wp2
          go_roundw
          case rel => exact ⟨j + 1, by go_num, by omega, HB7⟩
          case measure => simp [intOf]; omega
        · have hjn2 : ¬ ((j : Int) < (SZ : Int)) := by omega
          have hseq : (ST.toList == ST.toList) = true := by simp
          go_wp2_with fail
          refine (HWI.out wr HR.out).mono ?_
          rintro e w5 ⟨rfl, b5'⟩
          have HB5 : Hid (Below w2.heap.size w2 w5) := HR.out.trans (b5'.mono HR.out.size)
          have hsz2 : ((SZ : Int) == (SZ : Int)) = true := by simp
          clear b5'
          go_wp2_with fail
          refine (lives_any w5).mono ?_
          rintro e w6 ⟨rfl, b6'⟩
          have HF := Lib.hid (HB2.out.trans ((HB5.out.trans (b6'.mono HB5.out.size)).mono HB2.out.size))
          clear b6'
          go_wp2
          go_ret
          exact ⟨rfl, HF.out⟩

end Go.Proofs.Ytfecajeenmnoeaa
