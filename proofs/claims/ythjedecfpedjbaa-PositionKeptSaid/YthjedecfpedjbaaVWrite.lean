/- Contracts of the Writer: what each method appends. Conditions: at most 100000 bytes have been written; lists and texts of at most 2000 elements. -/
import Derived.Test.YthjedecfpedjbaaWMath
import Derived.Lib.SliceRun
import Derived.Lib.AppendStr
namespace Go.Proofs.Ythjedecfpedjbaa
open Go.RowKit Go.Shelf
set_option linter.unusedVariables false

/-- A Writer lies at p and holds these bytes; all that it may change lies from base on. -/
def Wr (w : World) (base p : Nat) (zs : List Int) : Prop :=
  ∃ v, Boxed w p 56 v ∧ w.ownsRow base 5 1 v zs.length (zs.map (Value.int .u8)) ∧ base ≤ p
def Writes (base p : Nat) (zs : List Int) (w : World) (e : Ending) (w' : World) : Prop := (∃ v, e = .returned v) ∧ Wr w' base p zs ∧ Below base w w'
theorem Wr.lt {w : World} {base p : Nat} {zs : List Int} (h : Wr w base p zs) : base ≤ p ∧ p < w.heap.size := by
  obtain ⟨v, hx, _, hb⟩ := h; exact ⟨hb, hx.lt⟩
theorem Wr.below {w w' : World} {base p : Nat} {zs : List Int} (h : Wr w base p zs) (hb : Below w.heap.size w w') : Wr w' base p zs := by
  obtain ⟨v, hx, ho, hp⟩ := h
  exact ⟨v, (hb.block p hx.lt).trans hx, own_same ho (fun g e => hb.block g ((ho.lt g e).2)), hp⟩

/-- What is owed behind 'w.bytes = append(w.bytes, ..)'. -/
theorem wr_appended {W w1 : World} {base p : Nat} {v v' : Value} {zs ys : List Int} {tmp : Obj} {m : Nat} (hx : Boxed W p 56 v) (ho : W.ownsRow base 5 1 v zs.length (zs.map (Value.int .u8))) (hb : base ≤ p)
    (hown : w1.ownsRow base 5 1 v' m (ys.map (Value.int .u8))) (hm : m = ys.length) (hg : (W.alloc tmp).grownBy w1 v.ownBlock) :
    (w1.cell? ⟨p, 0, none⟩ = some v ∧ w1.frozen? ⟨p, 0, none⟩ = false) ∧ Wr (w1.setCell ⟨p, 0, none⟩ v') base p ys ∧ Below base W (w1.setCell ⟨p, 0, none⟩ v') := by
  subst hm
  obtain ⟨h1, h2, h3, _, h5⟩ := hx.appended (tmp := tmp) (by decide) ho (by have := hx.lt; omega) hb hown hg
  exact ⟨⟨h1.cell, h1.frozen⟩, ⟨v', h2, h3, hb⟩, h5⟩

theorem or_u8 (m : Nat) : bits BinOp.or IntKind.u8 (IntKind.u8.wrap (m : Int)) 128 = ((m % 128 + 128 : Nat) : Int) := by
  have hw : ∀ n : Int, IntKind.u8.wrap n = n % 256 := fun n => by simp [IntKind.wrap, IntKind.signed, IntKind.bits]
  show IntKind.u8.wrap (((BitVec.ofInt 8 (IntKind.u8.wrap (m : Int))) ||| (BitVec.ofInt 8 128)).toNat : Int) = _
  rw [hw, hw]
  have e : ∀ b : BitVec 8, (b ||| BitVec.ofInt 8 128).toNat = b.toNat % 128 + 128 := by decide
  rw [e, BitVec.toNat_ofInt]
  omega

set_option maxRecDepth 100000 in
set_option maxHeartbeats 1000000 in
theorem wuint_any (base p n : Nat) (zs : List Int) (w : World) (h : Wr w base p zs) (hn : n < 18446744073709551616) (hl : zs.length ≤ 100000) :
    Calls Try.prog 48 #[.pointer (some ⟨p, 0, none⟩), .int .u64 (n : Int)] w (Writes base p (zs ++ vU n) w) := by
  obtain ⟨i0, hi, hz0, hz1, hz2⟩ := info_parts info5
  have hlen := vU_len10 hn
  have HLEN := Lib.hid hlen
  clear hlen
  have HW := Lib.hid h
  clear h
  go_enter Try.func48, Try.ntmps48
  go_wp2
  go_loopw [1] (fun t wr => ∃ (m : Nat) (pre : List Int), m < 18446744073709551616 ∧ t = .int .u64 (m : Int) ∧ Hid (vU n = pre ++ vU m) ∧ Hid (Wr wr base p (zs ++ pre) ∧ Below base w wr)) (fun t _ => (intOf t).toNat)
  case atStart => exact ⟨n, [], hn, rfl, Lib.hid rfl, Lib.hid ⟨by rw [List.append_nil]; exact HW.out, Below.refl _ _⟩⟩
  case round =>
    obtain ⟨m, pre, hm, rfl, HV, HR⟩ := hrel
    have hpl : (zs ++ pre).length ≤ 100010 := by
      have h1 := HLEN.out; rw [HV.out] at h1; simp at h1 ⊢; omega
    obtain ⟨v, hx, hown, hbp⟩ := HR.out.1
    have hbs : base ≤ wr.heap.size := by have := hx.lt; omega
    have hcell := hx.cell
    have hfr := hx.frozen
    obtain ⟨N, hN⟩ : ∃ N, (zs ++ pre).length = N := ⟨_, rfl⟩
    rw [hN] at hown hpl
    have HN := Lib.hid hN
    clear hN
    have HX := Lib.hid hx
    have HO := Lib.hid hown
    clear hx hown
    by_cases hlt : m < 128
    · have hq : ¬ (128 : Int) ≤ (m : Int) := by omega
      have hq2 : (m : Int) < 128 := by omega
      go_wp2_with (at_builtin; refine wpList_append_own _ rfl _ _ 54 rfl base 5 i0 (.int .u8 0) 1 1 Try.underlying54 hi hz0 hz1 hz2 rfl (by decide) v N ((zs ++ pre).map (Value.int .u8)) rfl (HO.out.alloc _) ⟨wr.heap.size, 0, none⟩ 1 1 [.int .u8 (m : Int)] rfl rfl (cell_one_new _ _ _) (fun x hx => by simp at hx; subst hx; rfl) (by unfold maxLen; omega) (by omega) (by simp; omega) ?_; intro v' w3 hown3 hgrow3 _; obtain ⟨g3, k3, rfl⟩ := ownsRow_succ hown3; obtain ⟨⟨c3, f3⟩, hW3, hB3⟩ := wr_appended (tmp := .cells #[.int .u8 (m : Int)] 5) (ys := zs ++ pre ++ [(m : Int)]) HX.out (by rw [HN.out]; exact HO.out) hbp (by rw [List.map_append]; exact hown3) (by simp [← HN.out]; omega) hgrow3; have H3 := Lib.hid (And.intro hW3 hB3); clear hW3 hB3 hown3 hgrow3)
      go_end0
      refine ⟨⟨_, rfl⟩, ?_, HR.out.2.trans H3.out.2⟩
      rw [HV.out, vU_lo hlt, ← List.append_assoc]
      exact H3.out.1
    · have hq : (128 : Int) ≤ (m : Int) := by omega
      go_wp2_with (at_builtin; refine wpList_append_own _ rfl _ _ 54 rfl base 5 i0 (.int .u8 0) 1 1 Try.underlying54 hi hz0 hz1 hz2 rfl (by decide) v N ((zs ++ pre).map (Value.int .u8)) rfl (HO.out.alloc _) ⟨wr.heap.size, 0, none⟩ 1 1 [.int .u8 (bits BinOp.or IntKind.u8 (IntKind.u8.wrap (m : Int)) 128)] rfl rfl (cell_one_new _ _ _) (fun x hx => by simp at hx; subst hx; rfl) (by unfold maxLen; omega) (by omega) (by simp; omega) ?_; intro v' w3 hown3 hgrow3 _; obtain ⟨g3, k3, rfl⟩ := ownsRow_succ hown3; obtain ⟨⟨c3, f3⟩, hW3, hB3⟩ := wr_appended (tmp := .cells #[.int .u8 (bits BinOp.or IntKind.u8 (IntKind.u8.wrap (m : Int)) 128)] 5) (ys := zs ++ pre ++ [(bits BinOp.or IntKind.u8 (IntKind.u8.wrap (m : Int)) 128)]) HX.out (by rw [HN.out]; exact HO.out) hbp (by rw [List.map_append]; exact hown3) (by simp [← HN.out]; omega) hgrow3; have H3 := Lib.hid (And.intro hW3 hB3); clear hW3 hB3 hown3 hgrow3)
      go_roundw
      case rel => exact ⟨m / 128, pre ++ [((m % 128 + 128 : Nat) : Int)], by omega, by go_num, Lib.hid (by rw [HV.out, vU_hi hlt]; simp), Lib.hid ⟨by have := H3.out.1; rw [or_u8] at this; rwa [← List.append_assoc], HR.out.2.trans H3.out.2⟩⟩
      case measure => simp [intOf]; omega

/-- The same where nothing was laid for the append. -/
theorem wr_grown {W w1 : World} {base p : Nat} {v v' : Value} {zs ys : List Int} {m : Nat} (hx : Boxed W p 56 v) (ho : W.ownsRow base 5 1 v zs.length (zs.map (Value.int .u8))) (hb : base ≤ p)
    (hown : w1.ownsRow base 5 1 v' m (ys.map (Value.int .u8))) (hm : m = ys.length) (hg : W.grownBy w1 v.ownBlock) :
    (w1.cell? ⟨p, 0, none⟩ = some v ∧ w1.frozen? ⟨p, 0, none⟩ = false) ∧ Wr (w1.setCell ⟨p, 0, none⟩ v') base p ys ∧ Below base W (w1.setCell ⟨p, 0, none⟩ v') := by
  subst hm
  have h1 := hx.kept hg (hx.not_row (by decide) ho)
  have hlt := hx.lt
  refine ⟨⟨h1.cell, h1.frozen⟩, ⟨v', h1.set v', hown.kept (grownBy_setCell' w1 p v') (.inr (h1.not_row (by decide) hown).symm), hb⟩, ?_⟩
  exact ((Below.refl base W).grown hg (by omega) (fun j e => (ho.lt j e).1)).setCell (p := ⟨p, 0, none⟩) hb v'

theorem wuint_at (base p n : Nat) (x : Int) (zs ys : List Int) (w : World) (h : Wr w base p zs) (hx : x = (n : Int)) (hn : n < 18446744073709551616) (hl : zs.length ≤ 100000) (hy : zs ++ vU n = ys) :
    Calls Try.prog 48 #[.pointer (some ⟨p, 0, none⟩), .int .u64 x] w (Writes base p ys w) := by
  subst hx hy; exact wuint_any base p n zs w h hn hl

theorem not_u64 (x : Int) (h1 : 0 ≤ x) (h2 : x < 18446744073709551616) : bits BinOp.xor IntKind.u64 IntKind.u64.max x = 18446744073709551615 - x := by
  show IntKind.u64.wrap (((BitVec.ofInt 64 IntKind.u64.max) ^^^ (BitVec.ofInt 64 x)).toNat : Int) = _
  have e : BitVec.ofInt 64 IntKind.u64.max = BitVec.allOnes 64 := by decide
  rw [e, BitVec.allOnes_xor, BitVec.toNat_not, BitVec.toNat_ofInt, wrap_u64]
  omega
theorem zz_neg (n : Int) (h1 : -9223372036854775808 ≤ n) (h2 : n < 0) : bits BinOp.xor IntKind.u64 IntKind.u64.max (IntKind.u64.wrap (IntKind.u64.wrap n * 2)) = (zz n : Int) := by
  rw [wrap_u64, wrap_u64, not_u64 _ (by omega) (by omega)]
  unfold zz; rw [if_pos h2]; omega
theorem zz_pos (n : Int) (h1 : 0 ≤ n) : n * 2 = (zz n : Int) := by
  unfold zz; rw [if_neg (by omega)]; omega
theorem ret_u64w {a b : Int} (h : a = b) : Ending.returned (.int .u64 a) = .returned (.int .u64 b) := by rw [h]
theorem ret_i64w {a b : Int} (h : a = b) : Ending.returned (.int .i64 a) = .returned (.int .i64 b) := by rw [h]

theorem zigzag_any (n : Int) (w : World) (h1 : -9223372036854775808 ≤ n) (h2 : n ≤ 9223372036854775807) :
    Calls Try.prog 49 #[.int .i64 n] w fun e w' => e = .returned (.int .u64 (zz n : Int)) ∧ w = w' := by
  by_cases hneg : n < 0
  · go_enter Try.func49, Try.ntmps49
    go_wp2
    go_ret
    exact ⟨ret_u64w (zz_neg n h1 hneg), rfl⟩
  · go_enter Try.func49, Try.ntmps49
    go_wp2
    go_ret
    exact ⟨ret_u64w (zz_pos n (by omega)), rfl⟩

theorem wint_any (base p : Nat) (n : Int) (zs : List Int) (w : World) (h : Wr w base p zs) (h1 : -9223372036854775808 ≤ n) (h2 : n ≤ 9223372036854775807) (hl : zs.length ≤ 100000) :
    Calls Try.prog 30 #[.pointer (some ⟨p, 0, none⟩), .int .i64 n] w (Writes base p (zs ++ vU (zz n)) w) := by
  obtain ⟨z, hz⟩ : ∃ z, zz n = z := ⟨_, rfl⟩
  have c1 := fun W => zigzag_any n W h1 h2
  have c2 := fun W hw => wuint_any base p z zs W hw (by rw [← hz]; exact zz_lt h1 h2) hl
  rw [hz] at c1 ⊢
  have C1 := Lib.hid c1; have C2 := Lib.hid c2; have HW := Lib.hid h
  clear c1 c2 h hz
  go_enter Try.func30, Try.ntmps30
  go_wp2_with fail
  refine (C1.out _).mono ?_
  rintro e w' ⟨rfl, rfl⟩
  go_wp2_with fail
  refine (C2.out _ HW.out).mono ?_
  rintro e w' ⟨⟨v, rfl⟩, hw⟩
  have H := Lib.hid hw
  clear hw
  go_wp2
  go_end0
  exact ⟨⟨_, rfl⟩, H.out⟩

set_option maxRecDepth 100000 in
set_option maxHeartbeats 1000000 in
theorem wtext_any (base p : Nat) (s : ByteArray) (zs : List Int) (w : World) (h : Wr w base p zs) (hbl : s.size ≤ 2000) (hl : zs.length ≤ 90000) :
    Calls Try.prog 29 #[.pointer (some ⟨p, 0, none⟩), .string s] w (Writes base p (zs ++ (vU s.size ++ sb s)) w) := by
  obtain ⟨i0, hi, hz0, hz1, hz2⟩ := info_parts info5
  have hl10 : (vU s.size).length ≤ 10 := vU_len10 (by omega)
  obtain ⟨Y, hY⟩ : ∃ Y, zs ++ vU s.size = Y := ⟨_, rfl⟩
  have hYl : Y.length ≤ 90010 := by rw [← hY]; simp; omega
  have c1 := fun W hw => wuint_at base p s.size (s.size : Int) zs Y W hw rfl (by omega) (by omega) hY
  have hres : zs ++ (vU s.size ++ sb s) = Y ++ sb s := by rw [← hY]; simp
  rw [hres]
  have hsc : Lib.strCells s = (sb s).map (Value.int .u8) := by simp [Lib.strCells, sb]
  have C1 := Lib.hid c1; have HW := Lib.hid h; have HSC := Lib.hid hsc
  clear c1 h hY hres hl10 hsc
  go_enter Try.func29, Try.ntmps29
  go_wp2_with fail
  refine (C1.out _ HW.out).mono ?_
  rintro e w1 ⟨⟨_, rfl⟩, hw1, hb1⟩
  obtain ⟨v, hx, hown, hbp⟩ := hw1
  have hbs : base ≤ w1.heap.size := by have := hx.lt; omega
  have hcell := hx.cell
  have hfr := hx.frozen
  obtain ⟨N, hN⟩ : ∃ N, Y.length = N := ⟨_, rfl⟩
  rw [hN] at hown hYl
  have HYN := Lib.hid hN
  have HX := Lib.hid hx
  have HO := Lib.hid hown
  have HB1 := Lib.hid hb1
  clear hN hx hown hb1
  go_wp2_with (at_builtin; refine Lib.wpList_append_own_string _ rfl _ _ 54 9 rfl base 5 i0 Try.underlying54 Try.underlying9 hi hz0 hz1 hz2 v N (Y.map (Value.int .u8)) rfl HO.out s rfl (by unfold maxLen; omega) (by omega) hbs ?_; intro v' w3 hown3 hgrow3 _; obtain ⟨g3, k3, rfl⟩ := own_slice hown3; obtain ⟨⟨c3, f3⟩, hW3, hB3⟩ := wr_grown (ys := Y ++ sb s) HX.out (by rw [HYN.out]; exact HO.out) hbp (by rw [List.map_append, ← HSC.out]; exact hown3) (by rw [List.length_append, HYN.out, sb_len]) hgrow3; have H3 := Lib.hid (And.intro hW3 hB3); clear hW3 hB3 hown3 hgrow3)
  go_end0
  exact ⟨⟨_, rfl⟩, H3.out.1, HB1.out.trans H3.out.2⟩

/-- The encoding of a list of integers. -/
def vL (l : List Int) : List Int := l.flatMap (fun n => vU (zz n))
theorem vL_snoc (l : List Int) (n : Int) : vL (l ++ [n]) = vL l ++ vU (zz n) := by simp [vL]
theorem vL_take (l : List Int) (k : Nat) (hk : k < l.length) : vL (l.take (k + 1)) = vL (l.take k) ++ vU (zz (l[k]?.getD 0)) := by
  rw [List.take_succ_eq_append_getElem hk, vL_snoc]; simp [hk]
/-- Integers of 64 bits. -/
def I64 (l : List Int) : Prop := ∀ n ∈ l, -9223372036854775808 ≤ n ∧ n ≤ 9223372036854775807
theorem I64.at_ {l : List Int} (h : I64 l) (k : Nat) : -9223372036854775808 ≤ l[k]?.getD 0 ∧ l[k]?.getD 0 ≤ 9223372036854775807 := by
  cases hk : l[k]? with
  | none => simp
  | some x => exact h x (List.mem_of_getElem? hk)
theorem I64.take {l : List Int} (h : I64 l) (k : Nat) : I64 (l.take k) := fun n hn => h n (List.mem_of_mem_take hn)
theorem vL_len {l : List Int} (h : I64 l) : (vL l).length ≤ 10 * l.length := by
  induction l with
  | nil => simp [vL]
  | cons n l ih =>
    have h1 := ih (fun x hx => h x (by simp [hx]))
    have h2 := h n (by simp)
    have h3 := vU_len10 (zz_lt h2.1 h2.2)
    simp only [vL, List.flatMap_cons, List.length_append, List.length_cons] at h1 ⊢
    omega

set_option maxRecDepth 100000 in
set_option maxHeartbeats 1000000 in
theorem clone_any (a : Option Addr) (cap : Nat) (zs : List Int) (w : World) (h : Sli .u8 w a cap zs) (hl : zs.length ≤ 200000) :
    Calls Try.prog 50 #[.slice a zs.length cap] w (NewRow .u8 5 w zs) := by
  obtain ⟨i0, hi, hz0, hz1, hz2⟩ := info_parts info5
  have hq := fun (w : World) (a : Option Addr) (n c : Nat) => Lib.run_eql_slice_nil (P := Try.prog) w 54 5 a n c 0 0 Try.underlying54
  obtain ⟨n, hn⟩ : ∃ n, zs.length = n := ⟨_, rfl⟩
  cases a with
  | none =>
    have hcap := h.nil rfl
    subst hcap
    have hz : zs = [] := List.eq_nil_of_length_eq_zero (by have := h.le; omega)
    subst hz
    clear h hn
    go_enter Try.func50, Try.ntmps50
    go_wp2
    go_ret
    exact ⟨_, rfl, by simpa using World.ownsRow_nil w w.heap.size 5 1, Below.refl _ _⟩
  | some ad =>
    rw [hn] at hl ⊢
    have hblk : n = 0 ∨ ad.block < w.heap.size := by
      rcases h.cells with h1 | ⟨b, off, h1, h2, _⟩
      · subst h1; exact .inl (by simpa using hn.symm)
      · cases h1; exact .inr h2
    have hnew := cells_take (h.cells.keep (w' := w.alloc (.cells #[] 5)) (fun b hb => Below.heap_alloc _ _ _ hb)) n
    rw [List.take_of_length_le (by omega)] at hnew
    have HNEW := Lib.hid hnew
    have HN := Lib.hid hn
    have hle := h.le
    clear hnew hn h
    go_enter Try.func50, Try.ntmps50
    go_wp2_with (at_builtin; refine wpList_append_own _ rfl _ _ 54 rfl w.heap.size 5 i0 (.int .u8 0) 1 1 Try.underlying54 hi hz0 hz1 hz2 rfl (by decide) (.slice (some ⟨w.heap.size, 0, none⟩) 0 0) 0 [] rfl (World.ownsRow_made w #[] 0 (Nat.le_refl _) (Nat.zero_le _) rfl) ad n cap (zs.map (Value.int .u8)) rfl (by rw [List.length_map, HN.out]; omega) HNEW.out (one_ints _ _) (by unfold maxLen; omega) (by omega) (by simp) ?_; intro v' w3 hown3 hgrow3 _)
    go_ret
    refine ⟨v', rfl, by rw [HN.out]; simpa using hown3, ?_⟩
    exact ((Below.refl _ w).alloc (Nat.le_refl _) _).grown hgrow3 (by simp) (by intro k hk; simp [Value.ownBlock] at hk; omega)

/-- Done hands back a copy of what has been written. -/
theorem wdone_any (base p : Nat) (zs : List Int) (w : World) (h : Wr w base p zs) (hl : zs.length ≤ 200000) :
    Calls Try.prog 32 #[.pointer (some ⟨p, 0, none⟩)] w (NewRow .u8 5 w zs) := by
  obtain ⟨v, hx, hown, hbp⟩ := h
  obtain ⟨_, a, cap, rfl, hs⟩ := sli_of_own hown
  have hcell := hx.cell
  have c1 := clone_any a cap zs w hs hl
  obtain ⟨n, hn⟩ : ∃ n, zs.length = n := ⟨_, rfl⟩
  rw [hn] at c1 hcell
  have C1 := Lib.hid c1
  clear c1 hs hown hx hn
  go_enter Try.func32, Try.ntmps32
  go_wp2_with fail
  refine C1.out.mono ?_
  rintro e w1 ⟨v, rfl, hv⟩
  have H := Lib.hid hv
  clear hv
  go_wp2
  go_ret
  exact ⟨_, rfl, H.out⟩

end Go.Proofs.Ythjedecfpedjbaa
