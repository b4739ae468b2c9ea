/- The contracts of Raw and Few. Conditions: texts of at most 1000000 bytes. -/
import Derived.Test.YtfhpllcdlejfjaaEGn
namespace Go.Proofs.Ytfhpllcdlejfjaa
open Go.RowKit Go.Shelf
set_option linter.unusedVariables false

set_option maxRecDepth 100000 in
theorem raw_any (s : ByteArray) (a : Option Addr) (nl cap : Nat) (w : World) (hs : s.size ≤ 1000000) (h : SlI w.heap.size w a nl) (hcap : nl ≤ cap) (hcap2 : cap ≤ 9223372036854775807) :
    Calls Try.prog 16 #[.string s, .slice a nl cap] w (Made s (fun _ => True) w) := by
  have C := Lib.hid (some_raw s a nl cap w hs h hcap hcap2)
  clear h
  go_enter Try.func16, Try.ntmps16
  go_wp2_with fail
  refine C.out.mono ?_
  rintro e w2 ⟨es, v, rfl, h1, h2, h3, h4, h5⟩
  have H := Lib.hid (And.intro h1 (And.intro h2 (And.intro h3 (And.intro h4 h5))))
  clear h1 h2 h3 h4 h5
  go_wp2
  go_ret
  obtain ⟨h1, h2, h3, h4, h5⟩ := H.out
  exact ⟨es, v, rfl, h1, h2, h3, h4, h5⟩

/-- The first edits, with short texts. -/
def few1 (e : Er) : Er := ⟨e.f, e.t, shS e.x 8⟩
def fewE (es : List Er) (m : Nat) : List Er := (es.take m).map few1
theorem fewE_len (es : List Er) (m : Nat) : (fewE es m).length = min m es.length := by simp [fewE]
theorem fewE_step {es : List Er} {k : Nat} (h : k < es.length) : fewE es (k + 1) = fewE es k ++ [few1 (eg es k)] := by
  unfold fewE; rw [take_eg h, List.map_append]; rfl
theorem fewE_all (es : List Er) {k : Nat} (h : es.length ≤ k) : fewE es k = fewE es es.length := by
  unfold fewE; rw [List.take_of_length_le h, List.take_of_length_le (Nat.le_refl _)]
structure Er.Big (e : Er) : Prop where
  f1 : -9223372036854775808 ≤ e.f
  f2 : e.f ≤ 9223372036854775807
  t1 : -9223372036854775808 ≤ e.t
  t2 : e.t ≤ 9223372036854775807
  x : e.x.size ≤ 9223372036854775807
theorem fewE_fit {es : List Er} {m : Nat} (h : ∀ e ∈ es, e.Big) : ∀ e ∈ fewE es m, e.Fit ∧ e.x.size ≤ 8 := by
  intro e he
  obtain ⟨x, hx, rfl⟩ := List.mem_map.1 he
  have hb := h x (List.mem_of_mem_take hx)
  have h8 := shS_size x.x 8
  exact ⟨⟨hb.f1, hb.f2, hb.t1, hb.t2, by show (shS x.x 8).size ≤ 100000; omega⟩, h8⟩

theorem cells_newb (w : World) (xs : List Value) (t : TypeId) (b : Nat) (hb : w.heap.size = b) : ∀ j u, xs[j]? = some u → (w.alloc (.cells xs.toArray t)).cell? ((⟨b, 0, none⟩ : Addr).add j) = some u := by
  subst hb; exact cells_news w xs t

set_option maxRecDepth 100000 in
set_option maxHeartbeats 2000000 in
theorem few_any (a : Option Addr) (cap M : Nat) (es : List Er) (w : World) (hM : M ≤ 100) (hbig : ∀ e ∈ es, e.Big) (hS : ES w.heap.size w a cap es) :
    Calls Try.prog 15 #[.slice a es.length cap, .int .i64 (M : Int)] w fun e w' =>
      ∃ v, e = .returned v ∧ w'.ownsRow w.heap.size 32 3 v (fewE es M).length (rv (fewE es M)) ∧ Below w.heap.size w w' := by
  obtain ⟨i3, hi3, jy0, jy1, jy2⟩ := info_parts infoEd2
  obtain ⟨n, hn'⟩ : ∃ n, es.length = n := ⟨_, rfl⟩
  obtain ⟨B, hB⟩ : ∃ B, w.heap.size = B := ⟨_, rfl⟩
  have hcap := hS.le
  have hmx := hS.mx
  obtain ⟨b, off, hab, hcell⟩ := hS.cells.core
  rw [hn'] at hab hcell hcap ⊢
  rw [hB] at hab
  have HE := Lib.hid hn'; have HAB := Lib.hid hab; have HC := Lib.hid hcell; have HB := Lib.hid hB; have HF := Lib.hid hbig
  have H0 : Hid (w.ownsRow B 32 3 (.slice none 0 0) 0 (rv (fewE es 0))) := World.ownsRow_nil _ _ _ _
  clear hS hbig hab hcell hB hn'
  go_enter Try.func15, Try.ntmps15
  go_wp2_with fail
  go_loopw [5, 6] (fun v q wr => ∃ (k : Nat), k ≤ n ∧ k ≤ M ∧ q = .int .i64 (k : Int) ∧ Hid (wr.ownsRow B 32 3 v k (rv (fewE es k))) ∧ Hid (Below B w wr)) (fun _ q _ => n - (intOf q).toNat)
  case atStart => exact ⟨0, by omega, by omega, rfl, H0, Below.refl _ _⟩
  case round =>
    obtain ⟨k, hk, hkM, rfl, HO, HR⟩ := hrel
    have hBr : B ≤ wr.heap.size := by have := HR.out.size; have := HB.out; omega
    by_cases hlt : k < n
    · have hkk : (k : Int) < (n : Int) := by omega
      by_cases hlt2 : k < M
      · obtain ⟨ha, hbB⟩ := HAB.out.resolve_left (by omega)
        subst ha
        have hkl : k < es.length := by rw [HE.out]; exact hlt
        have hkk2 : (k : Int) < (M : Int) := by omega
        obtain ⟨c0, c1, c2⟩ := HC.out k hlt wr (HR.out.block b hbB)
        have hx := (HF.out _ (eg_mem hkl)).x
        obtain ⟨x, hx1⟩ : ∃ x, (eg es k).f = x := ⟨_, rfl⟩
        obtain ⟨y, hy1⟩ : ∃ y, (eg es k).t = y := ⟨_, rfl⟩
        obtain ⟨s, hs1⟩ : ∃ s, (eg es k).x = s := ⟨_, rfl⟩
        obtain ⟨t, ht1⟩ : ∃ t, shS s 8 = t := ⟨_, rfl⟩
        have hst : few1 (eg es k) = ⟨x, y, t⟩ := by unfold few1; rw [hx1, hy1, hs1, ht1]
        rw [hx1] at c0
        rw [hy1] at c1
        rw [hs1] at c2 hx
        have cS := fun W => short_any s 8 W hx (by omega)
        rw [ht1] at cS
        have CS := Lib.hid cS
        have HRV : Hid (rv (fewE es (k + 1)) = rv (fewE es k) ++ [.int .i64 x, .int .i64 y, .string t]) := Lib.hid (by rw [fewE_step hkl, hst]; exact rv_snoc _ _)
        obtain ⟨p, hp⟩ : ∃ p, wr.heap.size = p := ⟨_, rfl⟩
        obtain ⟨W1, hW1⟩ : ∃ W, wr.alloc (.cells #[.int .i64 x, .int .i64 y, .string s] 32) = W := ⟨_, rfl⟩
        have b1 : Blk W1 p 32 #[.int .i64 x, .int .i64 y, .string s] := by rw [← hW1, ← hp]; exact Blk.new _ _ _
        have z1 : W1.heap.size = p + 1 := by rw [← hW1, ← hp]; simp
        have bl1 : Below B w W1 := by rw [← hW1]; exact HR.out.alloc hBr _
        have ow1 : W1.ownsRow B 32 3 u5 k (rv (fewE es k)) := by rw [← hW1]; exact HO.out.alloc _
        have HW1 := Lib.hid hW1; have HP := Lib.hid hp; have HB1 := Lib.hid b1; have HBL := Lib.hid bl1; have HOW := Lib.hid ow1
        have k0 := b1.cell 0; have k1 := b1.cell 1; have k2 := b1.cell 2
        simp only [List.getElem?_toArray, List.getElem?_cons_zero, List.getElem?_cons_succ] at k0 k1 k2
        clear hx1 hy1 hs1 ht1 hst cS hW1 hp b1 bl1 ow1
        go_wp2_with fail
        rw [HP.out, show wr.alloc (.cells #[.int .i64 x, .int .i64 y, .string s] 32) = W1 from HW1.out]
        go_wp2_with fail
        refine (CS.out _).mono ?_
        rintro e w' ⟨rfl, rfl⟩
        have f2 := HB1.out.frozen 2
        have bl2 : Below B w (W1.setCell ⟨p, 2, none⟩ (.string t)) := HBL.out.setCell (p := ⟨p, 2, none⟩) (by show B ≤ p; have := HP.out; omega) _
        have ow2 : (W1.setCell ⟨p, 2, none⟩ (.string t)).ownsRow B 32 3 u5 k (rv (fewE es k)) := by
          refine own_same HOW.out (fun g hg => Below.heap_setCell W1 _ _ g (fun e => ?_))
          have := (HO.out.lt g hg).2
          have := HP.out
          simp at e; omega
        have HBL2 := Lib.hid bl2; have HOW2 := Lib.hid ow2
        have hBp : B ≤ p := by have := HP.out; omega
        have hk5 : k ≤ 100 := by omega
        have hBW : B ≤ (W1.setCell ⟨p, 2, none⟩ (.string t)).heap.size := by simp [World.setCell]; omega
        clear bl2 ow2
        go_wp2_with (at_builtin; refine wpList_append_own _ rfl _ _ 22 rfl B 32 i3 (.agg #[.int .i64 0, .int .i64 0, .string ⟨#[]⟩]) 3 32 Try.underlying22 hi3 jy0 jy1 jy2 rfl (by decide) u5 k (rv (fewE es k)) rfl (HOW2.out.alloc _) ⟨_, 0, none⟩ 1 1 [.int .i64 x, .int .i64 y, .string t] rfl rfl (cells_newb _ [.int .i64 x, .int .i64 y, .string t] _ _ (by simp [World.setCell]; try omega)) (fun x hx => by simp at hx; rcases hx with rfl | rfl | rfl <;> rfl) (by unfold maxLen; omega) (by omega) (by simp [World.setCell]; omega) ?_; intro v' w6 hown6 hgrow6 _)
        have HO6 : Hid (w6.ownsRow B 32 3 v' (k + 1) (rv (fewE es (k + 1)))) := by rw [HRV.out]; exact hown6
        have H6 : Hid (Below B w w6) := HBL2.out.trans (((Below.refl _ _).alloc hBW _).grown hgrow6 (by simp [World.setCell]; omega) (fun g eg => (HO.out.lt g eg).1))
        clear hown6 hgrow6
        go_wp2
        go_roundw
        case rel => exact ⟨k + 1, by omega, by omega, by go_num, HO6, H6⟩
        case measure => simp [intOf]; omega
      · obtain rfl : M = k := by omega
        have hkk2 : ¬ (M : Int) < (M : Int) := by omega
        have HOO := Lib.hid (And.intro HO.out HR.out)
        go_wp2
        go_ret
        exact ⟨_, rfl, by rw [fewE_len, HE.out, Nat.min_eq_left (by omega), HB.out]; exact HO.out, by rw [HB.out]; exact HR.out⟩
    · obtain rfl : n = k := by omega
      go_wp2
      go_ret
      refine ⟨_, rfl, ?_, by rw [HB.out]; exact HR.out⟩
      rw [fewE_len, HE.out, Nat.min_eq_right (by omega), fewE_all es (k := M) (by rw [HE.out]; exact hkM), HE.out, HB.out]
      exact HO.out

end Go.Proofs.Ytfhpllcdlejfjaa
