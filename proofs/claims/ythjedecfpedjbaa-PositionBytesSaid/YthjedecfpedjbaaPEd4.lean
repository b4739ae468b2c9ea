/- The contracts of Bytes, the program's and the reference's. Conditions: texts of at most 100000 bytes, lists of at most 1000 edits. -/
import Derived.Test.YthjedecfpedjbaaPEd3
namespace Go.Proofs.Ythjedecfpedjbaa
open Go.RowKit Go.Shelf
set_option linter.unusedVariables false

theorem PCells.below {B : Nat} {w w' : World} {a : Option Addr} {n : Nat} {es : Nat → PE} (h : PCells B w a n es) (hb : Below B w w') : PCells B w' a n es := by
  rcases h with h | ⟨b, off, ha, hlt, hc⟩
  · exact .inl h
  · exact .inr ⟨b, off, ha, hlt, fun k hk i hi => (hb.cell (p := ⟨b, off + k * 5 + i, none⟩) hlt).trans (hc k hk i hi)⟩
theorem PCells.mono {B B' : Nat} {w : World} {a : Option Addr} {n : Nat} {es : Nat → PE} (h : PCells B w a n es) (hb : B ≤ B') : PCells B' w a n es := by
  rcases h with h | ⟨b, off, ha, hlt, hc⟩
  · exact .inl h
  · exact .inr ⟨b, off, ha, by omega, hc⟩
theorem ECells.below {B : Nat} {w w' : World} {a : Option Addr} {n : Nat} {ds : Nat → Ed} (h : ECells B w a n ds) (hb : Below B w w') : ECells B w' a n ds := by
  rcases h with h | ⟨g, ha, hlt, hc⟩
  · exact .inl h
  · exact .inr ⟨g, ha, hlt, fun k hk i hi => (hb.cell (p := ⟨g, k * 3 + i, none⟩) hlt).trans (hc k hk i hi)⟩
theorem ECells.mono {B B' : Nat} {w : World} {a : Option Addr} {n : Nat} {ds : Nat → Ed} (h : ECells B w a n ds) (hb : B ≤ B') : ECells B' w a n ds := by
  rcases h with h | ⟨g, ha, hlt, hc⟩
  · exact .inl h
  · exact .inr ⟨g, ha, by omega, hc⟩
/-- What a call of Bytes returns. -/
def BytesPost (n : Nat) (ds : Nat → Ed) (ers : Nat → Int) (w : World) (e : Ending) (w' : World) : Prop :=
  (64 < n ∧ Below w.heap.size w w' ∧ e = .returned (.tuple #[.slice none 0 0, .int .i64 4])) ∨ (n ≤ 64 ∧ EdsPost n ds ers w e w')

set_option maxRecDepth 100000 in
set_option maxHeartbeats 1000000 in
theorem pbytes_any (s : ByteArray) (a : Option Addr) (n cap : Nat) (es : Nat → PE) (ds : Nat → Ed) (ers : Nat → Int) (w : World) (hs : s.size ≤ 100000) (hn : n ≤ 1000) (hcap : n ≤ cap) (hfit : ∀ k, k < n → (es k).fit) (hc : PCells w.heap.size w a n es) (h : ∀ k, k < n → EdS (sb s) (es k) (ds k) (ers k)) :
    Calls Try.prog 25 #[.string s, .slice a n cap] w (BytesPost n ds ers w) := by
  obtain ⟨W1, hW1⟩ : ∃ W, w.alloc (.cells #[.string s] 9) = W := ⟨_, rfl⟩
  have hb1 : Below w.heap.size w W1 := by rw [← hW1]; exact (Below.refl _ _).alloc (Nat.le_refl _) _
  have hx1 : Boxed W1 w.heap.size 9 (.string s) := by rw [← hW1]; exact Boxed.new _ _ _
  have HB1 := Lib.hid hb1; have HW1 := Lib.hid hW1
  by_cases hlim : 64 < n
  · have hl2 : (64 : Int) < (n : Int) := by omega
    clear hW1 hx1 hb1 h hc hfit
    go_enter Try.func25, Try.ntmps25
    go_wp2
    go_ret2
    exact .inl ⟨hlim, by rw [show w.alloc (.cells #[.string s] 9) = W1 from HW1.out]; exact HB1.out, rfl⟩
  · have hl2 : ¬ (64 : Int) < (n : Int) := by omega
    have C := Lib.hid (conv_eds s w.heap.size a n cap es ds ers W1 hs (by omega) hcap hfit ((hc.below hb1).mono hb1.size) hx1 h)
    clear hW1 hx1 hb1 h hc hfit
    go_enter Try.func25, Try.ntmps25
    go_wp2_with fail
    rw [show w.alloc (.cells #[.string s] 9) = W1 from HW1.out]
    refine C.out.mono ?_
    rintro e w2 ⟨hb, hway⟩
    have H2 := Lib.hid (HB1.out.trans (hb.mono HB1.out.size))
    clear hb
    rcases hway with ⟨er, hf, rfl⟩ | ⟨hz, a2, c2, rfl, hc2⟩
    · have HF := Lib.hid hf
      clear hf
      go_wp2
      go_ret2
      exact .inr ⟨by omega, H2.out, .inl ⟨er, HF.out, rfl⟩⟩
    · have HF := Lib.hid (And.intro hz hc2)
      clear hz hc2
      go_wp2
      go_ret2
      exact .inr ⟨by omega, H2.out, .inr ⟨HF.out.1, a2, c2, rfl, HF.out.2⟩⟩

theorem roff_at {s : ByteArray} {l u : Int} {o : Nat} {er : Int} (w : World) (hs : s.size ≤ 100000) (h1 : I64n l) (h : OffSpec (sb s) l u o er) :
    Calls Try.prog 21 #[.string s, .agg #[.int .i64 l, .int .i64 u]] w fun e w' => e = .returned (.tuple #[.int .i64 (o : Int), .int .i64 er]) ∧ Below w.heap.size w w' := by
  refine (roff_any s l u w hs h1.2).mono ?_
  rintro e w' ⟨o', er', rfl, hsp, hb⟩
  obtain ⟨rfl, rfl⟩ := hsp.det h
  exact ⟨rfl, hb⟩
/-- The values of the first k edits. -/
def dvals (ds : Nat → Ed) (k : Nat) : List Value := (List.range k).flatMap fun j => (ds j).vals
theorem dvals_succ (ds : Nat → Ed) (k : Nat) : dvals ds (k + 1) = dvals ds k ++ (ds k).vals := by unfold dvals; rw [List.range_succ]; simp
theorem dvals_len (ds : Nat → Ed) (k : Nat) : (dvals ds k).length = k * 3 := by
  induction k with
  | zero => rfl
  | succ k ih => rw [dvals_succ, List.length_append, ih]; simp [Ed.vals]; omega
theorem dvals_get (ds : Nat → Ed) (n k i : Nat) (hk : k < n) (hi : i < 3) : (dvals ds n)[k * 3 + i]? = (ds k).vals[i]? := by
  induction n with
  | zero => omega
  | succ n ih =>
    rw [dvals_succ]
    by_cases h : k = n
    · subst h
      rw [List.getElem?_append_right (by rw [dvals_len]; omega), dvals_len]
      congr 1; omega
    · rw [List.getElem?_append_left (by rw [dvals_len]; omega)]
      exact ih (by omega)
theorem cells_new (w : World) (xs : List Value) (t : TypeId) : ∀ j u, xs[j]? = some u → (w.alloc (.cells xs.toArray t)).cell? ((⟨w.heap.size, 0, none⟩ : Addr).add j) = some u := by
  intro j u h
  have := (Blk.new w t xs.toArray).cell j
  rw [List.getElem?_toArray, h] at this
  rw [← this]
  congr 1
  by_cases h0 : j = 0 <;> simp [Addr.add, h0]

set_option maxRecDepth 100000 in
set_option maxHeartbeats 4000000 in
theorem rbytes_any (s : ByteArray) (a : Option Addr) (n cap : Nat) (es : Nat → PE) (ds : Nat → Ed) (ers : Nat → Int) (w : World) (hs : s.size ≤ 100000) (hn : n ≤ 1000) (hcap : n ≤ cap) (hfit : ∀ k, k < n → (es k).fit) (hc : PCells w.heap.size w a n es) (h : ∀ k, k < n → EdS (sb s) (es k) (ds k) (ers k)) :
    Calls Try.prog 26 #[.string s, .slice a n cap] w (BytesPost n ds ers w) := by
  obtain ⟨i3, hi3, hy0, hy1, hy2⟩ := info_parts infoE
  by_cases hlim : 64 < n
  · have hl2 : (64 : Int) < (n : Int) := by omega
    clear h hc hfit
    go_enter Try.func26, Try.ntmps26
    go_wp2
    go_ret2
    exact .inl ⟨hlim, Below.refl _ _, rfl⟩
  · have hl2 : ¬ (64 : Int) < (n : Int) := by omega
    obtain ⟨B, hB⟩ : ∃ B, w.heap.size = B := ⟨_, rfl⟩
    rw [hB] at hc
    have hcore : ∃ b off, (n = 0 ∨ (a = some ⟨b, off, none⟩ ∧ b < B)) ∧ ∀ k, k < n → ∀ W, Below B w W → W.cell? ⟨b, off + k * 5, none⟩ = some (.int .i64 (es k).l1) ∧ W.cell? ⟨b, off + k * 5 + 1, none⟩ = some (.int .i64 (es k).u1) ∧ W.cell? ⟨b, off + k * 5 + 2, none⟩ = some (.int .i64 (es k).l2) ∧ W.cell? ⟨b, off + k * 5 + 2 + 1, none⟩ = some (.int .i64 (es k).u2) ∧ W.cell? ⟨b, off + k * 5 + 4, none⟩ = some (.string (es k).t) := by
      rcases hc with h0 | ⟨b, off, ha, hb, hcc⟩
      · exact ⟨0, 0, .inl h0, fun k hk => by omega⟩
      · refine ⟨b, off, .inr ⟨ha, hb⟩, fun k hk W hW => ⟨?_, ?_, ?_, ?_, ?_⟩⟩
        · exact (hW.cell (p := ⟨b, off + k * 5, none⟩) hb).trans (hcc k hk 0 (by omega))
        · exact (hW.cell (p := ⟨b, off + k * 5 + 1, none⟩) hb).trans (hcc k hk 1 (by omega))
        · exact (hW.cell (p := ⟨b, off + k * 5 + 2, none⟩) hb).trans (hcc k hk 2 (by omega))
        · exact (hW.cell (p := ⟨b, off + k * 5 + 2 + 1, none⟩) hb).trans (hcc k hk 3 (by omega))
        · exact (hW.cell (p := ⟨b, off + k * 5 + 4, none⟩) hb).trans (hcc k hk 4 (by omega))
    obtain ⟨b, off, hab, hcell⟩ := hcore
    have HAB := Lib.hid hab; have HC := Lib.hid hcell; have HB := Lib.hid hB; have HS := Lib.hid h; have HF := Lib.hid hfit
    have H0 : Hid (w.ownsRow B 52 3 (.slice none 0 0) 0 (dvals ds 0)) := World.ownsRow_nil _ _ _ _
    clear hc hab hcell hB h hfit
    go_enter Try.func26, Try.ntmps26
    go_wp2_with fail
    go_loopw [6, 7] (fun v q wr => ∃ (k : Nat) (ov : Value), k ≤ n ∧ q = .int .i64 (k : Int) ∧ v = ov ∧ Hid (∀ j, j < k → ers j = 0) ∧ Hid (wr.ownsRow B 52 3 ov k (dvals ds k)) ∧ Hid (Below B w wr)) (fun _ q _ => n - (intOf q).toNat)
    case atStart => exact ⟨0, _, by omega, rfl, rfl, Lib.hid (fun j h => by omega), H0, Below.refl _ _⟩
    case round =>
      obtain ⟨k, ov, hk, rfl, rfl, HI, HO, HR⟩ := hrel
      by_cases hlt : k < n
      · obtain ⟨ha, hbB⟩ := HAB.out.resolve_left (by omega)
        subst ha
        obtain ⟨c0, c1, _, _, _⟩ := HC.out k hlt wr HR.out
        have hkk : (k : Int) < (n : Int) := by omega
        have hBr : B ≤ wr.heap.size := by have := HR.out.size; have := HB.out; omega
        obtain ⟨o1, e1, o2, e2, h1, h2, hway⟩ := HS.out k hlt
        obtain ⟨fit1, fit2, fit3, fit4⟩ := HF.out k hlt
        have ho1 := off_le h1
        have ho2 := off_le h2
        rw [sb_len] at ho1 ho2
        have C1 := Lib.hid (fun W => roff_at W hs fit1 h1)
        have C2 := Lib.hid (fun W => roff_at W hs fit3 h2)
        have HW := Lib.hid hway
        clear h1 h2 hway fit1 fit2 fit3 fit4
        go_wp2_with fail
        refine (C1.out _).mono ?_
        rintro e w4 ⟨rfl, b4⟩
        have HB4 := Lib.hid b4
        have H4 := Lib.hid (HR.out.trans (b4.mono hBr))
        obtain ⟨_, _, c2, c3, _⟩ := HC.out k hlt w4 H4.out
        have hB4 : B ≤ w4.heap.size := by have := H4.out.size; have := HB.out; omega
        clear b4 c0 c1
        by_cases he1 : e1 = 0
        · have hq1 : (e1 != 0) = false := by simp [he1]
          have HE1 := Lib.hid he1
          clear he1
          go_wp2_with fail
          refine (C2.out _).mono ?_
          rintro e w5 ⟨rfl, b5⟩
          have HB5 := Lib.hid (HB4.out.trans (b5.mono HB4.out.size))
          have H5 := Lib.hid (H4.out.trans (b5.mono hB4))
          obtain ⟨_, _, _, _, c4⟩ := HC.out k hlt w5 H5.out
          have hB5 : B ≤ w5.heap.size := by have := H5.out.size; have := HB.out; omega
          clear b5 c2 c3
          by_cases he2 : e2 = 0
          · have hq2 : (e2 != 0) = false := by simp [he2]
            have HE2 := Lib.hid he2
            clear he2
            by_cases hlo : o2 < o1
            · have hlo2 : (o2 : Int) < (o1 : Int) := by omega
              have her : ers k = 1 := by
                rcases HW.out with ⟨x, _⟩ | ⟨_, x, _⟩ | ⟨_, _, _, x, _⟩ | ⟨_, _, x, _⟩
                · exact absurd HE1.out x
                · exact absurd HE2.out x
                · exact x
                · omega
              have HER := Lib.hid her
              clear her
              go_wp2
              go_ret2
              exact .inr ⟨by omega, by rw [HB.out]; exact H5.out, .inl ⟨1, ⟨k, hlt, HER.out, by decide, HI.out⟩, rfl⟩⟩
            · have hlo2 : ¬ (o2 : Int) < (o1 : Int) := by omega
              have hres : ers k = 0 ∧ ds k = ⟨o1, o2, (es k).t⟩ := by
                rcases HW.out with ⟨x, _⟩ | ⟨_, x, _⟩ | ⟨_, _, x, _⟩ | ⟨_, _, _, x, y⟩
                · exact absurd HE1.out x
                · exact absurd HE2.out x
                · omega
                · exact ⟨x, y⟩
              have HI2 : Hid (∀ j, j < k + 1 → ers j = 0) := by
                intro j hj
                by_cases hjk : j = k
                · subst hjk; exact hres.1
                · exact HI.out j (by omega)
              have hdv : dvals ds (k + 1) = dvals ds k ++ [.int .i64 (o1 : Int), .int .i64 (o2 : Int), .string (es k).t] := by rw [dvals_succ, hres.2]; rfl
              have HDV := Lib.hid hdv
              have HO5 := Lib.hid (own_same HO.out (fun g hg => HB5.out.block g (HO.out.lt g hg).2))
              clear hres hdv
              go_wp2_with (at_builtin; refine wpList_append_own _ rfl _ _ 44 rfl B 52 i3 (.agg #[.int .i64 0, .int .i64 0, .string ⟨#[]⟩]) 3 32 Try.underlying44 hi3 hy0 hy1 hy2 rfl (by decide) u6 k (dvals ds k) rfl (HO5.out.alloc _) ⟨w5.heap.size, 0, none⟩ 1 1 [.int .i64 (o1 : Int), .int .i64 (o2 : Int), .string (es k).t] rfl rfl (cells_new _ [.int .i64 (o1 : Int), .int .i64 (o2 : Int), .string (es k).t] _) (fun x hx => by simp at hx; rcases hx with rfl | rfl | rfl <;> rfl) (by unfold maxLen; omega) (by omega) (by simp; omega) ?_; intro v' w6 hown6 hgrow6 _)
              have HO6 : Hid (w6.ownsRow B 52 3 v' (k + 1) (dvals ds (k + 1))) := by rw [HDV.out]; exact hown6
              have H6 : Hid (Below B w w6) := H5.out.trans (((Below.refl _ _).alloc hB5 _).grown hgrow6 (by simp; omega) (fun g eg => (HO5.out.lt g eg).1))
              clear hown6 hgrow6
              go_wp2
              go_roundw
              case rel => exact ⟨k + 1, _, by omega, by go_num, rfl, HI2, HO6, H6⟩
              case measure => simp [intOf]; omega
          · have hq2 : (e2 != 0) = true := by simp [he2]
            have her : ers k = e2 := by
              rcases HW.out with ⟨x, _⟩ | ⟨_, _, x, _⟩ | ⟨_, x, _⟩ | ⟨_, x, _⟩
              · exact absurd HE1.out x
              · exact x
              all_goals exact absurd x he2
            have HER := Lib.hid (And.intro her he2)
            clear her he2
            go_wp2
            go_ret2
            exact .inr ⟨by omega, by rw [HB.out]; exact H5.out, .inl ⟨e2, ⟨k, hlt, HER.out.1, HER.out.2, HI.out⟩, rfl⟩⟩
        · have hq1 : (e1 != 0) = true := by simp [he1]
          have her : ers k = e1 := by
            rcases HW.out with ⟨_, x, _⟩ | ⟨x, _⟩ | ⟨x, _⟩ | ⟨x, _⟩
            · exact x
            all_goals exact absurd x he1
          have HER := Lib.hid (And.intro her he1)
          clear her he1
          go_wp2
          go_ret2
          exact .inr ⟨by omega, by rw [HB.out]; exact H4.out, .inl ⟨e1, ⟨k, hlt, HER.out.1, HER.out.2, HI.out⟩, rfl⟩⟩
      · obtain rfl : n = k := by omega
        have hown := HO.out
        obtain ⟨A8, k8, hv8⟩ := own_slice hown
        subst hv8
        have hE : n ≤ k8 ∧ k8 ≤ 9223372036854775807 ∧ ECells wr.heap.size wr A8 n ds := by
          rcases hown.2 with ⟨hv, h0⟩ | ⟨g, cp, cur, hv, _, hg, h1, h2, _, _⟩
          · simp only [Value.slice.injEq] at hv
            obtain ⟨rfl, _, rfl⟩ := hv
            exact ⟨by omega, by omega, .inl h0⟩
          · simp only [Value.slice.injEq, true_and] at hv
            obtain ⟨rfl, rfl⟩ := hv
            refine ⟨h1, by unfold maxLen at h2; omega, .inr ⟨g, rfl, (Array.getElem?_eq_some_iff.1 hg).1, fun j hj i hi => ?_⟩⟩
            rw [hown.cellAt (j * 3 + i) (by omega)]
            exact dvals_get ds n j i hj hi
        have HE := Lib.hid hE
        clear hown hE
        go_wp2
        go_ret2
        exact .inr ⟨by omega, by rw [HB.out]; exact HR.out, .inr ⟨HI.out, A8, k8, rfl, HE.out⟩⟩

end Go.Proofs.Ythjedecfpedjbaa
