/- The contracts of Pick, Raw and Few: the edits that the laws make. Conditions: texts of at most 1000000 bytes. -/
import Derived.Test.YtfhpllcdlejfjaaEVr
import Derived.Test.YtfhpllcdlejfjaaShort
import Derived.Test.YtfhpllcdlejfjaaAround
import Derived.Test.YtfhpllcdlejfjaaBound
import Derived.Test.YtfhpllcdlejfjaaWf
import Derived.Lib.MinMax
namespace Go.Proofs.Ytfhpllcdlejfjaa
open Go.RowKit Go.Shelf
set_option linter.unusedVariables false

/-- The numbers lie in memory. -/
def SlI (B : Nat) (w : World) (a : Option Addr) (n : Nat) : Prop :=
  n = 0 ∨ ∃ b off, a = some ⟨b, off, none⟩ ∧ b < B ∧ ∀ j, j < n → ∃ x : Int, -9223372036854775808 ≤ x ∧ x ≤ 9223372036854775807 ∧ w.cell? ⟨b, off + j, none⟩ = some (.int .i64 x)
theorem SlI.of {w : World} {a : Option Addr} {cap : Nat} {ls : List Int} (h : Sli .i64 w a cap ls) (hi : ∀ n ∈ ls, -9223372036854775808 ≤ n ∧ n ≤ 9223372036854775807) : SlI w.heap.size w a ls.length := by
  rcases h.cells with h0 | ⟨b, off, ha, hb, hc⟩
  · exact .inl (by rw [h0]; rfl)
  · refine .inr ⟨b, off, ha, hb, fun j hj => ?_⟩
    have hm : ls[j]?.getD 0 ∈ ls := by rw [List.getElem?_eq_getElem hj]; exact List.getElem_mem hj
    exact ⟨_, (hi _ hm).1, (hi _ hm).2, hc j hj⟩
theorem SlI.below {B : Nat} {w w' : World} {a : Option Addr} {n : Nat} (h : SlI B w a n) (hb : Below B w w') : SlI B w' a n := by
  rcases h with h0 | ⟨b, off, ha, hlt, hc⟩
  · exact .inl h0
  · exact .inr ⟨b, off, ha, hlt, fun j hj => by
      obtain ⟨x, h1, h2, h3⟩ := hc j hj
      exact ⟨x, h1, h2, (hb.cell (p := ⟨b, off + j, none⟩) hlt).trans h3⟩⟩

set_option maxRecDepth 100000 in
theorem pick_any (B : Nat) (a : Option Addr) (n cap : Nat) (j m : Nat) (w : World) (h : SlI B w a n) (hcap : n ≤ cap) (hcap2 : cap ≤ 9223372036854775807) (hj : j ≤ 1000) (hm : 1 ≤ m) (hm2 : m ≤ 1000000) :
    Calls Try.prog 61 #[.slice a n cap, .int .i64 (j : Int), .int .i64 (m : Int)] w (Index m w) := by
  by_cases hlt : j < n
  · rcases h with h0 | ⟨b, off, rfl, _, hc⟩
    · omega
    obtain ⟨x, hx1, hx2, hcx⟩ := hc j hlt
    have hjn : ¬ (n : Int) ≤ (j : Int) := by omega
    have hjn2 : (j : Int) < (n : Int) := by omega
    have C := Lib.hid (fun W => around_any x m W hx1 hx2 hm (by omega))
    clear hc
    go_enter Try.func61, Try.ntmps61
    go_wp2_with fail
    refine (C.out _).mono ?_
    rintro e w' ⟨k, hk, rfl, rfl⟩
    go_wp2
    go_ret
    exact ⟨k, hk, rfl, rfl⟩
  · have hjn : (n : Int) ≤ (j : Int) := by omega
    go_enter Try.func61, Try.ntmps61
    go_wp2
    go_ret
    exact ⟨0, by omega, rfl, rfl⟩

/-- Where the last edit ends. -/
def lastT (p : Int) : List Er → Int
  | [] => p
  | e :: l => lastT e.t l
theorem lastT_snoc : ∀ (l : List Er) (p : Int) (e : Er), lastT p (l ++ [e]) = e.t := by
  intro l
  induction l with
  | nil => intro p e; rfl
  | cons x l ih => intro p e; exact ih x.t e
theorem vE_snoc {n : Int} : ∀ {l : List Er} {p : Int} {e : Er}, vE n p l = 0 → 0 ≤ e.f → lastT p l ≤ e.f → e.f ≤ e.t → e.t ≤ n → vE n p (l ++ [e]) = 0 := by
  intro l
  induction l with
  | nil =>
    intro p e _ h0 h1 h2 h3
    simp only [lastT] at h1
    simp only [List.nil_append, vE]
    rw [if_neg (by omega), if_neg (by omega)]
  | cons x l ih =>
    intro p e h h0 h1 h2 h3
    simp only [List.cons_append, vE] at h ⊢
    split at h
    · omega
    · split at h
      · omega
      · rename_i k1 k2
        rw [if_neg k1, if_neg k2]
        exact ih h h0 h1 h2 h3
/-- The words that edits are made of. -/
def wrds : List ByteArray := [⟨#[]⟩, ⟨#[120]⟩, ⟨#[97, 98]⟩, ⟨#[32]⟩, ⟨#[10]⟩, ⟨#[108, 101, 116]⟩, ⟨#[48]⟩, ⟨#[43]⟩, ⟨#[195, 169]⟩, ⟨#[240, 157, 132, 158, 121]⟩, ⟨#[40]⟩, ⟨#[34]⟩, ⟨#[97, 95, 49]⟩]
theorem wrds_ok : ∀ p ∈ wrds, p.size ≤ 5 := by
  have h : (wrds.all fun p => decide (p.size ≤ 5)) = true := by decide +kernel
  intro p hp
  simpa using List.all_eq_true.1 h p hp

/-- A call hands back a slice of its own with valid edits of the text. -/
def Made (s : ByteArray) (Q : Er → Prop) (w : World) (e : Ending) (w' : World) : Prop :=
  ∃ es v, e = .returned v ∧ es.length ≤ 5 ∧ vErr (s.size : Int) es = 0 ∧ (∀ x ∈ es, x.x.size ≤ 7 ∧ Q x) ∧ w'.ownsRow w.heap.size 32 3 v es.length (rv es) ∧ Below w.heap.size w w'

theorem infoEd2 : (Try.prog.info? 32).map (fun i => (i.zero, i.size, i.bytes)) = some (some (.agg #[.int .i64 0, .int .i64 0, .string ⟨#[]⟩]), 3, 32) := by kernel_rfl
theorem cells_news (w : World) (xs : List Value) (t : TypeId) : ∀ j u, xs[j]? = some u → (w.alloc (.cells xs.toArray t)).cell? ((⟨w.heap.size, 0, none⟩ : Addr).add j) = some u := by
  intro j u h
  have := (Blk.new w t xs.toArray).cell j
  rw [List.getElem?_toArray, h] at this
  rw [← this]
  congr 1
  by_cases h0 : j = 0 <;> simp [Addr.add, h0]

theorem own_base {w : World} {b b' e size n : Nat} {v : Value} {xs : List Value} (h : w.ownsRow b e size v n xs) (hb : b' ≤ b) : w.ownsRow b' e size v n xs := by
  refine ⟨h.1, ?_⟩
  rcases h.2 with hn | ⟨g, cap, cur, rfl, h1, h2, r⟩
  · exact .inl hn
  · exact .inr ⟨g, cap, cur, rfl, Nat.le_trans hb h1, h2, r⟩

set_option maxRecDepth 100000 in
set_option maxHeartbeats 4000000 in
theorem some_raw (s : ByteArray) (a : Option Addr) (nl cap : Nat) (w : World) (hs : s.size ≤ 1000000) (h : SlI w.heap.size w a nl) (hcap : nl ≤ cap) (hcap2 : cap ≤ 9223372036854775807) :
    Calls Try.prog 40 #[.string s, .slice a nl cap, .bool false] w (Made s (fun _ => True) w) := by
  obtain ⟨i3, hi3, jy0, jy1, jy2⟩ := info_parts infoEd2
  obtain ⟨B, hB⟩ : ∃ B, w.heap.size = B := ⟨_, rfl⟩
  rw [hB] at h
  obtain ⟨W1, hW1⟩ : ∃ W, w.alloc (.cells (wrds.map Value.string).toArray 9) = W := ⟨_, rfl⟩
  have hb1 : Below B w W1 := by rw [← hW1, ← hB]; exact (Below.refl _ _).alloc (Nat.le_refl _) _
  have hs1 : W1.heap.size = B + 1 := by rw [← hW1, ← hB]; simp
  have hblk : ∀ q, q < 13 → ∀ W, Below (B + 1) W1 W → ∃ p, W.cell? ⟨B, q, none⟩ = some (.string p) ∧ p.size ≤ 5 := by
    intro q hq W hW
    have hq2 : q < wrds.length := hq
    refine ⟨wrds[q], ?_, wrds_ok _ (List.getElem_mem hq2)⟩
    rw [hW.cell (p := ⟨B, q, none⟩) (by show B < B + 1; omega), ← hW1, ← hB]
    have bk : Blk (w.alloc (.cells (wrds.map Value.string).toArray 9)) w.heap.size 9 (wrds.map Value.string).toArray := Blk.new _ _ _
    rw [bk.cell q]
    simp [hq2]
  have HP : Hid (∀ z y : Int, 0 ≤ z → z ≤ 1000 → 1 ≤ y → y ≤ 1000000 → ∀ W, Below (B + 1) W1 W → Calls Try.prog 61 #[.slice a nl cap, .int .i64 z, .int .i64 y] W fun e w' => ∃ k : Nat, (k : Int) < y ∧ e = .returned (.int .i64 (k : Int)) ∧ w' = W) := by
    intro z y h1 h2 h3 h4 W hW
    obtain ⟨j, rfl⟩ : ∃ j : Nat, z = (j : Int) := ⟨z.toNat, by omega⟩
    obtain ⟨m, rfl⟩ : ∃ m : Nat, y = (m : Int) := ⟨y.toNat, by omega⟩
    refine (pick_any B a nl cap j m W (h.below (hb1.trans (hW.mono (by omega)))) hcap hcap2 (by omega) (by omega) (by omega)).mono ?_
    rintro e w' ⟨k, hk, rfl, rfl⟩
    exact ⟨k, by omega, rfl, rfl⟩
  have HB := Lib.hid hB; have HBLK := Lib.hid hblk; have HB1 := Lib.hid hb1; have HW := Lib.hid hW1; have HS1 := Lib.hid hs1
  have H0 : Hid (W1.ownsRow (B + 1) 32 3 (.slice none 0 0) ([] : List Er).length (rv [])) := World.ownsRow_nil _ _ _ _
  clear h hB hblk hb1 hW1 hs1
  go_enter Try.func40, Try.ntmps40
  go_wp2_with fail
  rw [show w.alloc (.cells #[.string ⟨#[]⟩, .string ⟨#[120]⟩, .string ⟨#[97, 98]⟩, .string ⟨#[32]⟩, .string ⟨#[10]⟩, .string ⟨#[108, 101, 116]⟩, .string ⟨#[48]⟩, .string ⟨#[43]⟩, .string ⟨#[195, 169]⟩, .string ⟨#[240, 157, 132, 158, 121]⟩, .string ⟨#[40]⟩, .string ⟨#[34]⟩, .string ⟨#[97, 95, 49]⟩] 9) = W1 from HW.out, HB.out]
  go_loopw [8, 9, 10] (fun v p q wr => ∃ (i : Nat) (f : Nat) (es : List Er), i ≤ 5 ∧ f ≤ s.size ∧ p = .int .i64 (f : Int) ∧ q = .int .i64 (i : Int) ∧ Hid (es.length = i) ∧ Hid (vE (s.size : Int) 0 es = 0 ∧ lastT 0 es = (f : Int)) ∧ Hid (∀ x ∈ es, x.x.size ≤ 7) ∧ Hid (wr.ownsRow (B + 1) 32 3 v es.length (rv es)) ∧ Hid (Below (B + 1) W1 wr)) (fun _ _ q _ => 5 - (intOf q).toNat)
  case atStart => exact ⟨0, 0, [], by omega, by omega, rfl, rfl, rfl, ⟨rfl, rfl⟩, Lib.hid (fun x hx => by simp at hx), H0, Below.refl _ _⟩
  case round =>
    obtain ⟨i, f, es, hi, hf, rfl, rfl, HL, HV, HX, HO, HR⟩ := hrel
    have hcz : B + 1 ≤ wr.heap.size := by have := HR.out.size; have := HS1.out; omega
    go_wp2_with fail
    refine (HP.out 0 6 (by omega) (by omega) (by omega) (by omega) _ HR.out).mono ?_
    rintro e w' ⟨m0, hm0, rfl, rfl⟩
    by_cases hlt : (i : Int) < (m0 : Int)
    · go_wp2_with fail
      refine (HP.out _ _ (by omega) (by omega) (by omega) (by omega) _ HR.out).mono ?_
      rintro e w' ⟨n, hn, rfl, rfl⟩
      obtain ⟨D, hD⟩ : ∃ D : Nat, (s.size : Int) - (f : Int) + 1 = (D : Int) := ⟨s.size - f + 1, by omega⟩
      have hD1 : ¬ (D : Int) = 0 := by omega
      have hnn : 0 ≤ (n : Int) := by omega
      obtain ⟨x, hx⟩ : ∃ x : Nat, (f : Int) + (n : Int) % (D : Int) = (x : Int) := ⟨((f : Int) + (n : Int) % (D : Int)).toNat, by have := Int.emod_nonneg (n : Int) hD1; omega⟩
      have hxs : x ≤ s.size := by have := Int.emod_lt_of_pos (n : Int) (show (0 : Int) < D by omega); omega
      have hxf : f ≤ x := by have := Int.emod_nonneg (n : Int) hD1; omega
      obtain ⟨D2, hD2⟩ : ∃ D : Nat, min ((s.size : Int) - (f : Int)) 6 + 1 = (D : Int) := ⟨(min ((s.size : Int) - (f : Int)) 6 + 1).toNat, by omega⟩
      have hD3 : ¬ (D2 : Int) = 0 := by omega
      obtain ⟨x2, hx2⟩ : ∃ x : Nat, (f : Int) + (n : Int) % (D2 : Int) = (x : Int) := ⟨((f : Int) + (n : Int) % (D2 : Int)).toNat, by have := Int.emod_nonneg (n : Int) hD3; omega⟩
      have hxs2 : x2 ≤ s.size := by have := Int.emod_lt_of_pos (n : Int) (show (0 : Int) < D2 by omega); omega
      have hxf2 : f ≤ x2 := by have := Int.emod_nonneg (n : Int) hD3; omega
      obtain ⟨r1, hr1⟩ : ∃ r : Nat, (n : Int) / 8 = (r : Int) := ⟨n / 8, by omega⟩
      obtain ⟨r2, hr2⟩ : ∃ r : Nat, (n : Int) / 16 = (r : Int) := ⟨n / 16, by omega⟩
      obtain ⟨q1, hq1⟩ : ∃ q : Bool, ((r1 : Int) % 2 == 0) = q := ⟨_, rfl⟩
      obtain ⟨q2, hq2⟩ : ∃ q : Bool, ((r2 : Int) % 5 == 0) = q := ⟨_, rfl⟩
      obtain ⟨y, hy1, hy2, hy3, hy4⟩ : ∃ y : Nat, f ≤ y ∧ y ≤ s.size ∧ (q1 = false → y = x) ∧ (q1 = true → y = x2) := by
        cases q1
        · exact ⟨x, hxf, hxs, fun _ => rfl, (fun h => by cases h)⟩
        · exact ⟨x2, hxf2, hxs2, (fun h => by cases h), fun _ => rfl⟩
      obtain ⟨E, hE⟩ : ∃ D : Nat, min ((s.size : Int) - (y : Int)) 7 + 1 = (D : Int) := ⟨(min ((s.size : Int) - (y : Int)) 7 + 1).toNat, by omega⟩
      have hE1 : (1 : Int) ≤ (E : Int) := by omega
      have hE2 : (E : Int) ≤ 1000000 := by omega
      have hE3 : ∀ k : Nat, (k : Int) < (E : Int) → y + k ≤ s.size ∧ k ≤ 7 := fun k hk => by omega
      have HE3 := Lib.hid hE3
      clear hxf hxs hxf2 hxs2 hE3
      cases q1
      case' false =>
        have hyx := hy3 rfl
        clear hy3 hy4
        subst hyx
      case' true =>
        have hyx := hy4 rfl
        clear hy3 hy4
        subst hyx
      all_goals
        go_wp2_with fail
        refine (HP.out _ _ (by omega) (by omega) hE1 hE2 _ HR.out).mono ?_
        rintro e w' ⟨k, hk, rfl, rfl⟩
        obtain ⟨hk1, hk2⟩ := HE3.out k hk
        obtain ⟨z, hz⟩ : ∃ z : Nat, (y : Int) + (k : Int) = (z : Int) := ⟨y + k, by omega⟩
        have hz1 : z ≤ s.size := by omega
        have hz2 : y ≤ z := by omega
        have hz3 : z ≤ y + 7 := by omega
        go_wp2_with fail
        refine (HP.out _ _ (by omega) (by omega) (by omega) (by omega) _ HR.out).mono ?_
        rintro e w' ⟨m, hm, rfl, rfl⟩
        obtain ⟨t, ct, htl⟩ := HBLK.out m (by omega) _ HR.out
        have hzz : (y : Int) ≤ (z : Int) := by omega
        have hze : (z : Int) ≤ (s.size : Int) := by omega
        have hxl : (s.extract y z).size ≤ 7 := by rw [ByteArray.size_extract]; omega
        clear hx hD hD1 hx2 hD2 hD3 hE hE1 hE2
        have hes : es.length ≤ 5 := by rw [HL.out]; exact hi
        obtain ⟨T, hT1, hT2, hT3⟩ : ∃ T : ByteArray, T.size ≤ 7 ∧ (q2 = false → T = t) ∧ (q2 = true → T = s.extract y z) := by
          cases q2
          · exact ⟨t, by omega, fun _ => rfl, (fun h => by cases h)⟩
          · exact ⟨s.extract y z, hxl, (fun h => by cases h), fun _ => rfl⟩
        have HV2 : Hid (vE (s.size : Int) 0 (es ++ [(⟨(y : Int), (z : Int), T⟩ : Er)]) = 0 ∧ lastT 0 (es ++ [(⟨(y : Int), (z : Int), T⟩ : Er)]) = (z : Int)) :=
          ⟨vE_snoc HV.out.1 (by show (0 : Int) ≤ (y : Int); omega) (by rw [HV.out.2]; show (f : Int) ≤ (y : Int); omega) (by show (y : Int) ≤ (z : Int); omega) (by show (z : Int) ≤ (s.size : Int); omega), lastT_snoc _ _ _⟩
        have HX2 : Hid (∀ x ∈ es ++ [(⟨(y : Int), (z : Int), T⟩ : Er)], x.x.size ≤ 7) := Lib.hid (by
          intro x hx
          rcases List.mem_append.1 hx with h | h
          · exact HX.out x h
          · rw [List.mem_singleton] at h; subst h; exact hT1)
        have HL2 : Hid ((es ++ [(⟨(y : Int), (z : Int), T⟩ : Er)]).length = i + 1) := Lib.hid (by rw [List.length_append, HL.out]; rfl)
        have HRV : Hid (rv (es ++ [(⟨(y : Int), (z : Int), T⟩ : Er)]) = rv es ++ [.int .i64 (y : Int), .int .i64 (z : Int), .string T]) := rv_snoc _ _
        have HT1 := Lib.hid hT1
        clear hT1 hxl
        cases q2
        case' false =>
          have hTT := hT2 rfl
          clear hT2 hT3
          subst hTT
        case' true =>
          have hTT : s.extract y z = T := (hT3 rfl).symm
          clear hT2 hT3
        all_goals
          go_wp2_with (at_builtin; (refine wpList_append_own _ rfl _ _ 22 rfl (B + 1) 32 i3 (.agg #[.int .i64 0, .int .i64 0, .string ⟨#[]⟩]) 3 32 Try.underlying22 hi3 jy0 jy1 jy2 rfl (by decide) u8 es.length (rv es) rfl (HO.out.alloc _) ⟨w'.heap.size, 0, none⟩ 1 1 [.int .i64 (y : Int), .int .i64 (z : Int), .string T] rfl rfl (cells_news _ [.int .i64 (y : Int), .int .i64 (z : Int), .string T] _) (fun x hx => by simp at hx; rcases hx with rfl | rfl | rfl <;> rfl) (by unfold maxLen; omega) (by omega) (by simp; omega) ?_; intro v' w6 hown6 hgrow6 _))
          have HO6 : Hid (w6.ownsRow (B + 1) 32 3 v' (es ++ [(⟨(y : Int), (z : Int), T⟩ : Er)]).length (rv (es ++ [(⟨(y : Int), (z : Int), T⟩ : Er)]))) := by rw [HRV.out, List.length_append]; exact hown6
          have H6 : Hid (Below (B + 1) W1 w6) := HR.out.trans (((Below.refl _ _).alloc hcz _).grown hgrow6 (by simp; omega) (fun g eg => (HO.out.lt g eg).1))
          clear hown6 hgrow6
          go_wp2
          go_roundw
          case rel => exact ⟨i + 1, z, _, by omega, hz1, rfl, by go_num, HL2, HV2, HX2, HO6, H6⟩
          case measure => simp [intOf]; omega
    · go_wp2
      go_ret
      refine ⟨es, _, rfl, by rw [HL.out]; exact hi, ?_, fun x hx => ⟨HX.out x hx, trivial⟩, ?_, ?_⟩
      · unfold vErr
        rw [if_neg (by rw [HL.out]; omega)]
        exact HV.out.1
      · have h1 := HO.out
        rw [HB.out]
        exact own_base h1 (by omega)
      · rw [HB.out]
        exact HB1.out.trans (HR.out.mono (by omega))

end Go.Proofs.Ytfhpllcdlejfjaa
