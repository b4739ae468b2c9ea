/- The contracts of the program's Units, Lines, skip and begins. Conditions: texts of at most 100000 bytes. -/
import Derived.Test.YthjedecfpedjbaaPDec
import Derived.Test.YthjedecfpedjbaaPBord
import Derived.Lib.OthersKept
namespace Go.Proofs.Ythjedecfpedjbaa
open Go.RowKit Go.Shelf Go.Lib
set_option linter.unusedVariables false

/-- The iterator of a range over s stands in block k at offset pos; what lay lies as it lay. -/
def ItS (s : ByteArray) (k pos : Nat) (w wr : World) : Prop := wr.heap[k]? = some (.stringIter s pos) ∧ Below k w wr
theorem ItS.next {s : ByteArray} {k pos pos' : Nat} {w wr : World} (h : ItS s k pos w wr) : ItS s k pos' w (wr.iterAt k s pos') := ⟨iterAt_heap wr k s pos pos' h.1, below_iterAt h.2 (Nat.le_refl _) _ _⟩
/-- The offset at which an iterator stands. -/
def posOf (w : World) (k : Nat) : Nat := w.iterPos k
theorem posOf_of {s : ByteArray} {k pos : Nat} {wr : World} (h : wr.heap[k]? = some (.stringIter s pos)) : posOf wr k = pos := by unfold posOf World.iterPos; rw [h]
theorem ItS.posOf {s : ByteArray} {k pos : Nat} {w wr : World} (h : ItS s k pos w wr) : posOf wr k = pos := posOf_of h.1

/-- The next character. -/
theorem chr_at (s : ByteArray) (i : Nat) (hlt : i < s.size) : ∃ r b u, Utf8.decode s i = (r, b) ∧ chr ((sb s).drop i) = (b, u) ∧ (65536 ≤ r ↔ u = 2) ∧ (r = 10 ↔ ab (sb s) i = 10) ∧ r ≤ 1114111 ∧ 1 ≤ b ∧ i + b ≤ s.size ∧ 1 ≤ u ∧ u ≤ 2 ∧ (sb s).drop i ≠ [] ∧ unis ((sb s).drop i) = u + unis ((sb s).drop (i + b)) := by
  obtain ⟨d1, d2, d3, d4⟩ := decode_chr s i hlt
  obtain ⟨⟨b, u⟩, hc⟩ : ∃ x, chr ((sb s).drop i) = x := ⟨_, rfl⟩
  have hne : (sb s).drop i ≠ [] := by intro h; have := congrArg List.length h; rw [List.length_drop, sb_len] at this; simp at this; omega
  have hle := chr_le hne
  have hpos := chr_pos ((sb s).drop i)
  have hun := unis_cons hne
  rw [List.drop_drop] at hun
  rw [drop_zero_ab] at d3
  rw [hc] at hle hpos hun d1 d2
  rw [List.length_drop, sb_len] at hle
  obtain ⟨⟨r, m⟩, hdd⟩ : ∃ x, Utf8.decode s i = x := ⟨_, rfl⟩
  rw [hdd] at d1 d2 d3 d4
  simp only at hle hpos hun d1 d2 d3 d4
  subst d1
  exact ⟨r, m, u, hdd, hc, d2, d3, d4, hpos.1, by omega, hpos.2.2.1, hpos.2.2.2, hne, hun⟩

set_option maxRecDepth 100000 in
set_option maxHeartbeats 1000000 in
theorem unitsof_any (r : Nat) (w : World) :
    Calls Try.prog 37 #[.int .i32 (r : Int)] w fun e w' => e = .returned (.int .i64 (if 65536 ≤ r then 2 else 1)) ∧ w = w' := by
  by_cases h : 65536 ≤ r
  · rw [if_pos h]
    have h2 : (65536 : Int) ≤ (r : Int) := by omega
    go_enter Try.func37, Try.ntmps37
    go_wp2
    go_ret
    exact ⟨rfl, rfl⟩
  · rw [if_neg h]
    have h2 : ¬ (65536 : Int) ≤ (r : Int) := by omega
    go_enter Try.func37, Try.ntmps37
    go_wp2
    go_ret
    exact ⟨rfl, rfl⟩
theorem unitsof_u {r u : Nat} (h : 65536 ≤ r ↔ u = 2) (h1 : 1 ≤ u) (h2 : u ≤ 2) (w : World) :
    Calls Try.prog 37 #[.int .i32 (r : Int)] w fun e w' => e = .returned (.int .i64 (u : Int)) ∧ w = w' := by
  have := unitsof_any r w
  rwa [show (if 65536 ≤ r then (2 : Int) else 1) = (u : Int) by split <;> omega] at this

set_option maxRecDepth 100000 in
set_option maxHeartbeats 2000000 in
theorem punits_any (s : ByteArray) (w : World) (hs : s.size ≤ 100000) :
    Calls Try.prog 14 #[.string s] w fun e w' => e = .returned (.int .i64 (unis (sb s) : Int)) ∧ Below w.heap.size w w' := by
  obtain ⟨U, hU⟩ : ∃ U, unis (sb s) = U := ⟨_, rfl⟩
  have hUb : U ≤ 200000 := by have := unis_le (sb s); rw [sb_len] at this; omega
  rw [hU]
  obtain ⟨K, hK⟩ : ∃ K, w.heap.size = K := ⟨_, rfl⟩
  have h0 : Hid (ItS s K 0 w (w.iter s 0)) := by rw [← hK]; exact ⟨World.iter_heap w s 0, (Below.refl _ _).alloc (Nat.le_refl _) _⟩
  have HU := Lib.hid hU; have HK := Lib.hid hK
  clear hU hK
  go_enter Try.func14, Try.ntmps14
  go_wp2
  rw [HK.out]
  go_loopw [3] (fun t wr => ∃ (n i : Nat), i ≤ s.size ∧ n ≤ U ∧ t = .int .i64 (n : Int) ∧ Hid (n + unis ((sb s).drop i) = U) ∧ Hid (ItS s K i w wr)) (fun _ wr => s.size - posOf wr K)
  case atStart => exact ⟨0, 0, by omega, by omega, rfl, Lib.hid (by rw [List.drop_zero, Nat.zero_add]; exact HU.out), h0⟩
  case round =>
    obtain ⟨n, i, hi, hnU, rfl, HI, HIT⟩ := hrel
    have hpo := HIT.out.posOf
    by_cases hlt : i < s.size
    · have hnx := fun ty => run_next_any_at (P := Try.prog) wr K s i ty HIT.out.1 hlt
      obtain ⟨r, b, u, hdd, _, d2, _, _, hb1, hb2, hu1, hu2, _, hun⟩ := chr_at s i hlt
      have hI := HI.out
      rw [hun] at hI
      have HUN : Hid (n + u + unis ((sb s).drop (i + b)) = U) := Lib.hid (by omega)
      have hnu : n + u ≤ U := by omega
      rw [hdd] at hnx
      simp only at hnx
      have CW := Lib.hid (fun W => unitsof_u d2 hu1 hu2 W)
      clear hdd hun hI d2
      go_wp2_with fail
      refine (CW.out _).mono ?_
      rintro e w' ⟨rfl, rfl⟩
      have H2 := Lib.hid (HIT.out.next (pos' := i + b))
      have hp2 := H2.out.posOf
      go_wp2
      go_roundw
      case rel => exact ⟨n + u, i + b, by omega, by omega, by go_num, HUN, H2⟩
      case measure => rw [hp2, hpo]; omega
    · have hnx := fun ty => run_next_end_at (P := Try.prog) wr K s i ty HIT.out.1 hlt
      have hfin : n = U := by
        have := HI.out
        rw [List.drop_eq_nil_of_le (by rw [sb_len]; omega), unis_nil] at this; omega
      subst hfin
      go_wp2
      go_ret
      exact ⟨rfl, by rw [HK.out]; exact HIT.out.2⟩

theorem lnsF_skip {Z : List Int} {i : Nat} (n : Nat) (hn : i + n ≤ Z.length) (h : ∀ j, j < n → ab Z (i + j) ≠ 10) : lnsF i (Z.drop i) = lnsF (i + n) (Z.drop (i + n)) := by
  induction n with
  | zero => rfl
  | succ n ih => rw [ih (by omega) (fun j hj => h j (by omega)), drop_ab (Z := Z) (i := i + n) (by omega), lnsF, if_neg (h n (by omega))]; rfl
/-- The iterator and a row of the call's own. -/
def LnS (s : ByteArray) (K P i : Nat) (w wr : World) (ov : Value) (pre : List Int) : Prop := wr.heap[K]? = some (.stringIter s i) ∧ P ≤ K ∧ OutZ P w wr ov pre
theorem own_ne {wr : World} {e : TypeId} {P n K : Nat} {ov : Value} {xs : List Value} {s : ByteArray} {i : Nat} (h : wr.ownsRow P e 1 ov n xs) (hk : wr.heap[K]? = some (.stringIter s i)) : ∀ g, ov.ownBlock = some g → g ≠ K := by
  intro g hg e
  rcases h.2 with ⟨rfl, _⟩ | ⟨g', cap, cur, rfl, _, hgg, _⟩
  · simp [Value.ownBlock] at hg
  · simp [Value.ownBlock] at hg
    rw [hg, e, hk] at hgg
    cases hgg
theorem LnS.next {s : ByteArray} {K P i i' : Nat} {w wr : World} {ov : Value} {pre : List Int} (h : LnS s K P i w wr ov pre) : LnS s K P i' w (wr.iterAt K s i') ov pre := by
  obtain ⟨h1, h2, h3, h4⟩ := h
  exact ⟨iterAt_heap wr K s i i' h1, h2, own_same h3 (fun g hg => iterAt_other _ _ _ _ _ (own_ne h3 h1 g hg)), below_iterAt h4 h2 _ _⟩
theorem LnS.push {s : ByteArray} {K P i k : Nat} {w wr w3 : World} {ov v' : Value} {pre E : List Int} {tmp : Obj} (h : LnS s K P i w wr ov pre) (hown3 : w3.ownsRow P 3 1 v' k (pre.map (Value.int .i64) ++ E.map (Value.int .i64))) (hg : (wr.alloc tmp).grownBy w3 ov.ownBlock) : LnS s K P i w w3 v' (pre ++ E) := by
  obtain ⟨h1, h2, h3⟩ := h
  have hK : K < wr.heap.size := (Array.getElem?_eq_some_iff.1 h1).1
  refine ⟨?_, h2, outz_step1 h3 (by omega) hown3 hg⟩
  rw [hg.block K (by simp; omega) (fun e => own_ne h3.1 h1 K e.symm rfl), Below.heap_alloc wr _ K hK]
  exact h1

set_option maxRecDepth 100000 in
set_option maxHeartbeats 1000000 in
theorem plines_any (s : ByteArray) (w : World) (hs : s.size ≤ 100000) :
    Calls Try.prog 17 #[.string s] w (NewRow .i64 3 w (lns (sb s))) := by
  obtain ⟨i3, hi3, hy0, hy1, hy2⟩ := info_parts info3
  obtain ⟨P, hP⟩ : ∃ P, w.heap.size = P := ⟨_, rfl⟩
  obtain ⟨Q, hQ⟩ : ∃ Q, lns (sb s) = Q := ⟨_, rfl⟩
  have hQl : Q.length ≤ 100001 := by have := lnsF_len 0 (sb s); rw [sb_len] at this; rw [← hQ]; simp [lns]; omega
  have hq0 : Q = [0] ++ lnsF 0 ((sb s).drop 0) := by rw [← hQ, List.drop_zero]; rfl
  obtain ⟨W1, hW1⟩ : ∃ W, w.alloc (.cells #[.int .i64 0] 3) = W := ⟨_, rfl⟩
  have hs1 : W1.heap.size = P + 1 := by rw [← hW1, ← hP]; simp
  rw [hQ]
  have H0 : Hid (LnS s (P + 1) P 0 w (W1.iter s 0) (.slice (some ⟨P, 0, none⟩) 1 1) [0]) := by
    have h1 : W1.ownsRow P 3 1 (.slice (some ⟨P, 0, none⟩) 1 1) 1 ([0].map (Value.int .i64)) := by rw [← hW1, ← hP]; exact own_litZ w 0
    have h2 : Below P w W1 := by rw [← hW1, ← hP]; exact (Below.refl _ _).alloc (Nat.le_refl _) _
    refine ⟨by rw [← hs1]; exact World.iter_heap W1 s 0, by omega, own_same h1 (fun g hg => Below.heap_alloc W1 _ g (h1.lt g hg).2), h2.alloc (by omega) _⟩
  have HP := Lib.hid hP; have HQ := Lib.hid hQ; have HQ0 := Lib.hid hq0; have HW := Lib.hid hW1; have HS1 := Lib.hid hs1
  clear hP hQ hq0 hW1 hs1
  go_enter Try.func17, Try.ntmps17
  go_wp2
  rw [show w.alloc (.cells #[.int .i64 0] 3) = W1 from HW.out, HP.out]
  go_loopw [3] (fun o wr => ∃ (i : Nat) (ov : Value) (pre : List Int), i ≤ s.size ∧ o = ov ∧ Hid (Q = pre ++ lnsF i ((sb s).drop i)) ∧ Hid (LnS s (P + 1) P i w wr ov pre)) (fun _ wr => s.size - posOf wr (P + 1))
  case atStart => exact ⟨0, _, [0], by omega, rfl, HQ0, H0⟩
  case round =>
    obtain ⟨i, ov, pre, hi, rfl, HI, HR⟩ := hrel
    have hpo := posOf_of HR.out.1
    by_cases hlt : i < s.size
    · have hnx := fun ty => run_next_any_at (P := Try.prog) wr (P + 1) s i ty HR.out.1 hlt
      obtain ⟨r, b, u, hdd, hc, _, d3, _, hb1, hb2, _, _, _, _⟩ := chr_at s i hlt
      have HRb := Lib.hid (HR.out.next (i' := i + b))
      have hp2 := posOf_of HRb.out.1
      rw [hdd] at hnx
      simp only at hnx
      have hI := HI.out
      by_cases h10 : r = 10
      · have ha := d3.1 h10
        have hb1' : b = 1 := by have := chr_ascii (Z := (sb s).drop i) (by rw [drop_zero_ab, ha]; decide); rw [hc] at this; exact congrArg Prod.fst this
        subst hb1' h10
        have HI2 : Hid (Q = (pre ++ [((i + 1 : Nat) : Int)]) ++ lnsF (i + 1) ((sb s).drop (i + 1))) := Lib.hid (by rw [hI, drop_ab (Z := sb s) (i := i) (by rw [sb_len]; exact hlt), lnsF, if_pos ha]; simp)
        have hown := HRb.out.2.2.1
        obtain ⟨N, hN⟩ : ∃ N, pre.length = N := ⟨_, rfl⟩
        rw [hN] at hown
        have hNl : N ≤ 100001 := by have h1 := congrArg List.length HI.out; rw [List.length_append] at h1; omega
        have HO := Lib.hid hown
        obtain ⟨V, hV⟩ : ∃ V, wr.iterAt (P + 1) s (i + 1) = V := ⟨_, rfl⟩
        rw [hV] at hnx HO HRb
        have hPV : P ≤ V.heap.size := by have := HRb.out.2.2.2.size; have := HP.out; omega
        clear hdd hc d3 hI ha hown hN hV hp2
        go_wp2_with (at_builtin; refine wpList_append_own _ rfl _ _ 22 rfl P 3 i3 (.int .i64 0) 1 8 Try.underlying22 hi3 hy0 hy1 hy2 rfl (by decide) u3 N (pre.map (Value.int .i64)) rfl (HO.out.alloc _) ⟨V.heap.size, 0, none⟩ 1 1 [.int .i64 ((i : Int) + 1)] rfl rfl (cell_one_new _ _ _) (fun x hx => by simp at hx; subst hx; rfl) (by unfold maxLen; omega) (by omega) (by simp; omega) ?_; intro v' w3 hown3 hgrow3 _; obtain ⟨A3, k3, rfl⟩ := own_slice hown3)
        have H3 : Hid (LnS s (P + 1) P (i + 1) w w3 (.slice A3 (N + 1) k3) (pre ++ [((i + 1 : Nat) : Int)])) := LnS.push (E := [((i + 1 : Nat) : Int)]) HRb.out (by push_cast; exact hown3) hgrow3
        have hp3 := posOf_of H3.out.1
        clear hown3 hgrow3
        go_wp2
        go_roundw
        case rel => exact ⟨i + 1, _, _, by omega, rfl, HI2, H3⟩
        case measure => rw [hp3, hpo]; omega
      · have hb10 : ((r : Int) == 10) = false := by simp; omega
        have hn10 : ab (sb s) i ≠ 10 := fun e => h10 (d3.2 e)
        have HI2 : Hid (Q = pre ++ lnsF (i + b) ((sb s).drop (i + b))) := Lib.hid (by
          rw [← lnsF_skip b (by rw [sb_len]; omega) (fun j hj => chr_no10 hn10 j (by rw [hc]; exact hj))]; exact hI)
        clear hdd hc d3 hI h10 hn10
        go_wp2
        go_roundw
        case rel => exact ⟨i + b, _, _, by omega, rfl, HI2, HRb⟩
        case measure => rw [hp2, hpo]; omega
    · have hnx := fun ty => run_next_end_at (P := Try.prog) wr (P + 1) s i ty HR.out.1 hlt
      have hfin : Q = pre := by
        have := HI.out
        rwa [List.drop_eq_nil_of_le (by rw [sb_len]; omega), lnsF, List.append_nil] at this
      subst hfin
      go_wp2
      go_ret
      exact ⟨u3, rfl, by rw [HP.out]; exact HR.out.2.2.1, by rw [HP.out]; exact HR.out.2.2.2⟩

/-- What skip returns: the bytes before unit x, and whether whole characters lead there. -/
def SkipSpec (Z : List Int) (x : Nat) (n : Nat) (b : Bool) : Prop := n ≤ Z.length ∧ (b = true → Bord Z n x) ∧ (b = false → ¬ ∃ j, Bord Z j x)
set_option maxRecDepth 100000 in
set_option maxHeartbeats 2000000 in
theorem skip_any (s : ByteArray) (x : Nat) (w : World) (hs : s.size ≤ 100000) (hx : x ≤ 9223372036854775807) :
    Calls Try.prog 40 #[.string s, .int .i64 (x : Int)] w fun e w' => ∃ (n : Nat) (b : Bool), e = .returned (.tuple #[.int .i64 (n : Int), .bool b]) ∧ SkipSpec (sb s) x n b ∧ Below w.heap.size w w' := by
  obtain ⟨K, hK⟩ : ∃ K, w.heap.size = K := ⟨_, rfl⟩
  have h0 : Hid (ItS s K 0 w (w.iter s 0)) := by rw [← hK]; exact ⟨World.iter_heap w s 0, (Below.refl _ _).alloc (Nat.le_refl _) _⟩
  have HK := Lib.hid hK
  clear hK
  go_enter Try.func40, Try.ntmps40
  go_wp2
  rw [HK.out]
  go_loopw [1] (fun t wr => ∃ (n i : Nat), i ≤ s.size ∧ t = .int .i64 ((x : Int) - (n : Int)) ∧ n ≤ x + 1 ∧ n ≤ 200000 ∧ Hid (Bord (sb s) i n) ∧ Hid (∀ j m, Bord (sb s) j m → j < i → m < x) ∧ Hid (ItS s K i w wr)) (fun _ wr => s.size - posOf wr K)
  case atStart => exact ⟨0, 0, by omega, by simp, by omega, by omega, Bord.zero _, Lib.hid (fun j m _ h => by omega), h0⟩
  case round =>
    obtain ⟨n, i, hi, rfl, hn, hnb, HB, HL, HIT⟩ := hrel
    have hpo := HIT.out.posOf
    by_cases hlt : i < s.size
    · have hnx := fun ty => run_next_any_at (P := Try.prog) wr K s i ty HIT.out.1 hlt
      obtain ⟨r, b, u, hdd, hc, d2, _, _, hb1, hb2, hu1, hu2, hne, _⟩ := chr_at s i hlt
      have H2 := Lib.hid (HIT.out.next (pos' := i + b))
      have hp2 := H2.out.posOf
      rw [hdd] at hnx
      simp only at hnx
      have hsn := HB.out.snoc hne
      rw [hc] at hsn
      simp only at hsn
      have hub : n + u ≤ 200000 := by
        have h1 := hsn.unis_take
        have h2 := unis_le ((sb s).take (i + b))
        rw [List.length_take, sb_len] at h2
        omega
      have hnx3 : ∀ j m, Bord (sb s) j m → i < j → i + b ≤ j := by
        intro j m hj h
        have := HB.out.next hj h
        rwa [hc] at this
      have HNX := Lib.hid hnx3
      have HSN := Lib.hid hsn
      have CW := Lib.hid (fun W => unitsof_u d2 hu1 hu2 W)
      clear hdd hc hne d2 hsn hnx3
      have hret : ∀ b', (b' = decide (n = x)) → ¬ n < x → SkipSpec (sb s) x i b' := by
        rintro b' rfl hge
        refine ⟨by rw [sb_len]; exact hi, fun h => ?_, fun h => ?_⟩
        · have : n = x := of_decide_eq_true h
          rw [← this]; exact HB.out
        · have hne : n ≠ x := of_decide_eq_false h
          rintro ⟨j, hj⟩
          rcases Nat.lt_trichotomy j i with h | rfl | h
          · have := HL.out j x hj h; omega
          · exact hne (HB.out.det hj)
          · have := HB.out.lt hj h; omega
      have HRET := Lib.hid hret
      clear hret
      rcases Nat.lt_trichotomy n x with hnx2 | hnx2 | hnx2
      · have g1 : ¬ (x : Int) - (n : Int) ≤ 0 := by omega
        have HL2 : Hid (∀ j m, Bord (sb s) j m → j < i + b → m < x) := by
          intro j m hj hlt2
          rcases Nat.lt_trichotomy j i with h | rfl | h
          · exact HL.out j m hj h
          · rw [hj.det HB.out]; exact hnx2
          · have := HNX.out j m hj h; omega
        go_wp2_with fail
        refine (CW.out _).mono ?_
        rintro e w' ⟨rfl, rfl⟩
        go_wp2
        go_roundw
        case rel => exact ⟨n + u, i + b, by omega, by go_num, by omega, by omega, HSN, HL2, H2⟩
        case measure => rw [hp2, hpo]; omega
      · have g1 : (x : Int) - (n : Int) ≤ 0 := by omega
        have hq : ((x : Int) - (n : Int) == 0) = true := by simp; omega
        have HS := Lib.hid (HRET.out true (by rw [decide_eq_true hnx2]) (by omega))
        go_wp2
        go_ret2
        exact ⟨i, true, rfl, HS.out, by rw [HK.out]; exact H2.out.2⟩
      · have g1 : (x : Int) - (n : Int) ≤ 0 := by omega
        have hq : ((x : Int) - (n : Int) == 0) = false := by simp; omega
        have HS := Lib.hid (HRET.out false (by rw [decide_eq_false (by omega)]) (by omega))
        go_wp2
        go_ret2
        exact ⟨i, false, rfl, HS.out, by rw [HK.out]; exact H2.out.2⟩
    · have hnx := fun ty => run_next_end_at (P := Try.prog) wr K s i ty HIT.out.1 hlt
      have hie : i = s.size := by omega
      subst hie
      have hspec : SkipSpec (sb s) x s.size (decide (n = x)) := by
        refine ⟨by rw [sb_len]; exact Nat.le_refl _, fun h => ?_, fun h => ?_⟩
        · have : n = x := of_decide_eq_true h
          rw [← this]; exact HB.out
        · have hne : n ≠ x := of_decide_eq_false h
          rintro ⟨j, hj⟩
          rcases Nat.lt_trichotomy j s.size with h | rfl | h
          · have := HL.out j x hj h; omega
          · exact hne (HB.out.det hj)
          · have := hj.le; rw [sb_len] at this; omega
      have HS := Lib.hid hspec
      have hq : ((x : Int) - (n : Int) == 0) = decide (n = x) := by
        by_cases h : n = x
        · rw [decide_eq_true h]; simp; omega
        · rw [decide_eq_false h]; simp; omega
      clear hspec
      go_wp2
      go_ret2
      exact ⟨s.size, decide (n = x), by first | rfl | rw [hq], HS.out, by rw [HK.out]; exact HIT.out.2⟩

set_option maxRecDepth 100000 in
set_option maxHeartbeats 2000000 in
theorem begins_any (s : ByteArray) (x : Nat) (w : World) (hs : s.size ≤ 100000) (hx : x ≤ s.size) (r : Bool) (hr : r = decide ((x : Int) ∈ bordI (sb s))) :
    Calls Try.prog 41 #[.string s, .int .i64 (x : Int)] w fun e w' => e = .returned (.bool r) ∧ Below w.heap.size w w' := by
  obtain ⟨K, hK⟩ : ∃ K, w.heap.size = K := ⟨_, rfl⟩
  have h0 : Hid (ItS s K 0 w (w.iter s 0)) := by rw [← hK]; exact ⟨World.iter_heap w s 0, (Below.refl _ _).alloc (Nat.le_refl _) _⟩
  have HK := Lib.hid hK
  have HR := Lib.hid hr
  clear hK hr
  go_enter Try.func41, Try.ntmps41
  go_wp2
  rw [HK.out]
  go_loopw [] (fun wr => ∃ (n i : Nat), i ≤ s.size ∧ Hid (Bord (sb s) i n) ∧ Hid (∀ j m, Bord (sb s) j m → j < i → j ≠ x) ∧ Hid (ItS s K i w wr)) (fun wr => s.size - posOf wr K)
  case atStart => exact ⟨0, 0, by omega, Bord.zero _, Lib.hid (fun j m _ h => by omega), h0⟩
  case round =>
    obtain ⟨n, i, hi, HB, HL, HIT⟩ := hrel
    have hpo := HIT.out.posOf
    by_cases hlt : i < s.size
    · have hnx := fun ty => run_next_any_at (P := Try.prog) wr K s i ty HIT.out.1 hlt
      obtain ⟨c, b, u, hdd, hc, d2, _, _, hb1, hb2, hu1, hu2, hne, _⟩ := chr_at s i hlt
      have H2 := Lib.hid (HIT.out.next (pos' := i + b))
      have hp2 := H2.out.posOf
      rw [hdd] at hnx
      simp only at hnx
      have hsn := HB.out.snoc hne
      rw [hc] at hsn
      simp only at hsn
      have hnx3 : ∀ j m, Bord (sb s) j m → i < j → i + b ≤ j := by
        intro j m hj h
        have := HB.out.next hj h
        rwa [hc] at this
      have HNX := Lib.hid hnx3
      have HSN := Lib.hid hsn
      clear hdd hc hne d2 hsn hnx3
      by_cases hix : i = x
      · have hq : ((i : Int) == (x : Int)) = true := by simp; omega
        have hrt : r = true := by
          rw [HR.out]
          exact decide_eq_true (mem_bordI.2 ⟨n, by rw [← hix]; exact HB.out⟩)
        have HRT := Lib.hid hrt
        clear hrt hix
        go_wp2
        go_ret
        exact ⟨by rw [HRT.out]; rfl, by rw [HK.out]; exact H2.out.2⟩
      · have hq : ((i : Int) == (x : Int)) = false := by simp; omega
        have HL2 : Hid (∀ j m, Bord (sb s) j m → j < i + b → j ≠ x) := by
          intro j m hj hlt2
          rcases Nat.lt_trichotomy j i with h | rfl | h
          · exact HL.out j m hj h
          · exact hix
          · have := HNX.out j m hj h; omega
        go_wp2
        go_roundw
        case rel => exact ⟨n + u, i + b, by omega, HSN, HL2, H2⟩
        case measure => rw [hp2, hpo]; omega
    · have hnx := fun ty => run_next_end_at (P := Try.prog) wr K s i ty HIT.out.1 hlt
      have hie : i = s.size := by omega
      subst hie
      have hq : ((x : Int) == (s.size : Int)) = r := by
        rw [HR.out]
        by_cases h : x = s.size
        · rw [decide_eq_true (mem_bordI.2 ⟨n, by rw [h]; exact HB.out⟩)]; simp; omega
        · rw [decide_eq_false (fun h2 => by obtain ⟨m, hm⟩ := mem_bordI.1 h2; exact HL.out x m hm (by omega) rfl)]; simp; omega
      have HQ := Lib.hid hq
      clear hq
      go_wp2
      go_ret
      exact ⟨by rw [HQ.out]; rfl, by rw [HK.out]; exact HIT.out.2⟩

end Go.Proofs.Ythjedecfpedjbaa
