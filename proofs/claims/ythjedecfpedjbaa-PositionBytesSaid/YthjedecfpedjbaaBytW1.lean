/- The walk of PositionBytes, where the list of edits is nil. Condition: that. -/
import Derived.Test.YthjedecfpedjbaaPLives
import Derived.Test.YthjedecfpedjbaaPText
import Derived.Test.YthjedecfpedjbaaPEd8
namespace Go.Proofs.Ythjedecfpedjbaa
open Go.RowKit Go.Shelf
set_option linter.unusedVariables false

set_option maxRecDepth 100000 in
set_option maxHeartbeats 4000000 in
theorem walkB1 (a a' : Option Addr) (cap n cap' : Nat) (ls : List Int) (es : Nat → PE) (long : Bool) (w : World) (h : Sli .i64 w a cap ls) (hi : ∀ n ∈ ls, -9223372036854775808 ≤ n ∧ n ≤ 9223372036854775807) (hn : n ≤ cap') (hcap' : cap' ≤ 9223372036854775807) (hnil : a' = none → cap' = 0) (hc : PCells w.heap.size w a' n es) (hfit : ∀ k, k < n → (es k).fit) (hw : a' = none) :
    Calls Try.prog 6 #[.slice a ls.length cap, .slice a' n cap', .bool long] w fun e w' => e = .returned (.bool true) ∧ Below w.heap.size w w' := by
  obtain ⟨i3, hi3, hy0, hy1, hy2⟩ := info_parts infoP
  obtain ⟨B, hB⟩ : ∃ B, w.heap.size = B := ⟨_, rfl⟩
  have c1 := rtext_any a cap ls w h hi
  rw [hB] at c1 hc
  have C1 := Lib.hid c1; have HB := Lib.hid hB; have HC := Lib.hid hc; have HF := Lib.hid hfit
  clear c1 h hi hB hc hfit
  obtain ⟨m, hm⟩ : ∃ m, min n 5 = m := ⟨_, rfl⟩
  have hm5 : m ≤ 5 := by omega
  have hmn : m ≤ n := by omega
  obtain ⟨ee, hee⟩ : ∃ ee : Nat → PE, (fun k => if k < m then es k else es 0) = ee := ⟨_, rfl⟩
  have hee0 : ∀ k, k < m → ee k = es k := by intro k hk; rw [← hee]; simp only [if_pos hk]
  have hee1 : ∀ k, m ≤ k → 0 < m → ee k = ee 0 := by intro k hk h0; rw [← hee]; simp only [if_neg (show ¬ k < m by omega), if_pos h0]
  have heef : ∀ k, 0 < m → (ee k).fit := by
    intro k h0
    by_cases hk : k < m
    · rw [hee0 k hk]; exact HF.out k (by omega)
    · rw [hee1 k (by omega) h0, hee0 0 h0]; exact HF.out 0 (by omega)
  have HE0 := Lib.hid hee0; have HE1 := Lib.hid hee1; have HEF := Lib.hid heef
  clear hee hee0 hee1 heef
  have hways : (a' = none ∧ n = 0 ∧ cap' = 0) ∨ ∃ ad, a' = some ad ∧ ∀ W, Below B w W → ∀ j u, (pvals es m)[j]? = some u → W.cell? (ad.add j) = some u := by
    cases ha : a' with
    | none => have := hnil ha; exact .inl ⟨rfl, by omega, this⟩
    | some ad =>
      refine .inr ⟨ad, rfl, ?_⟩
      rcases HC.out with h0 | ⟨b, off, hb, hlt, hcc⟩
      · intro W _ j u hj
        have : m = 0 := by omega
        subst this
        simp [pvals] at hj
      · rw [ha] at hb
        cases hb
        intro W hW
        exact pcells_get (B := B) (fun k hk i hi => (hW.cell (p := ⟨b, off + k * 5 + i, none⟩) hlt).trans (hcc k hk i hi)) m hmn
  have hsplit : (a' = none ∧ n = 0 ∧ cap' = 0) ∨ (∃ ad, a' = some ad ∧ n ≤ 5 ∧ m = n ∧ Hid (∀ W, Below B w W → ∀ j u, (pvals es m)[j]? = some u → W.cell? (ad.add j) = some u)) ∨ (∃ ad, a' = some ad ∧ 5 < n ∧ m = 5 ∧ Hid (∀ W, Below B w W → ∀ j u, (pvals es m)[j]? = some u → W.cell? (ad.add j) = some u)) := by
    rcases hways with h | ⟨ad, h1, h2⟩
    · exact .inl h
    · by_cases h5 : n ≤ 5
      · exact .inr (.inl ⟨ad, h1, h5, by omega, h2⟩)
      · exact .inr (.inr ⟨ad, h1, by omega, by omega, h2⟩)
  clear hways hm
  go_enter Try.func6, Try.ntmps6
  go_wp2_with fail
  refine C1.out.mono ?_
  rintro e w1 ⟨S, rfl, hSl, hSw, hb1⟩
  have HB1 := Lib.hid hb1
  have z1 : B ≤ w1.heap.size := by have := hb1.size; have := HB.out; omega
  clear hSw hb1
  obtain ⟨ds, ers, hds⟩ : ∃ (ds : Nat → Ed) (ers : Nat → Int), ∀ k, EdS (sb S) (ee k) (ds k) (ers k) :=
    ⟨fun k => (ed_total (sb S) (ee k)).choose, fun k => (ed_total (sb S) (ee k)).choose_spec.choose, fun k => (ed_total (sb S) (ee k)).choose_spec.choose_spec⟩
  have HDS := Lib.hid hds
  clear hds
  rcases hsplit with ⟨rfl, rfl, rfl⟩ | ⟨ad, rfl, g1, rfl, HN⟩ | ⟨ad, rfl, g1, hm, HN⟩
  case inr.inl => cases hw
  case inr.inr => cases hw
  case' inl =>
    have hm : m = 0 := by omega
    go_wp2_with (at_builtin; refine wpList_append_own_none rfl _ _ 41 rfl B 43 i3 5 Try.underlying41 hi3 (.slice none 0 0) 0 [] rfl (World.ownsRow_nil _ _ _ _) rfl ?_)
    have HO2 : Hid (w1.ownsRow B 43 5 (.slice none 0 0) m (pvals ee m)) := by
      have h0 : ∀ q, q = 0 → w1.ownsRow B 43 5 (.slice none 0 0) q (pvals ee q) := by rintro q rfl; exact World.ownsRow_nil _ _ _ _
      exact Lib.hid (h0 m hm)
    have HB2 : Hid (Below B w w1) := HB1
    have hnl : m = 0 → Value.slice none 0 0 = Value.slice none 0 0 := fun _ => rfl
    obtain ⟨w2, rfl⟩ : ∃ w2 : World, w2 = w1 := ⟨_, rfl⟩
  all_goals
    go_loopw [8] (fun o wr => ∃ (c : Nat) (ov : Value), m ≤ c ∧ c ≤ 65 ∧ (m = 0 → c = 0) ∧ (c = 0 → o = .slice none 0 0) ∧ o = ov ∧ Hid (wr.ownsRow B 43 5 ov c (pvals ee c)) ∧ Hid (Below B w wr)) (fun o _ => 65 - lenV o)
    case atStart => exact ⟨m, _, Nat.le_refl _, by omega, fun h => h, hnl, rfl, HO2, HB2⟩
    case round =>
      obtain ⟨c, ov, hmc, hc65, hm0, hnl, rfl, HO, HR⟩ := hrel
      obtain ⟨A, cp, hov, hccp, hcp, hPC, hA⟩ := pcells_of_own HO.out
      subst hov
      have zr : B ≤ wr.heap.size := by have := HR.out.size; have := HB.out; omega
      have HPC := Lib.hid hPC
      clear hPC
      have hcases : (long = true ∧ 0 < c ∧ c < 65) ∨ (long = false ∧ 0 < c) ∨ (long = false ∧ c = 0) ∨ (long = true ∧ c = 0) ∨ (long = true ∧ c = 65) := by
        cases long <;> simp <;> omega
      rcases hcases with ⟨rfl, h0, h65⟩ | ⟨rfl, h0⟩ | ⟨rfl, hc0⟩ | ⟨rfl, hc0⟩ | ⟨rfl, hc0⟩
      case inl =>
        first
        | (exfalso; have h9 := hm0 (by assumption); omega)
        | (
            have h0' : (0 : Int) < (c : Int) := by omega
            have h65' : (c : Int) < 65 := by omega
            obtain ⟨g, rfl, hBg, hgl⟩ := hA.resolve_left (by rintro ⟨_, h, _⟩; omega)
            have hcell : ∀ i, i < 5 → wr.cell? ⟨g, i, none⟩ = (ee 0).vals[i]? := by
              intro i hi
              rcases HPC.out with h | ⟨b, off, hb, _, hx⟩
              · omega
              · cases hb
                have := hx 0 h0 i hi
                simpa using this
            have d0 : wr.cell? ⟨g, 0, none⟩ = some (.int .i64 (ee 0).l1) := hcell 0 (by omega)
            have d1 : wr.cell? ⟨g, 1, none⟩ = some (.int .i64 (ee 0).u1) := hcell 1 (by omega)
            have d2 : wr.cell? ⟨g, 2, none⟩ = some (.int .i64 (ee 0).l2) := hcell 2 (by omega)
            have d3 : wr.cell? ⟨g, 3, none⟩ = some (.int .i64 (ee 0).u2) := hcell 3 (by omega)
            have d4 : wr.cell? ⟨g, 4, none⟩ = some (.string (ee 0).t) := hcell 4 (by omega)
            have HEC : Hid (ee c = ee 0) := HE1.out c hmc (Nat.pos_of_ne_zero (fun e => by have := hm0 e; omega))
            clear hcell hA
            go_wp2_with (at_builtin; refine wpList_append_own _ rfl _ _ 41 rfl B 43 i3 (.agg #[.int .i64 0, .int .i64 0, .int .i64 0, .int .i64 0, .string ⟨#[]⟩]) 5 48 Try.underlying41 hi3 hy0 hy1 hy2 rfl (by decide) (.slice (some ⟨g, 0, none⟩) c cp) c (pvals ee c) rfl (HO.out.alloc _) ⟨wr.heap.size, 0, none⟩ 1 1 [.int .i64 (ee 0).l1, .int .i64 (ee 0).u1, .int .i64 (ee 0).l2, .int .i64 (ee 0).u2, .string (ee 0).t] rfl rfl (cells_new _ [.int .i64 (ee 0).l1, .int .i64 (ee 0).u1, .int .i64 (ee 0).l2, .int .i64 (ee 0).u2, .string (ee 0).t] _) (fun x hx => by simp at hx; rcases hx with rfl | rfl | rfl | rfl | rfl <;> rfl) (by unfold maxLen; omega) (by omega) (by simp; omega) ?_; intro v3 w3 hown3 hgrow3 _; obtain ⟨A3, k3, rfl⟩ := own_slice hown3)
            have HO3 : Hid (w3.ownsRow B 43 5 (.slice A3 (c + 1) k3) (c + 1) (pvals ee (c + 1))) := by
              rw [pvals_succ, HEC.out]
              exact hown3
            have HR3 : Hid (Below B w w3) := HR.out.trans (((Below.refl _ _).alloc zr _).grown hgrow3 (by simp; omega) (fun q eq => (HO.out.lt q eq).1))
            clear hown3 hgrow3
            go_wp2
            go_roundw
            case rel => exact ⟨c + 1, _, by omega, by omega, by omega, (fun h => by omega), rfl, HO3, HR3⟩
            case measure => simp [lenV]; omega)
      case inr.inl =>
        first
        | (exfalso; omega)
        | (exfalso; have h9 := hm0 (by assumption); omega)
        | (
          have h0i : (0 : Int) < (c : Int) := by omega
          obtain ⟨g, rfl, hBg, hgl⟩ := hA.resolve_left (by rintro ⟨_, h, _⟩; omega)
          go_wp2_with (at_builtin; refine wpList_append_own _ rfl _ _ 41 rfl B 43 i3 (.agg #[.int .i64 0, .int .i64 0, .int .i64 0, .int .i64 0, .string ⟨#[]⟩]) 5 48 Try.underlying41 hi3 hy0 hy1 hy2 rfl (by decide) (.slice none 0 0) 0 [] rfl (World.ownsRow_nil _ _ _ _) ⟨g, 0, none⟩ c cp (pvals ee c) rfl (pvals_len ee c) (pcells_news HPC.out) (fun x hx => by obtain ⟨j, _, hj⟩ := List.mem_flatMap.1 hx; simp [PE.vals] at hj; rcases hj with rfl | rfl | rfl | rfl | rfl <;> rfl) (by unfold maxLen; omega) (by omega) zr ?_; intro v3 w3 hown3 hgrow3 _)
          have HO3 : Hid (w3.ownsRow B 43 5 v3 c (pvals ee c)) := Lib.hid (by simpa using hown3)
          have HW3 : Hid (Below wr.heap.size wr w3) := (Below.refl _ _).grown hgrow3 (Nat.le_refl _) (fun k e => by cases e)
          have HR3 : Hid (Below B w w3) := HR.out.trans (HW3.out.mono zr)
          clear hown3 hgrow3 hA
          have z3 : B ≤ w3.heap.size := by have := HR3.out.size; have := HB.out; omega
          obtain ⟨A3, k3, hv3, hck3, hk3, hPC3, hA3⟩ := pcells_of_own HO3.out
          subst hv3
          have hfit : ∀ k, k < c → (ee k).fit := fun k hk => HEF.out k (Nat.pos_of_ne_zero (fun e => by have := hm0 e; omega))
          have hPCo : PCells w3.heap.size w3 (some ⟨g, 0, none⟩) c ee := (HPC.out.below HW3.out).mono HW3.out.size
          have CP := Lib.hid (pbytes_any S (some ⟨g, 0, none⟩) c cp ee ds ers w3 (by omega) (by omega) (by omega) hfit hPCo (fun k _ => HDS.out k))
          have HPC3 := Lib.hid hPC3
          have HPCo := Lib.hid hPCo
          clear hPC3 hPCo
          go_wp2_with fail
          refine CP.out.mono ?_
          rintro e w4 h4
          obtain ⟨m4, er4, a4, cap4, rfl, hmc4, hc4, hE4, hD4, b4⟩ := bytes_one h4
          have HW4 := Lib.hid b4
          have HE4 := Lib.hid hE4
          have HD4 := Lib.hid hD4
          have CR := Lib.hid (rbytes_any S A3 c k3 ee ds ers w4 (by omega) (by omega) hck3 hfit ((HPC3.out.below b4).mono b4.size) (fun k _ => HDS.out k))
          have h34 := b4.size
          clear h4 hE4 hD4 b4
          go_wp2_with fail
          refine CR.out.mono ?_
          rintro e w5 h5
          obtain ⟨m5, er5, a5, cap5, rfl, hmc5, hc5, hE5, hD5, b5⟩ := bytes_one h5
          obtain ⟨rfl, rfl⟩ := HD4.out.det hD5
          have HW5 := Lib.hid (HW4.out.trans (b5.mono HW4.out.size))
          have HE5 := Lib.hid hE5
          have HE4b := Lib.hid ((HE4.out.below b5).mono b5.size)
          have HB5 : Hid (Below B w w5) := HR3.out.trans (HW5.out.mono z3)
          have z5 : B ≤ w5.heap.size := by have := HB5.out.size; have := HB.out; omega
          have hm4 : m4 ≤ 1000 := by rcases HD4.out with ⟨_, h, _⟩ | ⟨_, _, h⟩ | ⟨_, _, h, _⟩ <;> omega
          obtain ⟨ga, hga, hca⟩ := pcells_rows HPCo.out (.inr ⟨g, rfl⟩)
          obtain ⟨gb, hgb, hcb⟩ := pcells_rows HPC3.out (by rcases hA3 with ⟨_, h, _⟩ | ⟨q, h, _⟩; exact .inl h; exact .inr ⟨q, h⟩)
          have HGA := Lib.hid hga; have HGB := Lib.hid hgb
          have HCA := Lib.hid (fun k hk W (hW : Below w5.heap.size w5 W) => hca k hk W (HW5.out.trans (hW.mono HW5.out.size)))
          have HCB := Lib.hid (fun k hk W (hW : Below w5.heap.size w5 W) => hcb k hk W (HW5.out.trans (hW.mono HW5.out.size)))
          clear h5 hE5 hD5 b5 hga hca hgb hcb hfit hA3
          go_wp2_with fail
          obtain ⟨wo, rfl⟩ : ∃ wo : World, wo = wr := ⟨_, rfl⟩
          go_loopw [14] (fun q wr => ∃ k : Nat, k ≤ c ∧ q = .int .i64 (k : Int) ∧ Hid (Below w5.heap.size w5 wr)) (fun q _ => c - (intOf q).toNat)
          case atStart => exact ⟨0, by omega, rfl, Below.refl _ _⟩
          case round =>
            obtain ⟨k, hk, rfl, HK⟩ := hrel
            by_cases hlt : k < c
            · have ha := HGA.out.resolve_left (by omega)
              have hb := HGB.out.resolve_left (by omega)
              obtain ⟨x0, x1, x2, x3, x4⟩ := HCA.out k hlt wr HK.out
              obtain ⟨y0, y1, y2, y3, y4⟩ := HCB.out k hlt wr HK.out
              have hkk : (k : Int) < ((c : Nat) : Int) := by omega
              simp only [Option.some.injEq, Addr.mk.injEq, and_true] at ha
              subst ha hb
              go_wp2_with fail
              go_quiet (fail)
              go_wp2
              go_roundw
              case rel => exact ⟨k + 1, by omega, by go_num, below_drewN HK.out _⟩
              case measure => simp [intOf]; omega
            · have hkc : k = c := by omega
              subst hkc
              have CSE := Lib.hid (sameeds_any a4 a5 m4 cap4 cap5 ds wr hm4 ((HE4b.out.below HK.out).mono HK.out.size) ((HE5.out.below HK.out).mono HK.out.size) hmc4 hmc5)
              have hq : (er4 == er4) = true := by simp
              have HBr : Hid (Below B w wr) := HB5.out.trans (HK.out.mono z5)
              go_wp2_with fail
              refine CSE.out.mono ?_
              rintro e w9 ⟨rfl, b9⟩
              have HB9 := Lib.hid (HBr.out.trans (b9.mono (by have := HBr.out.size; have := HB.out; omega)))
              clear b9
              go_wp2_with fail
              refine (plives_any _).mono ?_
              rintro e wf ⟨rfl, bf⟩
              have HFF := Lib.hid (HB9.out.trans (bf.mono (by have := HB9.out.size; have := HB.out; omega)))
              clear bf
              go_wp2
              go_ret
              exact ⟨rfl, by rw [HB.out]; exact HFF.out⟩)
      case inr.inr.inl =>
        first
        | (exfalso; omega)
        | (exfalso; have h9 := hm0 (by assumption); omega)
        | (
          have hov := hnl hc0
          simp only [Value.slice.injEq] at hov
          obtain ⟨rfl, rfl, rfl⟩ := hov
          go_wp2_with (at_builtin; refine wpList_append_own_none rfl _ _ 41 rfl B 43 i3 5 Try.underlying41 hi3 (.slice none 0 0) 0 [] rfl (World.ownsRow_nil _ _ _ _) rfl ?_)
          have HO3 : Hid (wr.ownsRow B 43 5 (.slice none 0 0) 0 (pvals ee 0)) := World.ownsRow_nil _ _ _ _
          have HW3 : Hid (Below wr.heap.size wr wr) := Below.refl _ _
          have HR3 := HR
          obtain ⟨w3, rfl⟩ : ∃ w3 : World, w3 = wr := ⟨_, rfl⟩
          clear hA
          have z3 : B ≤ w3.heap.size := by have := HR3.out.size; have := HB.out; omega
          obtain ⟨A3, k3, hv3, hck3, hk3, hPC3, hA3⟩ := pcells_of_own HO3.out
          cases hv3
          have hfit : ∀ k, k < 0 → (ee k).fit := fun k hk => absurd hk (by omega)
          have hPCo : PCells w3.heap.size w3 none 0 ee := (HPC.out.below HW3.out).mono HW3.out.size
          have CP := Lib.hid (pbytes_any S none 0 0 ee ds ers w3 (by omega) (by omega) (by omega) hfit hPCo (fun k _ => HDS.out k))
          have HPC3 := Lib.hid hPC3
          have HPCo := Lib.hid hPCo
          clear hPC3 hPCo
          go_wp2_with fail
          refine CP.out.mono ?_
          rintro e w4 h4
          obtain ⟨m4, er4, a4, cap4, rfl, hmc4, hc4, hE4, hD4, b4⟩ := bytes_one h4
          have HW4 := Lib.hid b4
          have HE4 := Lib.hid hE4
          have HD4 := Lib.hid hD4
          have CR := Lib.hid (rbytes_any S none 0 0 ee ds ers w4 (by omega) (by omega) hck3 hfit ((HPC3.out.below b4).mono b4.size) (fun k _ => HDS.out k))
          have h34 := b4.size
          clear h4 hE4 hD4 b4
          go_wp2_with fail
          refine CR.out.mono ?_
          rintro e w5 h5
          obtain ⟨m5, er5, a5, cap5, rfl, hmc5, hc5, hE5, hD5, b5⟩ := bytes_one h5
          obtain ⟨rfl, rfl⟩ := HD4.out.det hD5
          have HW5 := Lib.hid (HW4.out.trans (b5.mono HW4.out.size))
          have HE5 := Lib.hid hE5
          have HE4b := Lib.hid ((HE4.out.below b5).mono b5.size)
          have HB5 : Hid (Below B w w5) := HR3.out.trans (HW5.out.mono z3)
          have z5 : B ≤ w5.heap.size := by have := HB5.out.size; have := HB.out; omega
          have hm4 : m4 ≤ 1000 := by rcases HD4.out with ⟨_, h, _⟩ | ⟨_, _, h⟩ | ⟨_, _, h, _⟩ <;> omega
          obtain ⟨ga, hga, hca⟩ := pcells_rows HPCo.out (.inl rfl)
          obtain ⟨gb, hgb, hcb⟩ := pcells_rows HPC3.out (.inl rfl)
          have HGA := Lib.hid hga; have HGB := Lib.hid hgb
          have HCA := Lib.hid (fun k hk W (hW : Below w5.heap.size w5 W) => hca k hk W (HW5.out.trans (hW.mono HW5.out.size)))
          have HCB := Lib.hid (fun k hk W (hW : Below w5.heap.size w5 W) => hcb k hk W (HW5.out.trans (hW.mono HW5.out.size)))
          clear h5 hE5 hD5 b5 hga hca hgb hcb hfit hA3
          go_wp2_with fail
          go_loopw [14] (fun q wr => ∃ k : Nat, k ≤ 0 ∧ q = .int .i64 (k : Int) ∧ Hid (Below w5.heap.size w5 wr)) (fun q _ => 0 - (intOf q).toNat)
          case atStart => exact ⟨0, by omega, rfl, Below.refl _ _⟩
          case round =>
            obtain ⟨k, hk, rfl, HK⟩ := hrel
            by_cases hlt : k < 0
            · omega
            · have hkc : True := trivial
              obtain rfl : k = 0 := by omega
              clear hkc
              have CSE := Lib.hid (sameeds_any a4 a5 m4 cap4 cap5 ds wr hm4 ((HE4b.out.below HK.out).mono HK.out.size) ((HE5.out.below HK.out).mono HK.out.size) hmc4 hmc5)
              have hq : (er4 == er4) = true := by simp
              have HBr : Hid (Below B w wr) := HB5.out.trans (HK.out.mono z5)
              go_wp2_with fail
              refine CSE.out.mono ?_
              rintro e w9 ⟨rfl, b9⟩
              have HB9 := Lib.hid (HBr.out.trans (b9.mono (by have := HBr.out.size; have := HB.out; omega)))
              clear b9
              go_wp2_with fail
              refine (plives_any _).mono ?_
              rintro e wf ⟨rfl, bf⟩
              have HFF := Lib.hid (HB9.out.trans (bf.mono (by have := HB9.out.size; have := HB.out; omega)))
              clear bf
              go_wp2
              go_ret
              exact ⟨rfl, by rw [HB.out]; exact HFF.out⟩)
      case inr.inr.inr.inl =>
        first
        | (exfalso; omega)
        | (exfalso; have h9 := hm0 (by assumption); omega)
        | (
          have hov := hnl hc0
          simp only [Value.slice.injEq] at hov
          obtain ⟨rfl, rfl, rfl⟩ := hov
          go_wp2_with (at_builtin; refine wpList_append_own_none rfl _ _ 41 rfl B 43 i3 5 Try.underlying41 hi3 (.slice none 0 0) 0 [] rfl (World.ownsRow_nil _ _ _ _) rfl ?_)
          have HO3 : Hid (wr.ownsRow B 43 5 (.slice none 0 0) 0 (pvals ee 0)) := World.ownsRow_nil _ _ _ _
          have HW3 : Hid (Below wr.heap.size wr wr) := Below.refl _ _
          have HR3 := HR
          obtain ⟨w3, rfl⟩ : ∃ w3 : World, w3 = wr := ⟨_, rfl⟩
          clear hA
          have z3 : B ≤ w3.heap.size := by have := HR3.out.size; have := HB.out; omega
          obtain ⟨A3, k3, hv3, hck3, hk3, hPC3, hA3⟩ := pcells_of_own HO3.out
          cases hv3
          have hfit : ∀ k, k < 0 → (ee k).fit := fun k hk => absurd hk (by omega)
          have hPCo : PCells w3.heap.size w3 none 0 ee := (HPC.out.below HW3.out).mono HW3.out.size
          have CP := Lib.hid (pbytes_any S none 0 0 ee ds ers w3 (by omega) (by omega) (by omega) hfit hPCo (fun k _ => HDS.out k))
          have HPC3 := Lib.hid hPC3
          have HPCo := Lib.hid hPCo
          clear hPC3 hPCo
          go_wp2_with fail
          refine CP.out.mono ?_
          rintro e w4 h4
          obtain ⟨m4, er4, a4, cap4, rfl, hmc4, hc4, hE4, hD4, b4⟩ := bytes_one h4
          have HW4 := Lib.hid b4
          have HE4 := Lib.hid hE4
          have HD4 := Lib.hid hD4
          have CR := Lib.hid (rbytes_any S none 0 0 ee ds ers w4 (by omega) (by omega) hck3 hfit ((HPC3.out.below b4).mono b4.size) (fun k _ => HDS.out k))
          have h34 := b4.size
          clear h4 hE4 hD4 b4
          go_wp2_with fail
          refine CR.out.mono ?_
          rintro e w5 h5
          obtain ⟨m5, er5, a5, cap5, rfl, hmc5, hc5, hE5, hD5, b5⟩ := bytes_one h5
          obtain ⟨rfl, rfl⟩ := HD4.out.det hD5
          have HW5 := Lib.hid (HW4.out.trans (b5.mono HW4.out.size))
          have HE5 := Lib.hid hE5
          have HE4b := Lib.hid ((HE4.out.below b5).mono b5.size)
          have HB5 : Hid (Below B w w5) := HR3.out.trans (HW5.out.mono z3)
          have z5 : B ≤ w5.heap.size := by have := HB5.out.size; have := HB.out; omega
          have hm4 : m4 ≤ 1000 := by rcases HD4.out with ⟨_, h, _⟩ | ⟨_, _, h⟩ | ⟨_, _, h, _⟩ <;> omega
          obtain ⟨ga, hga, hca⟩ := pcells_rows HPCo.out (.inl rfl)
          obtain ⟨gb, hgb, hcb⟩ := pcells_rows HPC3.out (.inl rfl)
          have HGA := Lib.hid hga; have HGB := Lib.hid hgb
          have HCA := Lib.hid (fun k hk W (hW : Below w5.heap.size w5 W) => hca k hk W (HW5.out.trans (hW.mono HW5.out.size)))
          have HCB := Lib.hid (fun k hk W (hW : Below w5.heap.size w5 W) => hcb k hk W (HW5.out.trans (hW.mono HW5.out.size)))
          clear h5 hE5 hD5 b5 hga hca hgb hcb hfit hA3
          go_wp2_with fail
          go_loopw [14] (fun q wr => ∃ k : Nat, k ≤ 0 ∧ q = .int .i64 (k : Int) ∧ Hid (Below w5.heap.size w5 wr)) (fun q _ => 0 - (intOf q).toNat)
          case atStart => exact ⟨0, by omega, rfl, Below.refl _ _⟩
          case round =>
            obtain ⟨k, hk, rfl, HK⟩ := hrel
            by_cases hlt : k < 0
            · omega
            · have hkc : True := trivial
              obtain rfl : k = 0 := by omega
              clear hkc
              have CSE := Lib.hid (sameeds_any a4 a5 m4 cap4 cap5 ds wr hm4 ((HE4b.out.below HK.out).mono HK.out.size) ((HE5.out.below HK.out).mono HK.out.size) hmc4 hmc5)
              have hq : (er4 == er4) = true := by simp
              have HBr : Hid (Below B w wr) := HB5.out.trans (HK.out.mono z5)
              go_wp2_with fail
              refine CSE.out.mono ?_
              rintro e w9 ⟨rfl, b9⟩
              have HB9 := Lib.hid (HBr.out.trans (b9.mono (by have := HBr.out.size; have := HB.out; omega)))
              clear b9
              go_wp2_with fail
              refine (plives_any _).mono ?_
              rintro e wf ⟨rfl, bf⟩
              have HFF := Lib.hid (HB9.out.trans (bf.mono (by have := HB9.out.size; have := HB.out; omega)))
              clear bf
              go_wp2
              go_ret
              exact ⟨rfl, by rw [HB.out]; exact HFF.out⟩)
      case inr.inr.inr.inr =>
        first
        | (exfalso; omega)
        | (exfalso; have h9 := hm0 (by assumption); omega)
        | (
          have h65 : ¬ (c : Int) < 65 := by omega
          have h0i : (0 : Int) < (c : Int) := by omega
          clear hc0
          obtain ⟨g, rfl, hBg, hgl⟩ := hA.resolve_left (by rintro ⟨_, h, _⟩; omega)
          go_wp2_with (at_builtin; refine wpList_append_own _ rfl _ _ 41 rfl B 43 i3 (.agg #[.int .i64 0, .int .i64 0, .int .i64 0, .int .i64 0, .string ⟨#[]⟩]) 5 48 Try.underlying41 hi3 hy0 hy1 hy2 rfl (by decide) (.slice none 0 0) 0 [] rfl (World.ownsRow_nil _ _ _ _) ⟨g, 0, none⟩ c cp (pvals ee c) rfl (pvals_len ee c) (pcells_news HPC.out) (fun x hx => by obtain ⟨j, _, hj⟩ := List.mem_flatMap.1 hx; simp [PE.vals] at hj; rcases hj with rfl | rfl | rfl | rfl | rfl <;> rfl) (by unfold maxLen; omega) (by omega) zr ?_; intro v3 w3 hown3 hgrow3 _)
          have HO3 : Hid (w3.ownsRow B 43 5 v3 c (pvals ee c)) := Lib.hid (by simpa using hown3)
          have HW3 : Hid (Below wr.heap.size wr w3) := (Below.refl _ _).grown hgrow3 (Nat.le_refl _) (fun k e => by cases e)
          have HR3 : Hid (Below B w w3) := HR.out.trans (HW3.out.mono zr)
          clear hown3 hgrow3 hA
          have z3 : B ≤ w3.heap.size := by have := HR3.out.size; have := HB.out; omega
          obtain ⟨A3, k3, hv3, hck3, hk3, hPC3, hA3⟩ := pcells_of_own HO3.out
          subst hv3
          have hfit : ∀ k, k < c → (ee k).fit := fun k hk => HEF.out k (Nat.pos_of_ne_zero (fun e => by have := hm0 e; omega))
          have hPCo : PCells w3.heap.size w3 (some ⟨g, 0, none⟩) c ee := (HPC.out.below HW3.out).mono HW3.out.size
          have CP := Lib.hid (pbytes_any S (some ⟨g, 0, none⟩) c cp ee ds ers w3 (by omega) (by omega) (by omega) hfit hPCo (fun k _ => HDS.out k))
          have HPC3 := Lib.hid hPC3
          have HPCo := Lib.hid hPCo
          clear hPC3 hPCo
          go_wp2_with fail
          refine CP.out.mono ?_
          rintro e w4 h4
          obtain ⟨m4, er4, a4, cap4, rfl, hmc4, hc4, hE4, hD4, b4⟩ := bytes_one h4
          have HW4 := Lib.hid b4
          have HE4 := Lib.hid hE4
          have HD4 := Lib.hid hD4
          have CR := Lib.hid (rbytes_any S A3 c k3 ee ds ers w4 (by omega) (by omega) hck3 hfit ((HPC3.out.below b4).mono b4.size) (fun k _ => HDS.out k))
          have h34 := b4.size
          clear h4 hE4 hD4 b4
          go_wp2_with fail
          refine CR.out.mono ?_
          rintro e w5 h5
          obtain ⟨m5, er5, a5, cap5, rfl, hmc5, hc5, hE5, hD5, b5⟩ := bytes_one h5
          obtain ⟨rfl, rfl⟩ := HD4.out.det hD5
          have HW5 := Lib.hid (HW4.out.trans (b5.mono HW4.out.size))
          have HE5 := Lib.hid hE5
          have HE4b := Lib.hid ((HE4.out.below b5).mono b5.size)
          have HB5 : Hid (Below B w w5) := HR3.out.trans (HW5.out.mono z3)
          have z5 : B ≤ w5.heap.size := by have := HB5.out.size; have := HB.out; omega
          have hm4 : m4 ≤ 1000 := by rcases HD4.out with ⟨_, h, _⟩ | ⟨_, _, h⟩ | ⟨_, _, h, _⟩ <;> omega
          obtain ⟨ga, hga, hca⟩ := pcells_rows HPCo.out (.inr ⟨g, rfl⟩)
          obtain ⟨gb, hgb, hcb⟩ := pcells_rows HPC3.out (by rcases hA3 with ⟨_, h, _⟩ | ⟨q, h, _⟩; exact .inl h; exact .inr ⟨q, h⟩)
          have HGA := Lib.hid hga; have HGB := Lib.hid hgb
          have HCA := Lib.hid (fun k hk W (hW : Below w5.heap.size w5 W) => hca k hk W (HW5.out.trans (hW.mono HW5.out.size)))
          have HCB := Lib.hid (fun k hk W (hW : Below w5.heap.size w5 W) => hcb k hk W (HW5.out.trans (hW.mono HW5.out.size)))
          clear h5 hE5 hD5 b5 hga hca hgb hcb hfit hA3
          go_wp2_with fail
          obtain ⟨wo, rfl⟩ : ∃ wo : World, wo = wr := ⟨_, rfl⟩
          go_loopw [14] (fun q wr => ∃ k : Nat, k ≤ c ∧ q = .int .i64 (k : Int) ∧ Hid (Below w5.heap.size w5 wr)) (fun q _ => c - (intOf q).toNat)
          case atStart => exact ⟨0, by omega, rfl, Below.refl _ _⟩
          case round =>
            obtain ⟨k, hk, rfl, HK⟩ := hrel
            by_cases hlt : k < c
            · have ha := HGA.out.resolve_left (by omega)
              have hb := HGB.out.resolve_left (by omega)
              obtain ⟨x0, x1, x2, x3, x4⟩ := HCA.out k hlt wr HK.out
              obtain ⟨y0, y1, y2, y3, y4⟩ := HCB.out k hlt wr HK.out
              have hkk : (k : Int) < ((c : Nat) : Int) := by omega
              simp only [Option.some.injEq, Addr.mk.injEq, and_true] at ha
              subst ha hb
              go_wp2_with fail
              go_quiet (fail)
              go_wp2
              go_roundw
              case rel => exact ⟨k + 1, by omega, by go_num, below_drewN HK.out _⟩
              case measure => simp [intOf]; omega
            · have hkc : k = c := by omega
              subst hkc
              have CSE := Lib.hid (sameeds_any a4 a5 m4 cap4 cap5 ds wr hm4 ((HE4b.out.below HK.out).mono HK.out.size) ((HE5.out.below HK.out).mono HK.out.size) hmc4 hmc5)
              have hq : (er4 == er4) = true := by simp
              have HBr : Hid (Below B w wr) := HB5.out.trans (HK.out.mono z5)
              go_wp2_with fail
              refine CSE.out.mono ?_
              rintro e w9 ⟨rfl, b9⟩
              have HB9 := Lib.hid (HBr.out.trans (b9.mono (by have := HBr.out.size; have := HB.out; omega)))
              clear b9
              go_wp2_with fail
              refine (plives_any _).mono ?_
              rintro e wf ⟨rfl, bf⟩
              have HFF := Lib.hid (HB9.out.trans (bf.mono (by have := HB9.out.size; have := HB.out; omega)))
              clear bf
              go_wp2
              go_ret
              exact ⟨rfl, by rw [HB.out]; exact HFF.out⟩)


end Go.Proofs.Ythjedecfpedjbaa
