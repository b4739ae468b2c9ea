/- The contract of the reference's Compose. Conditions: texts of at most 900 bytes, lists of at most 1000 edits. -/
import Derived.Test.YtfhpllcdlejfjaaERd
namespace Go.Proofs.Ytfhpllcdlejfjaa
open Go.RowKit Go.Shelf
set_option linter.unusedVariables false

/-- A slice of integers in memory, in a form that a walk reads. -/
theorem row_core {w w' : World} {xs : List Int} {e : Ending} (h : NewRow .i64 3 w xs e w') : ∃ (a : Option Addr) (cap b off : Nat), e = .returned (.slice a xs.length cap) ∧ xs.length ≤ cap ∧ (xs.length = 0 ∨ (a = some ⟨b, off, none⟩ ∧ b < w'.heap.size)) ∧
    (∀ k, k < xs.length → ∀ W : World, W.heap[b]? = w'.heap[b]? → W.cell? ⟨b, off + k, none⟩ = some (.int .i64 (xs[k]?.getD 0))) ∧ Below w.heap.size w w' := by
  obtain ⟨A, cap, rfl, hr, hb⟩ := row_of_new h
  have hs := hr.sli
  have hle := hs.le
  rcases hs.cells with h0 | ⟨b, off, rfl, hlt, hc⟩
  · exact ⟨A, cap, 0, 0, rfl, hle, .inl (by simp [h0]), fun k hk => by simp [h0] at hk, hb⟩
  · refine ⟨_, cap, b, off, rfl, hle, .inr ⟨rfl, hlt⟩, fun k hk W hW => ?_, hb⟩
    rw [← hc k hk]
    simp only [World.cell?, hW]

theorem srN_len {s : ByteArray} {es : List Er} (h : vErr (s.size : Int) es = 0) : (srN s.size 0 es).length = (apS s es).size := by
  rw [← enc_srcl (vErr_ok h).2.1, List.length_map, ← List.length_map (f := Prod.fst), srcl_fst, ← apS_sb h, sb_len]
theorem bnil : (⟨#[]⟩ : ByteArray).toList = [] := by kernel_rfl
theorem ers_cons (e : Ee) (l : List Ee) : ers (e :: l) = er e :: ers l := rfl
theorem er_sb (f t : Nat) (x : ByteArray) : er ⟨f, t, sb x⟩ = ⟨(f : Int), (t : Int), x⟩ := by simp only [er, bs_sb]
/-- The loop's state: the edits so far, and what is pending. -/
def RcI (C : List Er) (n : Nat) (Z : List (Int × Option Nat)) (M k at_ : Nat) (x : ByteArray) (acc : List Er) : Prop :=
  (k ≤ M → C = acc ++ ers (canon n at_ (sb x) (Z.drop k))) ∧ (k = M + 1 → C = acc)

set_option maxRecDepth 100000 in
set_option maxHeartbeats 4000000 in
theorem rcompose_any (s : ByteArray) (a b : Option Addr) (c1 c2 : Nat) (es1 es2 : List Er) (w : World) (hs : s.size ≤ 900) (ht : (apS s es1).size ≤ 900) (hu : (apS (apS s es1) es2).size ≤ 900) (hn1 : es1.length ≤ 1000) (hn2 : es2.length ≤ 1000)
    (hf1 : ∀ e ∈ es1, e.Fit) (hf2 : ∀ e ∈ es2, e.Fit) (hS1 : ES w.heap.size w a c1 es1) (hS2 : ES w.heap.size w b c2 es2) :
    Calls Try.prog 20 #[.string s, .slice a es1.length c1, .slice b es2.length c2] w fun e w' => NewES w (cmS s es1 es2) (cmE s es1 es2) e w' := by
  have A1 := rapply_any s a c1 es1 w (by omega) hn1 hf1 hS1
  obtain ⟨n1, hl1⟩ : ∃ n, es1.length = n := ⟨_, rfl⟩
  obtain ⟨n2, hl2⟩ : ∃ n, es2.length = n := ⟨_, rfl⟩
  obtain ⟨t, htt⟩ : ∃ t, apS s es1 = t := ⟨_, rfl⟩
  obtain ⟨u, huu⟩ : ∃ u, apS t es2 = u := ⟨_, rfl⟩
  by_cases hv1 : vErr (s.size : Int) es1 = 0
  · have A2 := fun W (hW : Below w.heap.size w W) => rapply_any t b c2 es2 W (by rw [← htt]; omega) hn2 hf2 (hS2.on hW)
    by_cases hv2 : vErr (t.size : Int) es2 = 0
    · have B2 := rc_ok hv1 (by rw [htt]; exact hv2)
      have RA := fun k hk => rc_at (k := k) hv1 (by rw [htt]; exact hv2) hk
      have hu' : u.size ≤ 900 := by rw [← huu, ← htt]; exact hu
      have ht' : t.size ≤ 900 := by rw [← htt]; exact ht
      have q1 := srN_len hv1
      have q2 := srN_len hv2
      rw [htt] at B2 RA q1
      rw [huu] at B2 RA q2
      obtain ⟨p1, p2, p3⟩ := vErr_ok hv1
      obtain ⟨r1, r2, r3⟩ := vErr_ok hv2
      have CS1 := fun W (hW : Below w.heap.size w W) => sources_any s.size a c1 es1 W (by omega) hn1 p2 (fun e he => by have := p3 e he; omega) (fun e he => (hf1 e he).x) (by rw [q1]; omega) (hS1.on hW)
      have CS2 := fun W (hW : Below w.heap.size w W) => sources_any t.size b c2 es2 W (by omega) hn2 r2 (fun e he => by have := r3 e he; omega) (fun e he => (hf2 e he).x) (by rw [q2]; omega) (hS2.on hW)
      obtain ⟨zl, hcv, hcp, hcx, hcl, hcn⟩ := B2
      have CN := fun W ad cd (h : ES W.heap.size W ad cd (ers (rcC s es1 es2))) => normal_any s ad cd (ers (rcC s es1 es2)) W (by omega) (by omega) hcv hcp (fun e he => by have := hcx e he; omega) h
      have hEE : cmE s es1 es2 = if 64 < (nrS s (ers (rcC s es1 es2))).length then 4 else 0 := by
        unfold cmE; rw [if_pos hv1, htt, if_pos hv2, hcn, ers_len]
      have hSS : cmS s es1 es2 = if 64 < (nrS s (ers (rcC s es1 es2))).length then [] else nrS s (ers (rcC s es1 es2)) := by
        unfold cmS; rw [hEE, ← hcn]; split <;> rfl
      have hC0 : ers (rcC s es1 es2) = [] ++ ers (canon s.size 0 (sb ⟨#[]⟩) ((rcZ s es1 es2).drop 0)) := rfl
      rw [hEE, hSS]
      rw [hv1, htt] at A1
      simp only [hl2, huu, hv2] at A2
      simp only [hl1] at CS1
      simp only [hl2] at CS2
      rw [hl1] at A1
      rw [hl1, hl2]
      obtain ⟨L1, hL1⟩ : ∃ L, srN s.size 0 es1 = L := ⟨_, rfl⟩
      obtain ⟨L2, hL2⟩ : ∃ L, srN t.size 0 es2 = L := ⟨_, rfl⟩
      obtain ⟨Z, hZ⟩ : ∃ Z, rcZ s es1 es2 = Z := ⟨_, rfl⟩
      obtain ⟨CE, hCE⟩ : ∃ C, ers (rcC s es1 es2) = C := ⟨_, rfl⟩
      obtain ⟨NL, hNL⟩ : ∃ C, nrS s CE = C := ⟨_, rfl⟩
      rw [hCE] at hcl CN hC0 ⊢
      rw [hNL] at CN ⊢
      obtain ⟨RS, hRS⟩ : ∃ r, (if 64 < NL.length then [] else NL) = r := ⟨_, rfl⟩
      obtain ⟨RE, hRE⟩ : ∃ r : Int, (if 64 < NL.length then 4 else 0) = r := ⟨_, rfl⟩
      have HRR : Hid ((64 < NL.length → RS = [] ∧ RE = 4) ∧ (¬ 64 < NL.length → RS = NL ∧ RE = 0)) := ⟨fun h => by rw [if_pos h] at hRS hRE; exact ⟨hRS.symm, hRE.symm⟩, fun h => by rw [if_neg h] at hRS hRE; exact ⟨hRS.symm, hRE.symm⟩⟩
      rw [hRS, hRE]
      clear hRS hRE
      rw [hZ] at RA zl hC0
      rw [hL1] at RA CS1 q1
      rw [hL2] at RA CS2 q2
      obtain ⟨M, hM⟩ : ∃ M, u.size = M := ⟨_, rfl⟩
      rw [hM] at hcl RA zl q2
      have hMu : M ≤ 900 := by rw [← hM]; exact hu'
      have hMt : t.size ≤ 900 := ht'
      have HA1 := Lib.hid A1; have HA2 := Lib.hid A2; have HS1 := Lib.hid CS1; have HS2 := Lib.hid CS2; have HCN := Lib.hid CN; have HRA := Lib.hid RA; have HQ1 := Lib.hid q1; have HQ2 := Lib.hid q2; have HZL := Lib.hid zl; have HU := Lib.hid hM
      have H0 : Hid (RcI CE s.size Z M 0 0 ⟨#[]⟩ []) := ⟨fun _ => hC0, fun h => by omega⟩
      have HCL := Lib.hid hcl
      clear A1 A2 CS1 CS2 CN RA q1 q2 zl hM hS1 hS2 hf1 hf2 hl1 hl2 htt huu hv1 hn1 hn2 ht hu hv2 hcv hcp hcx hcl hcn ht' hu' hEE hSS hC0 hL1 hL2 hZ hCE hNL p1 p2 p3 r1 r2 r3
      obtain ⟨i3, hi3, jy0, jy1, jy2⟩ := info_parts infoEd
      obtain ⟨B, hB⟩ : ∃ B, w.heap.size = B := ⟨_, rfl⟩
      have HB := Lib.hid hB
      rw [hB] at HS1 HS2 HA2
      have HA1' : Hid (Calls Try.prog 39 #[.string s, .slice a n1 c1] w fun e w' => e = .returned (.tuple #[.string t, .int .i64 0]) ∧ Below B w w') := by rw [← hB]; exact HA1.out
      clear hB HA1
      go_enter Try.func20, Try.ntmps20
      go_wp2_with fail
      refine HA1'.out.mono ?_
      rintro e w1 ⟨rfl, hb1⟩
      have HB1 := Lib.hid hb1
      have z1 : B ≤ w1.heap.size := by have := hb1.size; have := HB.out; omega
      clear hb1
      go_wp2_with fail
      refine (HA2.out _ HB1.out).mono ?_
      rintro e w2 ⟨rfl, hb2⟩
      have HB2 := Lib.hid (HB1.out.trans (hb2.mono z1))
      have z2 : B ≤ w2.heap.size := by have := hb2.size; omega
      clear hb2
      go_wp2_with fail
      refine (HS1.out _ HB2.out).mono ?_
      rintro e w3 h3
      obtain ⟨a3, cap3, b3, off3, rfl, hle3, hab3, hcell3, hb3⟩ := row_core h3
      rw [HQ1.out] at hle3 hab3 hcell3 ⊢
      have HB3 := Lib.hid (HB2.out.trans (hb3.mono z2))
      have z3 : B ≤ w3.heap.size := by have := hb3.size; omega
      have HAB3 := Lib.hid hab3; have HC3 := Lib.hid hcell3
      clear hb3 h3 hab3 hcell3
      go_wp2_with fail
      refine (HS2.out _ HB3.out).mono ?_
      rintro e w4 h4
      obtain ⟨a4, cap4, b4, off4, rfl, hle4, hab4, hcell4, hb4⟩ := row_core h4
      rw [HQ2.out] at hle4 hab4 hcell4 ⊢
      have HB34 := Lib.hid hb4
      have HB4 := Lib.hid (HB3.out.trans (hb4.mono z3))
      have z4 : w3.heap.size ≤ w4.heap.size := hb4.size
      have HAB4 := Lib.hid hab4; have HC4 := Lib.hid hcell4
      obtain ⟨B4, hB4⟩ : ∃ B, w4.heap.size = B := ⟨_, rfl⟩
      have HZ4 := Lib.hid hB4
      have HO0 : Hid (w4.ownsRow B4 32 3 (.slice none 0 0) ([] : List Er).length (rv [])) := World.ownsRow_nil _ _ _ _
      have HR0 : Hid (Below B4 w4 w4) := by rw [← hB4]; exact Below.refl _ _
      clear hb4 h4 hab4 hcell4 hB4 HA1' HA2 HS1 HS2
      go_wp2_with fail
      go_loopw [14, 15, 16, 17] (fun o v x q wr => ∃ (k at_ : Nat) (tx : ByteArray) (acc : List Er), k ≤ M + 1 ∧ at_ ≤ s.size + 1 ∧ tx.size ≤ k ∧ acc.length ≤ k ∧ v = .int .i64 (at_ : Int) ∧ x = .string tx ∧ q = .int .i64 (k : Int) ∧ Hid (RcI CE s.size Z M k at_ tx acc) ∧ Hid (wr.ownsRow B4 32 3 o acc.length (rv acc)) ∧ Hid (Below B4 w4 wr)) (fun _ _ _ q _ => M + 1 - (intOf q).toNat)
      case atStart => exact ⟨0, 0, ⟨#[]⟩, [], by omega, by omega, Nat.zero_le _, by simp, rfl, rfl, rfl, H0, HO0, HR0⟩
      case round =>
        obtain ⟨k, at_, tx, acc, hk, hatn, htxs, hal, rfl, rfl, rfl, HI, HO, HR⟩ := hrel
        obtain ⟨r, hr⟩ : ∃ r, acc.length = r := ⟨_, rfl⟩
        rw [hr] at HO hal
        have HM := Lib.hid hr
        clear hr
        obtain ⟨A, cA, rfl⟩ := own_slice HO.out
        have hBr : B4 ≤ wr.heap.size := by have := HR.out.size; have := HZ4.out; omega
        by_cases hlt : k < M
        · have hkk : (k : Int) < (M : Int) := by omega
          have hkk2 : (k : Int) ≤ (M : Int) := by omega
          obtain ⟨rfl, hb4⟩ := HAB4.out.resolve_left (by omega)
          have d4 := HC4.out k hlt wr (HR.out.block b4 (by rw [← HZ4.out]; exact hb4))
          obtain ⟨o1, ho1⟩ : ∃ o, u.extract k (k + 1) = o := ⟨_, rfl⟩
          have hso : sb o1 = [((sb u)[k]?).getD 0] := by
            have hk' : k < (sb u).length := by rw [sb_len, HU.out]; exact hlt
            rw [← ho1, sb_cut, List.drop_eq_getElem_cons hk', show k + 1 - k = 1 by omega, List.take_succ_cons, List.take_zero, List.getElem?_eq_getElem hk']; rfl
          have ho1s : o1.size = 1 := by rw [← sb_len, hso]; rfl
          have HO1 := Lib.hid hso
          have hkw : IntKind.i64.wrap ((k : Int) + 1) = (k : Int) + 1 := by simp [IntKind.wrap, IntKind.signed, IntKind.bits]; omega
          have hkn : ((k : Int) + 1).toNat = k + 1 := by omega
          have hkb : (k : Int) ≤ (k : Int) + 1 := by omega
          have hkc : (k : Int) + 1 ≤ (M : Int) := by omega
          have hsz : tx.size + o1.size ≤ 9223372036854775807 := by omega
          clear hso
          have hzk : ∀ {c : Int} {o : Option Nat}, Z[k]? = some (c, o) → Z[k]'(by rw [HZL.out]; exact hlt) = (c, o) := fun h => by
            rw [List.getElem?_eq_getElem (by rw [HZL.out]; exact hlt)] at h; exact Option.some.inj h
          have hUM := HU.out
          rcases HRA.out k hlt with ⟨e1, e2⟩ | ⟨m2, e1, e3, ⟨e4, e2⟩ | ⟨m, e4, e5, e2⟩⟩
          · have hZk := hzk e2
            rw [e1] at d4
            simp only [Option.getD_some] at d4
            clear e1 e2 hzk
            have hRc := HI.out.1 (by omega)
            rw [List.drop_eq_getElem_cons (by rw [HZL.out]; exact hlt), hZk] at hRc
            simp only [canon] at hRc
            have HI2 : Hid (RcI CE s.size Z M (k + 1) at_ (tx ++ o1) acc) := ⟨fun _ => by rw [sb_add, HO1.out]; exact hRc, fun h => by omega⟩
            clear hRc hZk
            go_wp2
            go_roundw
            case rel => exact ⟨k + 1, at_, tx ++ o1, acc, by omega, by omega, by rw [ByteArray.size_append]; omega, by rw [HM.out]; omega, by go_num, rfl, by go_num, HI2, by rw [HM.out]; exact HO.out, HR⟩
            case measure => simp [intOf]; omega
          · have hZk := hzk e2
            rw [e1] at d4
            simp only [Option.getD_some] at d4
            rw [HQ1.out] at e3
            obtain ⟨rfl, hb3⟩ := HAB3.out.resolve_left (by omega)
            have d3 := HC3.out m2 e3 wr ((HR.out.block b3 (by have := HZ4.out; omega)).trans (HB34.out.block b3 hb3))
            rw [e4] at d3
            simp only [Option.getD_some] at d3
            have hm0 : (0 : Int) ≤ (m2 : Int) := by omega
            have hm1 : (m2 : Int) < (t.size : Int) := by omega
            clear e1 e2 e4 hzk
            have hRc := HI.out.1 (by omega)
            rw [List.drop_eq_getElem_cons (by rw [HZL.out]; exact hlt), hZk] at hRc
            simp only [canon] at hRc
            have HI2 : Hid (RcI CE s.size Z M (k + 1) at_ (tx ++ o1) acc) := ⟨fun _ => by rw [sb_add, HO1.out]; exact hRc, fun h => by omega⟩
            clear hRc hZk
            go_wp2
            go_roundw
            case rel => exact ⟨k + 1, at_, tx ++ o1, acc, by omega, by omega, by rw [ByteArray.size_append]; omega, by rw [HM.out]; omega, by go_num, rfl, by go_num, HI2, by rw [HM.out]; exact HO.out, HR⟩
            case measure => simp [intOf]; omega
          · have hZk := hzk e2
            rw [e1] at d4
            simp only [Option.getD_some] at d4
            rw [HQ1.out] at e3
            obtain ⟨rfl, hb3⟩ := HAB3.out.resolve_left (by omega)
            have d3 := HC3.out m2 e3 wr ((HR.out.block b3 (by have := HZ4.out; omega)).trans (HB34.out.block b3 hb3))
            rw [e4] at d3
            simp only [Option.getD_some] at d3
            have hm0 : (0 : Int) ≤ (m2 : Int) := by omega
            have hm1 : (m2 : Int) < (t.size : Int) := by omega
            have hm2 : ¬ (m : Int) < 0 := by omega
            have hkm : ((k : Int) == (M : Int)) = false := by simp; omega
            have hRc := HI.out.1 (by omega)
            rw [List.drop_eq_getElem_cons (by rw [HZL.out]; exact hlt), hZk] at hRc
            simp only [canon] at hRc
            have HFIN : Hid ((at_ < m ∨ tx ≠ ⟨#[]⟩ → Hid (RcI CE s.size Z M (k + 1) (m + 1) ⟨#[]⟩ (acc ++ [⟨(at_ : Int), (m : Int), tx⟩]))) ∧ (¬ (at_ < m ∨ tx ≠ ⟨#[]⟩) → Hid (RcI CE s.size Z M (k + 1) (m + 1) ⟨#[]⟩ acc))) := by
              refine ⟨fun h => ⟨fun _ => ?_, fun h => by omega⟩, fun h => ⟨fun _ => ?_, fun h => by omega⟩⟩
              · have hc : at_ < m ∨ sb tx ≠ [] := h.imp id (fun h1 h2 => h1 (sb_inj h2))
                rw [if_pos hc] at hRc
                rw [hRc, ers_cons, er_sb, List.append_assoc]; rfl
              · have hc : ¬ (at_ < m ∨ sb tx ≠ []) := fun h1 => h (h1.imp id (fun h2 h3 => h2 (by rw [h3]; rfl)))
                rw [if_neg hc] at hRc
                exact hRc
            clear e1 e2 e4 hzk hRc hZk
            by_cases hap : at_ < m ∨ tx ≠ ⟨#[]⟩
            · have HI2 := HFIN.out.1 hap
              have HRV : Hid (rv (acc ++ [(⟨(at_ : Int), (m : Int), tx⟩ : Er)]) = rv acc ++ [.int .i64 (at_ : Int), .int .i64 (m : Int), .string tx]) := rv_snoc _ _
              have HL : Hid ((acc ++ [(⟨(at_ : Int), (m : Int), tx⟩ : Er)]).length = r + 1) := by rw [List.length_append, HM.out]; exact rfl
              by_cases hat : at_ < m
              · have hat2 : (at_ : Int) < (m : Int) := by omega
                clear hap
                go_wp2_with (at_builtin; refine wpList_append_own _ rfl _ _ 22 rfl B4 32 i3 (.agg #[.int .i64 0, .int .i64 0, .string ⟨#[]⟩]) 3 32 Try.underlying22 hi3 jy0 jy1 jy2 rfl (by decide) (.slice A r cA) r (rv acc) rfl (HO.out.alloc _) ⟨_, 0, none⟩ 1 1 [.int .i64 (at_ : Int), .int .i64 (m : Int), .string tx] rfl rfl (cells_newb _ [.int .i64 (at_ : Int), .int .i64 (m : Int), .string tx] _ _ (by simp; try omega)) (fun x hx => by simp at hx; rcases hx with rfl | rfl | rfl <;> rfl) (by unfold maxLen; omega) (by omega) (by simp; omega) ?_; intro v' w6 hown6 hgrow6 _)
                have HO6 : Hid (w6.ownsRow B4 32 3 v' (acc ++ [(⟨(at_ : Int), (m : Int), tx⟩ : Er)]).length (rv (acc ++ [(⟨(at_ : Int), (m : Int), tx⟩ : Er)]))) := by
                  rw [HRV.out, HL.out]; exact hown6
                have H6 : Hid (Below B4 w4 w6) := (HR.out.alloc hBr _).grown hgrow6 (by simp; omega) (fun g eg => (HO.out.lt g eg).1)
                clear hown6 hgrow6
                go_wp2
                go_roundw
                case rel => exact ⟨k + 1, m + 1, ⟨#[]⟩, _, by omega, by omega, Nat.zero_le _, by rw [HL.out]; omega, by go_num, rfl, by go_num, HI2, HO6, H6⟩
                case measure => simp [intOf]; omega
              · have hat2 : ¬ (at_ : Int) < (m : Int) := by omega
                have htx := hap.resolve_left hat
                have htx2 : (tx.toList == []) = false := by have h9 := str_ne (a := tx) (b := ⟨#[]⟩) htx; rwa [bnil] at h9
                clear hap htx
                go_wp2_with (at_builtin; refine wpList_append_own _ rfl _ _ 22 rfl B4 32 i3 (.agg #[.int .i64 0, .int .i64 0, .string ⟨#[]⟩]) 3 32 Try.underlying22 hi3 jy0 jy1 jy2 rfl (by decide) (.slice A r cA) r (rv acc) rfl (HO.out.alloc _) ⟨_, 0, none⟩ 1 1 [.int .i64 (at_ : Int), .int .i64 (m : Int), .string tx] rfl rfl (cells_newb _ [.int .i64 (at_ : Int), .int .i64 (m : Int), .string tx] _ _ (by simp; try omega)) (fun x hx => by simp at hx; rcases hx with rfl | rfl | rfl <;> rfl) (by unfold maxLen; omega) (by omega) (by simp; omega) ?_; intro v' w6 hown6 hgrow6 _)
                have HO6 : Hid (w6.ownsRow B4 32 3 v' (acc ++ [(⟨(at_ : Int), (m : Int), tx⟩ : Er)]).length (rv (acc ++ [(⟨(at_ : Int), (m : Int), tx⟩ : Er)]))) := by
                  rw [HRV.out, HL.out]; exact hown6
                have H6 : Hid (Below B4 w4 w6) := (HR.out.alloc hBr _).grown hgrow6 (by simp; omega) (fun g eg => (HO.out.lt g eg).1)
                clear hown6 hgrow6
                go_wp2
                go_roundw
                case rel => exact ⟨k + 1, m + 1, ⟨#[]⟩, _, by omega, by omega, Nat.zero_le _, by rw [HL.out]; omega, by go_num, rfl, by go_num, HI2, HO6, H6⟩
                case measure => simp [intOf]; omega
            · have HI2 := HFIN.out.2 hap
              have hat : ¬ at_ < m := fun h => hap (.inl h)
              have hat2 : ¬ (at_ : Int) < (m : Int) := by omega
              obtain rfl : tx = ⟨#[]⟩ := Classical.byContradiction fun h => hap (.inr h)
              clear hap
              go_wp2
              go_roundw
              case rel => exact ⟨k + 1, m + 1, ⟨#[]⟩, acc, by omega, by omega, Nat.zero_le _, by rw [HM.out]; omega, by go_num, rfl, by go_num, HI2, by rw [HM.out]; exact HO.out, HR.out⟩
              case measure => simp [intOf]; omega
        · by_cases hke : k = M
          · have hkk : ¬ (k : Int) < (M : Int) := by omega
            have hkk2 : (k : Int) ≤ (M : Int) := by omega
            have hkm : ((k : Int) == (M : Int)) = true := by simp [hke]
            have hUM := HU.out
            have hRc := HI.out.1 (by omega)
            rw [List.drop_eq_nil_of_le (by rw [HZL.out]; omega)] at hRc
            simp only [canon] at hRc
            have HFIN : Hid ((at_ < s.size ∨ tx ≠ ⟨#[]⟩ → Hid (RcI CE s.size Z M (k + 1) (s.size + 1) ⟨#[]⟩ (acc ++ [⟨(at_ : Int), (s.size : Int), tx⟩]))) ∧ (¬ (at_ < s.size ∨ tx ≠ ⟨#[]⟩) → Hid (RcI CE s.size Z M (k + 1) (s.size + 1) ⟨#[]⟩ acc))) := by
              refine ⟨fun h => ⟨fun h => by omega, fun _ => ?_⟩, fun h => ⟨fun h => by omega, fun _ => ?_⟩⟩
              · have hc : at_ < s.size ∨ sb tx ≠ [] := h.imp id (fun h1 h2 => h1 (sb_inj h2))
                rw [if_pos hc] at hRc
                rw [hRc, ers_cons, er_sb]; rfl
              · have hc : ¬ (at_ < s.size ∨ sb tx ≠ []) := fun h1 => h (h1.imp id (fun h2 h3 => h2 (by rw [h3]; rfl)))
                rw [if_neg hc] at hRc
                rw [hRc]; simp [ers]
            clear hRc hke
            by_cases hap : at_ < s.size ∨ tx ≠ ⟨#[]⟩
            · have HI2 := HFIN.out.1 hap
              have HRV : Hid (rv (acc ++ [(⟨(at_ : Int), (s.size : Int), tx⟩ : Er)]) = rv acc ++ [.int .i64 (at_ : Int), .int .i64 (s.size : Int), .string tx]) := rv_snoc _ _
              have HL : Hid ((acc ++ [(⟨(at_ : Int), (s.size : Int), tx⟩ : Er)]).length = r + 1) := by rw [List.length_append, HM.out]; exact rfl
              by_cases hat : at_ < s.size
              · have hat2 : (at_ : Int) < (s.size : Int) := by omega
                clear hap
                go_wp2_with (at_builtin; refine wpList_append_own _ rfl _ _ 22 rfl B4 32 i3 (.agg #[.int .i64 0, .int .i64 0, .string ⟨#[]⟩]) 3 32 Try.underlying22 hi3 jy0 jy1 jy2 rfl (by decide) (.slice A r cA) r (rv acc) rfl (HO.out.alloc _) ⟨_, 0, none⟩ 1 1 [.int .i64 (at_ : Int), .int .i64 (s.size : Int), .string tx] rfl rfl (cells_newb _ [.int .i64 (at_ : Int), .int .i64 (s.size : Int), .string tx] _ _ (by simp; try omega)) (fun x hx => by simp at hx; rcases hx with rfl | rfl | rfl <;> rfl) (by unfold maxLen; omega) (by omega) (by simp; omega) ?_; intro v' w6 hown6 hgrow6 _)
                have HO6 : Hid (w6.ownsRow B4 32 3 v' (acc ++ [(⟨(at_ : Int), (s.size : Int), tx⟩ : Er)]).length (rv (acc ++ [(⟨(at_ : Int), (s.size : Int), tx⟩ : Er)]))) := by
                  rw [HRV.out, HL.out]; exact hown6
                have H6 : Hid (Below B4 w4 w6) := (HR.out.alloc hBr _).grown hgrow6 (by simp; omega) (fun g eg => (HO.out.lt g eg).1)
                clear hown6 hgrow6
                go_wp2
                go_roundw
                case rel => exact ⟨k + 1, s.size + 1, ⟨#[]⟩, _, by omega, by omega, Nat.zero_le _, by rw [HL.out]; omega, by go_num, rfl, by go_num, HI2, HO6, H6⟩
                case measure => simp [intOf]; omega
              · have hat2 : ¬ (at_ : Int) < (s.size : Int) := by omega
                have htx := hap.resolve_left hat
                have htx2 : (tx.toList == []) = false := by have h9 := str_ne (a := tx) (b := ⟨#[]⟩) htx; rwa [bnil] at h9
                clear hap htx
                go_wp2_with (at_builtin; refine wpList_append_own _ rfl _ _ 22 rfl B4 32 i3 (.agg #[.int .i64 0, .int .i64 0, .string ⟨#[]⟩]) 3 32 Try.underlying22 hi3 jy0 jy1 jy2 rfl (by decide) (.slice A r cA) r (rv acc) rfl (HO.out.alloc _) ⟨_, 0, none⟩ 1 1 [.int .i64 (at_ : Int), .int .i64 (s.size : Int), .string tx] rfl rfl (cells_newb _ [.int .i64 (at_ : Int), .int .i64 (s.size : Int), .string tx] _ _ (by simp; try omega)) (fun x hx => by simp at hx; rcases hx with rfl | rfl | rfl <;> rfl) (by unfold maxLen; omega) (by omega) (by simp; omega) ?_; intro v' w6 hown6 hgrow6 _)
                have HO6 : Hid (w6.ownsRow B4 32 3 v' (acc ++ [(⟨(at_ : Int), (s.size : Int), tx⟩ : Er)]).length (rv (acc ++ [(⟨(at_ : Int), (s.size : Int), tx⟩ : Er)]))) := by
                  rw [HRV.out, HL.out]; exact hown6
                have H6 : Hid (Below B4 w4 w6) := (HR.out.alloc hBr _).grown hgrow6 (by simp; omega) (fun g eg => (HO.out.lt g eg).1)
                clear hown6 hgrow6
                go_wp2
                go_roundw
                case rel => exact ⟨k + 1, s.size + 1, ⟨#[]⟩, _, by omega, by omega, Nat.zero_le _, by rw [HL.out]; omega, by go_num, rfl, by go_num, HI2, HO6, H6⟩
                case measure => simp [intOf]; omega
            · have HI2 := HFIN.out.2 hap
              have hat : ¬ at_ < s.size := fun h => hap (.inl h)
              have hat2 : ¬ (at_ : Int) < (s.size : Int) := by omega
              obtain rfl : tx = ⟨#[]⟩ := Classical.byContradiction fun h => hap (.inr h)
              clear hap
              go_wp2
              go_roundw
              case rel => exact ⟨k + 1, s.size + 1, ⟨#[]⟩, acc, by omega, by omega, Nat.zero_le _, by rw [HM.out]; omega, by go_num, rfl, by go_num, HI2, by rw [HM.out]; exact HO.out, HR.out⟩
              case measure => simp [intOf]; omega
          · have hkk2 : ¬ (k : Int) ≤ (M : Int) := by omega
            have hC := HI.out.2 (by omega)
            subst hC
            have hown := HO.out
            rw [← HM.out] at hown
            obtain ⟨_, ao, co, hv, hES⟩ := es_of_own hown
            simp only [Value.slice.injEq, true_and] at hv
            obtain ⟨rfl, rfl⟩ := hv
            have hCN := HCN.out wr A cA hES
            rw [HM.out] at hCN
            have HCN2 := Lib.hid hCN
            have HBR : Hid (Below B w wr) := HB4.out.trans (HR.out.mono (by have := HZ4.out; omega))
            have zr : B ≤ wr.heap.size := by have := HZ4.out; omega
            obtain ⟨ln, hln⟩ : ∃ l, NL.length = l := ⟨_, rfl⟩
            have HLN := Lib.hid hln
            have hUM := HU.out
            clear hown hES hCN
            go_wp2_with fail
            refine HCN2.out.mono ?_
            rintro e w5 ⟨a5, c5, rfl, hE5, hb5⟩
            have HE5 := Lib.hid hE5
            have HB5 := Lib.hid (HBR.out.trans (hb5.mono zr))
            rw [hln]
            clear hE5 hb5 hln
            by_cases h64 : 64 < ln
            · have h642 : (64 : Int) < (ln : Int) := by omega
              obtain ⟨rfl, rfl⟩ := HRR.out.1 (by rw [HLN.out]; exact h64)
              go_wp2
              go_ret2
              exact ⟨none, 0, rfl, ES.none _ _, by rw [HB.out]; exact HB5.out⟩
            · have h642 : ¬ (64 : Int) < (ln : Int) := by omega
              have h645 : ln ≤ 64 := by omega
              obtain ⟨rfl, rfl⟩ := HRR.out.2 (by rw [HLN.out]; exact h64)
              go_wp2
              go_ret2
              exact ⟨a5, c5, by rw [HLN.out]; rfl, HE5.out, by rw [HB.out]; exact HB5.out⟩
    · have hE : cmE s es1 es2 = vErr (t.size : Int) es2 := by unfold cmE; rw [if_pos hv1, htt, if_neg hv2]
      have hC : cmS s es1 es2 = [] := by unfold cmS; rw [hE, if_neg hv2]
      rw [hE, hC, hl1, hl2]
      rw [hl1, htt, hv1] at A1
      simp only [hl2, huu] at A2
      have hq : (vErr (t.size : Int) es2 != 0) = true := by simp [hv2]
      generalize vErr (t.size : Int) es2 = er at A2 hq hv2 ⊢
      have HA1 := Lib.hid A1; have HA2 := Lib.hid A2
      clear A1 A2 hS1 hS2 hf1 hf2 hl1 hl2 htt huu hE hC hv1 hn1 hn2 ht hu hv2
      go_enter Try.func20, Try.ntmps20
      go_wp2_with fail
      refine HA1.out.mono ?_
      rintro e w1 ⟨rfl, hb1⟩
      have HB1 := Lib.hid hb1
      clear hb1
      go_wp2_with fail
      refine (HA2.out _ HB1.out).mono ?_
      rintro e w2 ⟨rfl, hb2⟩
      have HB2 := Lib.hid (HB1.out.trans (hb2.mono HB1.out.size))
      clear hb2
      go_wp2
      go_ret2
      exact ⟨none, 0, rfl, ES.none _ _, HB2.out⟩
  · have hE : cmE s es1 es2 = vErr (s.size : Int) es1 := by unfold cmE; rw [if_neg hv1]
    have hC : cmS s es1 es2 = [] := by unfold cmS; rw [hE, if_neg hv1]
    rw [hE, hC, hl1, hl2]
    rw [hl1, htt] at A1
    have hq : (vErr (s.size : Int) es1 != 0) = true := by simp [hv1]
    generalize vErr (s.size : Int) es1 = er at A1 hq hv1 ⊢
    have HA1 := Lib.hid A1
    clear A1 hS1 hS2 hf1 hf2 hl1 hl2 htt huu hE hC hv1 hn1 hn2 ht hu
    go_enter Try.func20, Try.ntmps20
    go_wp2_with fail
    refine HA1.out.mono ?_
    rintro e w1 ⟨rfl, hb1⟩
    have HB1 := Lib.hid hb1
    clear hb1
    go_wp2
    go_ret2
    exact ⟨none, 0, rfl, ES.none _ _, HB1.out⟩

end Go.Proofs.Ytfhpllcdlejfjaa
