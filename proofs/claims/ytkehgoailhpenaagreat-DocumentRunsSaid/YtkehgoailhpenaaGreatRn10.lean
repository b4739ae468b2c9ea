/- Texts of one claim, put together: DCn, RDp, RDz, DPrt, DSh, RDg, RDr, RDv, RDq, RDx, DPos, DPg. Each part says what it proves and under which conditions. -/
import Derived.Test.YtkehgoailhpenaaGreatRn09
import Derived.Lib.MinMax
import Derived.Deep.RegionHeld3
import Derived.Deep.RegionWith
import Derived.Deep.AppendLies
import Derived.Deep.RegionLaw

/- The mathematics of composing no edits with a list. It has no conditions. -/
namespace Go.Proofs.YtkehgoailhpenaaGreat
open Go.RowKit Go.Shelf
set_option linter.unusedVariables false

theorem canon_norm {s : List Int} {l : List Ee} (h : Vld s.length 0 l) : norml s (canon s.length 0 [] (srcl s 0 l)) = norml s l := by
  have h1 := cmpl_nil h
  unfold cmpl at h1
  have hz : (srcl s 0 l).map Prod.fst = appl s 0 l := srcl_fst s l 0
  have ht : thru (srcl s 0 l) (srcl (appl s 0 l) 0 []) = srcl s 0 l := by
    rw [srcl_nil _ _ (Nat.zero_le _), thru_slice hz, List.drop_zero, Nat.sub_zero, List.take_of_length_le (by rw [← hz, List.length_map]; exact Nat.le_refl _)]
  rwa [ht] at h1
theorem thru_id {s : List Int} {z : List (Int × Option Nat)} (h : Src s 0 z) : thru (srcl s 0 []) z = z := by
  unfold thru
  rw [srcl_nil _ _ (Nat.zero_le _)]
  conv => rhs; rw [← List.map_id z]
  refine List.map_congr_left fun y hy => ?_
  obtain ⟨c, o⟩ := y
  cases o with
  | none => rfl
  | some k =>
    obtain ⟨i, hi⟩ := List.mem_iff_getElem?.1 hy
    have hk := ((src_iff.1 h).2.1 i k c hi).2
    have hlt := (List.getElem?_eq_some_iff.1 hk).1
    simp only [Option.bind_some, pcs_at, Nat.sub_zero, Nat.zero_add]
    rw [if_pos hlt, hk]
    rfl
/-- Composing no edits with a list gives its normal form. -/
theorem nil_cmpl {s : List Int} {l : List Ee} (h : Vld s.length 0 l) : cmpl s [] l = norml s l := by
  unfold cmpl
  have ha : appl s 0 [] = s := by simp [appl]
  rw [ha, thru_id (srcl_src h)]
  exact canon_norm h
theorem nil_cm {s : ByteArray} {es : List Er} (hv : vErr (s.size : Int) es = 0) : cmE s [] es = 0 ∧ cmS s [] es = nmS s es := by
  have hvld := (vErr_ok hv).2.1
  have hl := (vErr_ok hv).1
  have h1 : cmpl (sb s) (ees []) (ees es) = norml (sb s) (ees es) := nil_cmpl (by rw [sb_len]; exact hvld)
  have h2 : (norml (sb s) (ees es)).length ≤ 64 := by have := norml_len (sb s) (ees es); rw [ees_len] at this; omega
  have hE : cmE s [] es = 0 := by
    unfold cmE
    rw [if_pos (show vErr (s.size : Int) [] = 0 from rfl), apS_nil, if_pos hv, h1, if_neg (by omega)]
  refine ⟨hE, ?_⟩
  unfold cmS nmS
  rw [hE, if_pos rfl, if_pos hv, h1]

end Go.Proofs.YtkehgoailhpenaaGreat

/- The contract of Since, also where a composition has an error. It has no conditions. -/
namespace Go.Proofs.YtkehgoailhpenaaGreat
open Go.RowKit Go.Shelf Go.Maps
set_option linter.unusedVariables false

/-- Since's loop: xs leads from t as far as i of the lists do. -/
structure SncJ (t U : ByteArray) (L : List (List Er)) (i : Nat) (xs : List Er) : Prop where
  v : vErr (t.size : Int) xs = 0
  ch : ChF (apS t xs) (L.drop i)
  sz : (apS t xs).size ≤ 4096
  k : ∀ R, SncR t U xs (L.drop i) R → SncR t U [] L R
theorem SncJ.step {t U : ByteArray} {L : List (List Er)} {i : Nat} {xs y : List Er} (h : SncJ t U L i xs) (hL : L.drop i = y :: L.drop (i + 1)) :
    (apS (apS t xs) y).size ≤ 4096 ∧ (cmE t xs y = 0 → t.size ≤ 4096 → (∀ e ∈ cmS t xs y, e.Fit) ∧ (cmS t xs y).length ≤ 64 ∧ SncJ t U L (i + 1) (cmS t xs y)) ∧ (cmE t xs y ≠ 0 → ∀ R, DifR t U R → SncR t U [] L R) := by
  have hc := h.ch
  have hk := h.k
  rw [hL] at hc hk
  obtain ⟨c1, c2, c3⟩ := hc
  refine ⟨c2, fun hz ht => ?_, fun hz R hR => hk R (by unfold SncR; rw [if_neg hz]; exact hR)⟩
  obtain ⟨k1, k2, k3, k4⟩ := comp_to h.v c1 hz
  refine ⟨fit_of k1 (by omega) (fun e he => by have := k4 e he; omega), k3, k1, by rw [k2]; exact c3, by rw [k2]; exact c2, fun R hR => hk R (by unfold SncR; rw [if_pos hz]; exact hR)⟩
theorem SncJ.fin {t U : ByteArray} {L : List (List Er)} {i : Nat} {xs : List Er} (h : SncJ t U L i xs) (hi : L.length ≤ i) : SncR t U [] L xs :=
  h.k xs (by rw [List.drop_eq_nil_of_le hi]; rfl)

/-- What a Since hands back. -/
def SncP (w : World) (K : Prop) (t u : ByteArray) (L : List (List Er)) (e : Ending) (w' : World) : Prop :=
  Below w.heap.size w w' ∧ ((¬ K ∧ e = .returned (.tuple #[.slice none 0 0, .int .i64 7])) ∨ (K ∧ ∃ R a cap, SncR t u [] L R ∧ e = .returned (.tuple #[.slice a R.length cap, .int .i64 0]) ∧ ES w'.heap.size w' a cap R))

set_option maxRecDepth 100000 in
set_option maxHeartbeats 4000000 in
theorem since2_any (T G : Nat → Prop) (p : Nat) (s : DS) (w : World) (h : DocI T G w p s) (x : Int) (hx1 : -9223372036854775808 ≤ x) (hx2 : x ≤ 9223372036854775807) (k : Nat) (hkx : oldS s ≤ x ∧ x ≤ s.v → (k : Int) = x - oldS s) (t : ByteArray) (L : List (List Er)) (hL9 : oldS s ≤ x ∧ x ≤ s.v → ∃ hk : k < s.ss.length, (s.ss[k]).1 = t ∧ nexts s k = L ∧ ChF t L) :
    Calls Tryz.prog 27 #[.pointer (some ⟨p, 0, none⟩), .int .i64 x] w (SncP w (oldS s ≤ x ∧ x ≤ s.v) t s.text L) := by
  have CF := Lib.hid (from_any T G p s w h x hx1 hx2)
  have HTXT : Hid (∀ W, Below w.heap.size w W → Calls Tryz.prog 13 #[.pointer (some ⟨p, 0, none⟩)] W fun e w' => e = .returned (.string s.text) ∧ Below W.heap.size W w') := fun W hW => text_any T G p s W (h.below hW)
  have htsz : s.text.size ≤ 4096 := by
    unfold DS.text
    cases hq : s.ss.getLast? with
    | none => show (⟨#[]⟩ : ByteArray).size ≤ 4096; decide
    | some x => exact h.ok.text x (List.mem_of_getLast? hq)
  obtain ⟨U, hU⟩ : ∃ U, s.text = U := ⟨_, rfl⟩
  rw [hU] at HTXT htsz ⊢
  by_cases hin : oldS s ≤ x ∧ x ≤ s.v
  case neg =>
    have HIN := Lib.hid hin
    clear h hin hL9 hkx
    go_enter Tryz.func27, Tryz.ntmps27
    go_wp2_with fail
    refine CF.out.mono ?_
    rintro e w1 ⟨b1, hw⟩
    have B1 := Lib.hid b1
    have he := (hw.resolve_right (fun hh => HIN.out hh.1)).2
    subst he
    clear b1 hw
    go_wp2_with fail
    go_ret2
    exact ⟨B1.out, .inl ⟨HIN.out, rfl⟩⟩
  have hkx := hkx hin
  obtain ⟨hk, ht, hL, hch⟩ := hL9 hin
  clear hL9
  have HNG : Hid (∀ i, i < (nexts s k).length → (nexts s k)[i]? = (s.ss[k + i]?).map Prod.snd) := fun i hi => nexts_at hk hi
  have hlen := h.ok.len
  have hets := h.ok.eds
  have htz : t.size ≤ 4096 := by rw [← ht]; exact h.ok.text _ (List.getElem_mem _)
  have hTl := h.lt
  have hGl := h.glt
  obtain ⟨n, hn⟩ : ∃ n, s.ss.length = n := ⟨_, rfl⟩
  have hnl := nexts_len hk
  have HET := Lib.hid hets; have HTX := Lib.hid ht; have HTL := Lib.hid hTl; have HGL := Lib.hid hGl; have HIN := Lib.hid hin; have HNL := Lib.hid hnl; have HNN := Lib.hid hn
  have HL := Lib.hid hL
  have HOK := Lib.hid hch
  have HKX := Lib.hid hkx
  have HK := Lib.hid hk
  have hk' : k < n := by omega
  have hn17 : n ≤ 17 := by omega
  clear hL hnl hets hTl hGl hin ht hkx h hn hlen hch hU
  go_enter Tryz.func27, Tryz.ntmps27
  go_wp2_with fail
  refine CF.out.mono ?_
  rintro e w1 ⟨b1, hw⟩
  have B1 := Lib.hid b1
  obtain ⟨g, cap, vs, k2, hk2, hk3, he, hcap, hTg, h3, hst⟩ := (hw.resolve_left (fun hh => hh.1 HIN.out)).2
  obtain rfl : k2 = k := by have := HKX.out; omega
  subst he
  have hvl := h3.len
  have hglt := HTL.out g hTg
  have hgk : ∀ V, Below w.heap.size w V → V.heap[g]? = w.heap[g]? := fun V hV => hV.block g hglt
  rw [HNN.out] at hcap ⊢
  have hvn : vs.length = n := by rw [hvl]; exact HNN.out
  have HALL : Hid (∀ i, k2 + i < n → ∃ (y : ByteArray × List Er) (nx : Value), s.ss[k2 + i]? = some y ∧ EsG G w nx y.2 ∧ ∀ V, Below w.heap.size w V → V.cell? ⟨g, k2 * 2 + i * 2, none⟩ = some (.string y.1) ∧ V.cell? ⟨g, k2 * 2 + i * 2 + 1, none⟩ = some nx) := fun i hi => by
    have h9 := h3.at_ (k2 + i) (by omega) (by omega)
    refine ⟨s.ss[k2 + i]'(by omega), (vs[k2 + i]'(by omega)).2, List.getElem?_eq_getElem _, h9.2, fun V hV => ?_⟩
    have := hst V (hgk V hV) (k2 + i) (by omega)
    rw [show (k2 + i) * 2 = k2 * 2 + i * 2 by omega, h9.1] at this
    exact this
  obtain ⟨y0, nx0, hy0, _, hc0⟩ := HALL.out 0 (by omega)
  have c0 := (hc0 w1 B1.out).1
  have ht0 : y0.1 = t := by
    have hk9 := HK.out
    rw [Nat.add_zero, List.getElem?_eq_getElem hk9] at hy0
    rw [← Option.some.inj hy0]; exact HTX.out
  rw [ht0] at c0
  simp only [Nat.zero_mul, Nat.add_zero] at c0
  obtain ⟨N, hN⟩ : ∃ N, n - k2 = N := ⟨_, rfl⟩
  obtain ⟨M, hM⟩ : ∃ M, M + 1 = N := ⟨N - 1, by omega⟩
  have hML : L.length = M := by rw [← HL.out, HNL.out, HNN.out]; omega
  obtain ⟨cp, hcp⟩ : ∃ c, cap - k2 = c := ⟨_, rfl⟩
  rw [hN, hcp]
  have hN1 : IntKind.i64.wrap ((N : Int) - 1) = (M : Int) := by simp [IntKind.wrap, IntKind.signed, IntKind.bits]; omega
  have hNn : ¬ (N : Int) = 0 := by omega
  have hN0 : (0 : Int) < (N : Int) := by omega
  have hMN : (M : Int) ≤ (cp : Int) := by omega
  have hM17 : M ≤ 17 := by omega
  have hNz : ((N : Int) == 0) = false := by simp; omega
  have HVN := Lib.hid hvn; have HMM := Lib.hid (And.intro hM hN); have HML := Lib.hid hML
  have HE0 : Hid (ES w1.heap.size w1 none 0 [] ∧ (∀ e ∈ ([] : List Er), e.Fit) ∧ ([] : List Er).length ≤ 64 ∧ SncJ t U L 0 []) := ⟨ES.none _ _, fun e he => by simp at he, Nat.zero_le _, rfl, by rw [apS_nil]; exact HOK.out, by rw [apS_nil]; exact htz, fun R h => h⟩
  clear hw b1 hk2 hk3 h3 hst hvl hgk hvn ht0 hN hM hML hcp hc0 hy0
  go_wp2_with fail
  go_loopw [8, 29] (fun u q wr => ∃ (i : Nat) (xs : List Er) (ax : Option Addr) (cx : Nat), i ≤ M ∧ q = .int .i64 (i : Int) ∧ u = .slice ax xs.length cx ∧ Hid (ES wr.heap.size wr ax cx xs ∧ (∀ e ∈ xs, e.Fit) ∧ xs.length ≤ 64 ∧ SncJ t U L i xs) ∧ Hid (Below w.heap.size w wr)) (fun _ q _ => M - (intOf q).toNat)
  case atStart => exact ⟨0, [], none, 0, by omega, rfl, rfl, HE0, B1.out⟩
  case round =>
    obtain ⟨i, xs, ax, cx, hi, rfl, rfl, HX, HR⟩ := hrel
    by_cases hlt : i < M
    · have hkk : (i : Int) < (M : Int) := by omega
      obtain ⟨y, nx, hy, hnx, hcl⟩ := HALL.out i (by have := HMM.out; omega)
      obtain ⟨an, cn, rfl, hEn⟩ := hnx.es
      obtain ⟨d0, d1⟩ := hcl wr HR.out
      obtain ⟨yt, ye⟩ := y
      simp only at d0 d1 hEn hnx
      obtain ⟨e1, e2, e3, e4⟩ := HX.out
      have hLi : L.drop i = ye :: L.drop (i + 1) := by
        have h8 : i < L.length := by rw [HML.out]; exact hlt
        rw [List.drop_eq_getElem_cons h8]
        congr 1
        have := HNG.out i (by rw [HL.out]; exact h8)
        rw [hy, HL.out, List.getElem?_eq_getElem h8] at this
        simpa using this
      have q0 := e4.step hLi
      have hye := HET.out (yt, ye) (List.mem_of_getElem? hy)
      simp only at hye
      obtain ⟨ln, hln⟩ : ∃ n, ye.length = n := ⟨_, rfl⟩
      rw [hln] at d1
      have HC : Hid (∀ W, Below wr.heap.size wr W → Calls Tryz.prog 59 #[.string t, .slice ax xs.length cx, .slice an ln cn] W fun e w' => NewES W (cmS t xs ye) (cmE t xs ye) e w') := fun W hW => by
        have h1 : ES W.heap.size W an cn ye := hEn.on (HR.out.trans (hW.mono HR.out.size))
        have := pcompose_any t ax an cx cn xs ye W (by omega) (by have := e4.sz; omega) (by have := q0.1; omega) (by omega) (by omega) e2 hye.2 (e1.on hW) h1
        rw [hln] at this
        exact this
      obtain ⟨X, hX⟩ : ∃ x, cmS t xs ye = x := ⟨_, rfl⟩
      obtain ⟨CE, hCE⟩ : ∃ x, cmE t xs ye = x := ⟨_, rfl⟩
      rw [hX, hCE] at HC
      have HQ : Hid (CE = 0 → (∀ e ∈ X, e.Fit) ∧ X.length ≤ 64 ∧ SncJ t U L (i + 1) X) := fun hz => by rw [← hX]; exact q0.2.1 (hCE.trans hz) htz
      have HQ2 : Hid (CE ≠ 0 → ∀ R, DifR t U R → SncR t U [] L R) := fun hz => q0.2.2 (by rw [hCE]; exact hz)
      have HBW : Hid (Below wr.heap.size wr (wr.alloc (.cells #[.string yt, .slice an ln cn] 68))) := (Below.refl _ _).alloc (Nat.le_refl _) _
      clear hy hnx hcl hEn e1 e2 e3 e4 hLi q0 hye hln hX hCE
      go_wp2_with fail
      refine (HC.out _ HBW.out).mono ?_
      rintro e w7 ⟨a7, c7, rfl, hE7, b7⟩
      have HE7 := Lib.hid hE7
      have H7 : Hid (Below w.heap.size w w7) := HR.out.trans ((HBW.out.trans (b7.mono HBW.out.size)).mono HR.out.size)
      clear hE7 b7
      by_cases hz : CE = 0
      · subst hz
        have HX7 : Hid (ES w7.heap.size w7 a7 c7 X ∧ (∀ e ∈ X, e.Fit) ∧ X.length ≤ 64 ∧ SncJ t U L (i + 1) X) := ⟨HE7.out, HQ.out rfl⟩
        go_wp2
        go_roundw
        case rel => exact ⟨i + 1, X, a7, c7, by omega, by go_num, rfl, HX7, H7⟩
        case measure => simp [intOf]; omega
      · have hzb : (CE != 0) = true := by simp [hz]
        have HD9 : Hid (∀ W, Calls Tryz.prog 60 #[.string t, .string U] W fun e w' => ∃ es, DifR t U es ∧ NewE1 W es e w') := fun W => pdiff_all t U W (by omega) (by omega)
        have HQ3 := Lib.hid (HQ2.out hz)
        clear hz
        go_wp2_with fail
        refine (HTXT.out w7 H7.out).mono ?_
        rintro e w8 ⟨rfl, b8⟩
        have H8 : Hid (Below w.heap.size w w8) := H7.out.trans (b8.mono H7.out.size)
        clear b8
        go_wp2_with fail
        refine (HD9.out w8).mono ?_
        rintro e w9 ⟨es, hdr, a9, c9, rfl, hE9, b9⟩
        have H9 : Hid (Below w.heap.size w w9) := H8.out.trans (b9.mono H8.out.size)
        have HF9 := Lib.hid (And.intro (HQ3.out es hdr) hE9)
        clear hdr hE9 b9
        go_wp2_with fail
        go_ret2
        exact ⟨H9.out, .inr ⟨HIN.out, es, a9, c9, HF9.out.1, rfl, HF9.out.2⟩⟩
    · obtain rfl : M = i := by omega
      have HFR := Lib.hid (HX.out.2.2.2.fin (Nat.le_of_eq HML.out))
      go_wp2_with fail
      go_ret2
      exact ⟨HR.out, .inr ⟨HIN.out, xs, ax, cx, HFR.out, rfl, HX.out.1⟩⟩

end Go.Proofs.YtkehgoailhpenaaGreat

/- The contract of the document's At. It has no conditions. -/
namespace Go.Proofs.YtkehgoailhpenaaGreat
open Go.RowKit Go.Shelf Go.Maps
set_option linter.unusedVariables false

/-- What an At hands back. -/
def AtP (w : World) (K : Prop) (t : ByteArray) (e : Ending) (w' : World) : Prop :=
  Below w.heap.size w w' ∧ ((¬ K ∧ e = .returned (.tuple #[.string ⟨#[]⟩, .int .i64 7])) ∨ (K ∧ e = .returned (.tuple #[.string t, .int .i64 0])))

end Go.Proofs.YtkehgoailhpenaaGreat

/- The contracts of part, and of Chain where no change is asked for. It has no conditions. -/
namespace Go.Proofs.YtkehgoailhpenaaGreat
open Go.RowKit Go.Shelf
set_option linter.unusedVariables false

set_option maxRecDepth 100000 in
set_option maxHeartbeats 2000000 in
theorem part_any (a : Option Addr) (cap : Nat) (ls : List Int) (x n : Nat) (w : World) (h : Sli .i64 w a cap ls) (hx : x ≤ 1000000) (hn : n ≤ 1000000) :
    Calls Tryz.prog 30 #[.slice a ls.length cap, .int .i64 (x : Int), .int .i64 (n : Int)] w fun e w' => w = w' ∧ ∃ a' c', e = .returned (.slice a' ((ls.drop x).take n).length c') ∧ Sli .i64 w a' c' ((ls.drop x).take n) := by
  obtain ⟨hle, hmx, hnil, hc⟩ := h
  obtain ⟨N, hN⟩ : ∃ N, ls.length = N := ⟨_, rfl⟩
  obtain ⟨A, hA⟩ : ∃ A, min x N = A := ⟨_, rfl⟩
  obtain ⟨H, hH⟩ : ∃ H, min N (A + n) = H := ⟨_, rfl⟩
  have hlen : ((ls.drop x).take n).length = H - A := by rw [List.length_take, List.length_drop]; omega
  have m1 : min (x : Int) (N : Int) = (A : Int) := by omega
  have m2 : min (N : Int) ((A : Int) + (n : Int)) = (H : Int) := by omega
  have hAH : (A : Int) ≤ (H : Int) := by omega
  have hHc : (H : Int) ≤ (cap : Int) := by omega
  have hA0 : (0 : Int) ≤ (A : Int) := by omega
  rw [hN, hlen]
  have HC := Lib.hid hc; have HN := Lib.hid hN; have HA := Lib.hid hA; have HH := Lib.hid hH; have HL := Lib.hid hlen
  cases a with
  | none =>
    obtain rfl : cap = 0 := hnil rfl
    obtain rfl : N = 0 := by omega
    obtain rfl : A = 0 := by omega
    obtain rfl : H = 0 := by omega
    have r1 : min (x : Int) 0 = 0 := by omega
    have r2 : min (0 : Int) (n : Int) = 0 := by omega
    have r3 : min (0 : Int) (0 + (n : Int)) = 0 := by omega
    clear hc hN hA hH hlen hnil m1 m2
    go_enter Tryz.func30, Tryz.ntmps30
    go_wp2
    go_ret
    have h0 : (ls.drop x).take n = [] := List.eq_nil_of_length_eq_zero HL.out
    exact ⟨rfl, none, 0, rfl, ⟨by rw [h0]; simp, by omega, fun _ => rfl, by rw [h0]; exact .inl rfl⟩⟩
  | some ad =>
    have HS : Hid (∀ a' c', (H - A = 0 ∧ c' = 0 ∧ a' ≠ none) ∨ (a' = some (ad.add A) ∧ c' = cap - A) → Sli .i64 w a' c' ((ls.drop x).take n)) := by
      intro a' c' h
      rcases h with ⟨h0, rfl, h1⟩ | ⟨rfl, rfl⟩
      · have he : (ls.drop x).take n = [] := List.eq_nil_of_length_eq_zero (by omega)
        exact ⟨by rw [he]; simp, by omega, fun _ => rfl, by rw [he]; exact .inl rfl⟩
      · refine ⟨by omega, by omega, (fun h => by cases h), ?_⟩
        by_cases h0 : H - A = 0
        · exact .inl (List.eq_nil_of_length_eq_zero (by omega))
        · rcases hc with rfl | ⟨b, off, ha, hlt, hcc⟩
          · simp at hN; omega
          · cases ha
            have hAx : A = x := by omega
            refine .inr ⟨b, off + A, ?_, hlt, fun j hj => ?_⟩
            · by_cases hz : A = 0 <;> simp [Addr.add, hz]
            · rw [show off + A + j = off + (x + j) by omega, hcc (x + j) (by omega)]
              rw [List.getElem?_take, if_pos (by omega), List.getElem?_drop]
    clear hc hN hA hH hlen hnil
    go_enter Tryz.func30, Tryz.ntmps30
    go_wp2
    all_goals
      go_ret
      first
        | exact ⟨rfl, _, _, rfl, HS.out _ _ (.inr ⟨rfl, rfl⟩)⟩
        | exact ⟨rfl, _, _, rfl, HS.out _ _ (.inl ⟨by omega, by omega, by simp⟩)⟩

set_option maxRecDepth 100000 in
set_option maxHeartbeats 2000000 in
theorem chain0_any (a : Option Addr) (cap : Nat) (ls : List Int) (w : World) (h : Sli .i64 w a cap ls) (hi : ∀ n ∈ ls, -9223372036854775808 ≤ n ∧ n ≤ 9223372036854775807) :
    Calls Tryz.prog 6 #[.slice a ls.length cap, .int .i64 0] w fun e w' => ∃ S, e = .returned (.tuple #[.string S, .slice none 0 0]) ∧ S.size ≤ 96 ∧ Whl (sb S) ∧ Below w.heap.size w w' := by
  have C1 := Lib.hid (part_any a cap ls 0 12 w h (by omega) (by omega))
  have hi2 : ∀ n ∈ (ls.drop 0).take 12, -9223372036854775808 ≤ n ∧ n ≤ 9223372036854775807 := fun n hn => hi n (List.mem_of_mem_drop (List.mem_of_mem_take hn))
  obtain ⟨L, hL⟩ : ∃ l, (ls.drop 0).take 12 = l := ⟨_, rfl⟩
  obtain ⟨N, hN⟩ : ∃ l, ls.length = l := ⟨_, rfl⟩
  rw [hL] at C1 hi2
  rw [hN] at C1 ⊢
  have HI2 := Lib.hid hi2
  clear h hi hi2 hL hN
  go_enter Tryz.func6, Tryz.ntmps6
  go_wp2_with fail
  refine C1.out.mono ?_
  rintro e w0 ⟨rfl, a1, c1, rfl, hs⟩
  have C2 := Lib.hid (rtext_any a1 c1 L w hs HI2.out)
  clear hs
  go_wp2_with fail
  refine C2.out.mono ?_
  rintro e w1 ⟨S, rfl, hSl, hSw, b1⟩
  have HB := Lib.hid b1; have HW := Lib.hid hSw
  clear b1 hSw
  go_wp2_with fail
  go_loopw [7, 8, 9] (fun s o q wr => s = .string S ∧ o = .slice none 0 0 ∧ q = .int .i64 0 ∧ Hid (Below w.heap.size w wr)) (fun _ _ _ _ => 0)
  case atStart => exact ⟨rfl, rfl, rfl, HB⟩
  case round =>
    obtain ⟨rfl, rfl, rfl, HR⟩ := hrel
    go_wp2_with fail
    go_ret2
    exact ⟨S, rfl, hSl, HW.out, HR.out⟩

end Go.Proofs.YtkehgoailhpenaaGreat

/- The contract of Shuffled. Conditions: at most 16 changes. -/
namespace Go.Proofs.YtkehgoailhpenaaGreat
open Go.RowKit Go.Shelf Go.Maps
set_option linter.unusedVariables false

/-- An order in which changes arrive: every one of them, none else. -/
structure Arr (n : Nat) (ks : List Nat) : Prop where
  lt : ∀ k ∈ ks, k < n
  all : ∀ k, k < n → k ∈ ks
def pickL (vs : List (Int × Value)) (ks : List Nat) : List (Int × Value) := ks.map (cG vs)
theorem pickL_len (vs : List (Int × Value)) (ks : List Nat) : (pickL vs ks).length = ks.length := by simp [pickL]
theorem cG_pickL {vs : List (Int × Value)} {ks : List Nat} {i : Nat} (h : i < ks.length) : cG (pickL vs ks) i = cG vs (ks[i]) := by
  unfold pickL
  rw [show cG (ks.map (cG vs)) i = ((ks.map (cG vs))[i]?).getD (0, .slice none 0 0) from rfl, List.getElem?_map, List.getElem?_eq_getElem h]
  rfl
theorem pickL_range (vs : List (Int × Value)) : pickL vs (List.range vs.length) = vs := by
  unfold pickL
  refine List.ext_getElem (by simp) (fun i h1 h2 => ?_)
  rw [List.getElem_map, List.getElem_range]
  unfold cG
  rw [List.getElem?_eq_getElem h2]; rfl
theorem pickL_ok {vs : List (Int × Value)} {ks : List Nat} (hv : VOk vs) (hk : ∀ k ∈ ks, k < vs.length) : VOk (pickL vs ks) := by
  intro x hx
  obtain ⟨k, h1, rfl⟩ := List.mem_map.1 hx
  exact hv _ (cG_mem (hk k h1))
theorem cv_put : ∀ (us : List (Int × Value)) (k : Nat) (h : k < us.length) (x : Int) (u : Value), ((cv us).set (k * 2) (.int .i64 x)).set (k * 2 + 1) u = cv (us.set k (x, u)) := by
  intro us
  induction us with
  | nil => intro k h; simp at h
  | cons y us ih =>
    intro k h x u
    have e : cv (y :: us) = Value.int .i64 y.1 :: y.2 :: cv us := rfl
    rw [e]
    cases k with
    | zero => rfl
    | succ k =>
      have := ih k (by simpa using h) x u
      rw [show (k + 1) * 2 = (k * 2) + 1 + 1 by omega, List.set_cons_succ, List.set_cons_succ, List.set_cons_succ, List.set_cons_succ, this]
      rfl
/-- Two are exchanged. -/
theorem pickL_swap (vs : List (Int × Value)) {ks : List Nat} {i k : Nat} (hi : i < ks.length) (hk : k < ks.length) : ((pickL vs ks).set i (cG (pickL vs ks) k)).set k (cG (pickL vs ks) i) = pickL vs ((ks.set i ks[k]).set k ks[i]) := by
  rw [cG_pickL hi, cG_pickL hk]
  unfold pickL
  rw [List.map_set, List.map_set]
theorem Arr.swap {n : Nat} {ks : List Nat} (h : Arr n ks) {i k : Nat} (hi : i < ks.length) (hk : k < ks.length) : Arr n ((ks.set i ks[k]).set k ks[i]) := by
  have hp := List.set_set_perm hi hk
  exact ⟨fun x hx => h.lt x (hp.mem_iff.1 hx), fun x hx => hp.mem_iff.2 (h.all x hx)⟩
theorem Arr.range (n : Nat) : Arr n (List.range n) := ⟨fun k hk => List.mem_range.1 hk, fun k hk => List.mem_range.2 hk⟩
theorem Arr.put {n : Nat} {ks : List Nat} (h : Arr n ks) {x : Nat} (hx : x < n) (k : Nat) : Arr n (ks.take k ++ [x] ++ ks.drop k) := by
  refine ⟨fun y hy => ?_, fun y hy => ?_⟩
  · rcases List.mem_append.1 hy with h1 | h1
    · rcases List.mem_append.1 h1 with h2 | h2
      · exact h.lt y (List.mem_of_mem_take h2)
      · simp at h2; omega
    · exact h.lt y (List.mem_of_mem_drop h1)
  · have := h.all y hy
    rw [← List.take_append_drop k ks] at this
    rcases List.mem_append.1 this with h1 | h1
    · exact List.mem_append_left _ (List.mem_append_left _ h1)
    · exact List.mem_append_right _ h1
theorem pickL_put (vs : List (Int × Value)) (ks : List Nat) (x k : Nat) : (pickL vs ks).take k ++ [cG vs x] ++ (pickL vs ks).drop k = pickL vs (ks.take k ++ [x] ++ ks.drop k) := by
  unfold pickL
  simp [List.map_take, List.map_drop]
/-- The row behind a store of a change. -/
theorem row_put {w : World} {lo g n cap : Nat} {us : List (Int × Value)} (h : w.ownsRow lo 47 2 (.slice (some ⟨g, 0, none⟩) n cap) n (cv us)) {k : Nat} (hk : k < us.length) (x : Int) (u : Value) :
    ((w.setCell ⟨g, k * 2, none⟩ (.int .i64 x)).setCell ⟨g, k * 2 + 1, none⟩ u).ownsRow lo 47 2 (.slice (some ⟨g, 0, none⟩) n cap) n (cv (us.set k (x, u))) := by
  have h1 := (h.stored (k * 2) (.int .i64 x)).1
  have h2 := (h1.stored (k * 2 + 1) u).1
  rw [cv_put us k hk] at h2
  exact h2

theorem cv_take : ∀ (us : List (Int × Value)) (k : Nat), cv (us.take k) = (cv us).take (k * 2) := by
  intro us
  induction us with
  | nil => intro k; simp [cv]
  | cons x us ih =>
    intro k
    cases k with
    | zero => simp [cv]
    | succ k =>
      have e : cv (x :: us) = Value.int .i64 x.1 :: x.2 :: cv us := rfl
      have e2 : cv ((x :: us).take (k + 1)) = Value.int .i64 x.1 :: x.2 :: cv (us.take k) := rfl
      rw [e, e2, ih k, show (k + 1) * 2 = k * 2 + 1 + 1 by omega]; rfl
theorem cv_drop : ∀ (us : List (Int × Value)) (k : Nat), cv (us.drop k) = (cv us).drop (k * 2) := by
  intro us
  induction us with
  | nil => intro k; simp [cv]
  | cons x us ih =>
    intro k
    cases k with
    | zero => simp [cv]
    | succ k =>
      have e : cv (x :: us) = Value.int .i64 x.1 :: x.2 :: cv us := rfl
      rw [e, List.drop_succ_cons, ih k, show (k + 1) * 2 = k * 2 + 1 + 1 by omega]; rfl
/-- The cells of a row's changes, from one on. -/
theorem row_news {w : World} {lo g n cap : Nat} {us : List (Int × Value)} (h : w.ownsRow lo 47 2 (.slice (some ⟨g, 0, none⟩) n cap) n (cv us)) (hn : us.length = n) :
    (∀ r, ∀ j u, (cv (us.take r))[j]? = some u → w.cell? ((⟨g, 0, none⟩ : Addr).add j) = some u) ∧ (∀ r, ∀ j u, (cv (us.drop r))[j]? = some u → w.cell? ((⟨g, r * 2, none⟩ : Addr).add j) = some u) := by
  have hl : (cv us).length = n * 2 := by rw [cv_len, hn]
  refine ⟨fun r j u hj => ?_, fun r j u hj => ?_⟩
  · rw [cv_take, List.getElem?_take] at hj
    split at hj
    · have hlt := (List.getElem?_eq_some_iff.1 hj).1
      rw [addr_add, Nat.zero_add, h.cellAt j (by omega), hj]
    · cases hj
  · rw [cv_drop, List.getElem?_drop] at hj
    have hlt := (List.getElem?_eq_some_iff.1 hj).1
    rw [addr_add, h.cellAt (r * 2 + j) (by omega), hj]
theorem own_some {w : World} {base e size n g cap : Nat} {xs : List Value} (h : w.ownsRow base e size (.slice (some ⟨g, 0, none⟩) n cap) n xs) (j : Nat) (hj : j < n * size) : ∃ u, w.cell? ⟨g, j, none⟩ = some u := by
  have hl := h.1
  exact ⟨xs[j]'(by omega), by rw [h.cellAt j hj, List.getElem?_eq_getElem (by omega)]⟩

end Go.Proofs.YtkehgoailhpenaaGreat

/- The contract of the reference's Receive. Conditions: at most 850 versions. -/
namespace Go.Proofs.YtkehgoailhpenaaGreat
open Go.RowKit Go.Shelf Go.Maps
set_option linter.unusedVariables false

theorem RDocI.drewN {T G : Nat → Prop} {w : World} {p : Nat} {r : RS} (h : RDocI T G w p r) (n : Nat) : RDocI T G (w.drewN n) p r := h.below (below_drewN (Below.refl _ _) n)
theorem rhldF_le : ∀ (f : Nat) (r : RS), (rhldF f r).1 ≤ f := by
  intro f
  induction f with
  | zero => intro r; exact Nat.le_refl _
  | succ f ih =>
    intro r
    simp only [rhldF]
    split
    · split
      · have := ih (rapS (rdropH r) (heldI r.hs (r.v + 1))); simp only; omega
      · exact Nat.zero_le _
    · exact Nat.zero_le _
theorem rapS_len (r : RS) (ps : List PE) : (rapS r ps).h.length = r.h.length + 1 := by unfold rapS becS; simp
theorem rapS_hs (r : RS) (ps : List PE) : (rapS r ps).hs = r.hs := rfl
/-- The loop's state: what is still to come. -/
def RlI (H : Nat) (s : RS) (k f : Nat) (s' : RS) : Prop := rhldF H s = (k + (rhldF f s').1, (rhldF f s').2) ∧ s'.hs.length ≤ f
/-- The held change at i is taken out: the first append. -/
theorem rdrop_step {T G : Nat → Prop} {w w5 : World} {p : Nat} {r : RS} {vH v5 : Value} {hv : List (Int × Value)} {i : Nat} (h : RDocI T G w p r) (hc : w.cell? ⟨p, 3, none⟩ = some vH) (h6 : HeldA G w hv r.hs) (hi : i < r.hs.length) (hfi : findI r.hs (r.v + 1) 0 = (i : Int)) (hb : Below w.heap.size w w5)
    (o5 : w5.ownsRow 0 47 2 v5 (r.hs.length - 1) (cv (hv.take i) ++ cv (hv.drop (i + 1)))) (a5 : ∀ b, v5.ownBlock = some b → w.heap.size ≤ b) :
    ∃ T', RDocI T' G (w5.setCell ⟨p, 3, none⟩ v5) p (rdropH r) ∧ Stp T G T' G w (w5.setCell ⟨p, 3, none⟩ v5) := by
  have he : rdropH r = ⟨r.f, r.h, r.hs.eraseIdx i⟩ := by unfold rdropH; rw [hfi]; rfl
  have hl : (r.hs.eraseIdx i).length = r.hs.length - 1 := by rw [List.length_eraseIdx, if_pos hi]
  rw [he]
  rw [← cv_erase, ← hl] at o5
  obtain ⟨T', q1, q2, q3⟩ := h.setHeld (G' := G) hc (Only.of_below hb) (fun b hlt _ => hb.block b hlt) o5 (.inr a5) ((h6.erase i).on hb) (fun _ h => h) (fun b hG => ⟨h.glt b hG, fun hT => h.apart b hT hG⟩)
    (by have := h.ok.hlen; omega) (fun x hx => h.ok.held x (List.mem_of_mem_eraseIdx hx)) (fun x hx => h.ok.hk x (List.mem_of_mem_eraseIdx hx))
  exact ⟨T', q1, q2, q3, fun b hb => .inl hb⟩
/-- A change is held. -/
theorem rhold_step {T G : Nat → Prop} {w w5 : World} {p : Nat} {r : RS} {vH v5 u : Value} {hv : List (Int × Value)} {k : Int} {ps : List PE} (h : RDocI T G w p r) (hc : w.cell? ⟨p, 3, none⟩ = some vH) (h6 : HeldA G w hv r.hs) (hO : Only T w w5) (hsame : ∀ b, b < w.heap.size → vH.ownBlock ≠ some b → w5.heap[b]? = w.heap[b]?)
    (hu : PsG G w u ps) (o5 : w5.ownsRow 0 47 2 v5 (r.hs.length + 1) (cv hv ++ [.int .i64 k, u])) (a5 : v5.ownBlock = vH.ownBlock ∨ ∀ b, v5.ownBlock = some b → w.heap.size ≤ b) (hl : r.hs.length < 16) (hk1 : 1 ≤ k) (hk2 : k ≤ 1099511627776) (hn : ps.length ≤ 64) (hf : ∀ q ∈ ps, q.fit ∧ q.t.size ≤ 100000) :
    ∃ T', RDocI T' G (w5.setCell ⟨p, 3, none⟩ v5) p (rholdS r k ps) ∧ Stp T G T' G w (w5.setCell ⟨p, 3, none⟩ v5) := by
  have hG : ∀ b, G b → b < w.heap.size → w5.heap[b]? = w.heap[b]? := fun b hb hlt => hO.block b hlt (fun hT => h.apart b hT hb)
  have o6 : w5.ownsRow 0 47 2 v5 (r.hs ++ [(k, ps)]).length (cv (hv ++ [(k, u)])) := by
    rw [cv_app, List.length_append]; exact o5
  obtain ⟨T', q1, q2, q3⟩ := h.setHeld (G' := G) hc hO hsame o6 a5 ((h6.snoc hu).keep hO.size hG (fun _ h => h)) (fun _ h => h) (fun b hG => ⟨h.glt b hG, fun hT => h.apart b hT hG⟩)
    (by rw [List.length_append]; simp; omega)
    (fun x hx => by rcases List.mem_append.1 hx with hx | hx; · exact h.ok.held x hx
                    · simp only [List.mem_singleton] at hx; subst hx; exact ⟨hn, hf⟩)
    (fun x hx => by rcases List.mem_append.1 hx with hx | hx; · exact h.ok.hk x hx
                    · simp only [List.mem_singleton] at hx; subst hx; exact ⟨hk1, hk2⟩)
  exact ⟨T', q1, q2, q3, fun b hb => .inl hb⟩

end Go.Proofs.YtkehgoailhpenaaGreat

/- The contract of the reference's Receive. Conditions: at most 850 versions. -/
namespace Go.Proofs.YtkehgoailhpenaaGreat
open Go.RowKit Go.Shelf Go.Maps
set_option linter.unusedVariables false

set_option maxRecDepth 100000 in
set_option maxHeartbeats 4000000 in
theorem rrcv_err (T G : Nat → Prop) (p : Nat) (r : RS) (w : World) (h : RDocI T G w p r) (hlen : r.h.length ≤ 850) (k : Int) (h1 : -9223372036854775808 ≤ k) (h2 : k ≤ 9223372036854775807) (a : Option Addr) (cap : Nat) (ps : List PE) (hP : PS w.heap.size w a cap ps) (hn : ps.length ≤ 1000) (hf : ∀ q ∈ ps, q.fit ∧ q.t.size ≤ 100000) (hG : ps.length ≠ 0 → ∀ b, blkOf a b → G b) (E : Int) (hE : (rrcvF r k ps).1 = (0, E)) (hE0 : E ≠ 0) (hna : ¬ (1 ≤ k ∧ k ≤ 1099511627776 ∧ ps.length ≤ 64 ∧ r.v < k ∧ ¬ 0 ≤ findI r.hs k 0 ∧ ¬ r.v + 1 < k)) :
    Calls Tryz.prog 18 #[.pointer (some ⟨p, 0, none⟩), .agg #[.int .i64 k, .slice a ps.length cap]] w fun e w' =>  e = .returned (.tuple #[.int .i64 0, .int .i64 E]) ∧ (rrcvF r k ps).2 = r ∧ Below w.heap.size w w' := by
  obtain ⟨n, hn'⟩ : ∃ n, ps.length = n := ⟨_, rfl⟩
  obtain ⟨W1, hW1⟩ : ∃ W, w.alloc (.cells #[.int .i64 k, .slice a n cap] 47) = W := ⟨_, rfl⟩
  have b1 : Below w.heap.size w W1 := by rw [← hW1]; exact (Below.refl _ _).alloc (Nat.le_refl _) _
  have k1 : Blk W1 w.heap.size 47 #[.int .i64 k, .slice a n cap] := by rw [← hW1]; exact Blk.new _ _ _
  have hD := h.below b1
  obtain ⟨q, hq⟩ : ∃ q, w.heap.size = q := ⟨_, rfl⟩
  have d0 := k1.cell 0
  have d1 := k1.cell 1
  simp only [List.getElem?_toArray, List.getElem?_cons_zero, List.getElem?_cons_succ] at d0 d1
  rw [hq] at d0 d1
  have hqW : q < W1.heap.size := by rw [← hq]; exact k1.lt
  obtain ⟨v, hv⟩ : ∃ v, r.v = v := ⟨_, rfl⟩
  obtain ⟨Fi, hFi⟩ : ∃ v, findI r.hs k 0 = v := ⟨_, rfl⟩
  have hvb : 0 ≤ v ∧ v ≤ 1099511628900 := by have := h.ok.f0; have := h.ok.f1; have := h.ok.len; have := List.length_pos_iff.2 h.ok.ne; rw [← hv]; unfold RS.v; omega
  have HVQ : Hid (∀ W, Below W1.heap.size W1 W → Calls Tryz.prog 39 #[.pointer (some ⟨p, 0, none⟩)] W fun e w' => e = .returned (.int .i64 v) ∧ ∃ m, w' = W.drewN m) := fun W hW => by rw [← hv]; exact rversion_q T G p r W (hD.below hW)
  have HFQ : Hid (∀ W, Below W1.heap.size W1 W → Calls Tryz.prog 48 #[.pointer (some ⟨p, 0, none⟩), .int .i64 k] W fun e w' => e = .returned (.int .i64 Fi) ∧ w' = W) := fun W hW => by rw [← hFi]; exact rfind_q T G p r k W (hD.below hW)
  have hvw : IntKind.i64.wrap (v + 1) = v + 1 := by simp [IntKind.wrap, IntKind.signed, IntKind.bits]; omega
  have HD := Lib.hid hD; have HW1 := Lib.hid hW1; have HB1 := Lib.hid b1
  obtain ⟨aH, cH, c3, hpW⟩ := hD.hcell
  have hl16 := h.ok.hlen
  obtain ⟨nH, hnH⟩ : ∃ x, r.hs.length = x := ⟨_, rfl⟩
  have hR : rrcvF r k ps = if k < 1 ∨ 1099511627776 < k then ((0, 1), r)
    else if 64 < n then ((0, 4), r)
    else if k ≤ v ∨ 0 ≤ Fi then ((0, 8), r)
    else if v + 1 < k then (if 16 ≤ nH then ((0, 4), r) else ((0, 0), rholdS r k ps))
    else if rapE r ps ≠ 0 then ((0, rapE r ps), r)
    else ((1 + ((rhldF r.hs.length (rapS r ps)).1 : Int), 0), (rhldF r.hs.length (rapS r ps)).2) := by unfold rrcvF; rw [hn', hv, hFi, hnH]
  rw [hn', hv, hFi] at hna
  rw [hnH] at c3 hl16
  rw [hn']
  rw [hR] at hE ⊢
  have HFIN : Hid (∀ W, Below W1.heap.size W1 W → Below q w W) := fun W hW => by rw [← hq]; exact b1.trans (hW.mono b1.size)
  have HB1 : Hid (Below q w W1) := HFIN.out W1 (Below.refl _ _)
  clear h hD hP hf hG hW1 b1 k1 hR hv hFi hnH hn'
  by_cases c1 : k < 1
  · rw [if_pos (.inl c1)] at hE ⊢
    obtain rfl : E = 1 := by simpa using hE.symm
    go_enter Tryz.func18, Tryz.ntmps18
    go_wp2_with fail
    try rw [show w.alloc (.cells #[.int .i64 k, .slice a n cap] 47) = W1 from HW1.out]
    go_ret2
    first | exact ⟨rfl, rfl, HB1.out⟩ | exact ⟨rfl, HB1.out⟩ | exact ⟨rfl, trivial, HB1.out⟩
  by_cases c2 : 1099511627776 < k
  · rw [if_pos (.inr c2)] at hE ⊢
    obtain rfl : E = 1 := by simpa using hE.symm
    go_enter Tryz.func18, Tryz.ntmps18
    go_wp2_with fail
    try rw [show w.alloc (.cells #[.int .i64 k, .slice a n cap] 47) = W1 from HW1.out]
    go_ret2
    first | exact ⟨rfl, rfl, HB1.out⟩ | exact ⟨rfl, HB1.out⟩ | exact ⟨rfl, trivial, HB1.out⟩
  rw [if_neg (by omega)] at hE ⊢
  by_cases c4 : 64 < n
  · have c5 : (64 : Int) < (n : Int) := by omega
    rw [if_pos c4] at hE ⊢
    obtain rfl : E = 4 := by simpa using hE.symm
    clear hE
    go_enter Tryz.func18, Tryz.ntmps18
    go_wp2_with fail
    try rw [show w.alloc (.cells #[.int .i64 k, .slice a n cap] 47) = W1 from HW1.out]
    go_ret2
    first | exact ⟨rfl, rfl, HB1.out⟩ | exact ⟨rfl, HB1.out⟩ | exact ⟨rfl, trivial, HB1.out⟩
  have c5 : ¬ (64 : Int) < (n : Int) := by omega
  rw [if_neg c4] at hE ⊢
  by_cases c6 : k ≤ v
  · have e1 : decide (k ≤ v) = true := by simp [c6]
    rw [if_pos (.inl c6)] at hE ⊢
    obtain rfl : E = 8 := by simpa using hE.symm
    clear hE hna hE0
    go_enter Tryz.func18, Tryz.ntmps18
    go_wp2_with fail
    try rw [show w.alloc (.cells #[.int .i64 k, .slice a n cap] 47) = W1 from HW1.out]
    go_quiet (first | (go_at_call 39; exact Calls.quiet_of (HVQ.out _ (by first | exact below_drewN (Below.refl _ _) _ | exact below_drewN (below_drewN (Below.refl _ _) _) _))) | (go_at_call 48; exact Calls.quiet_of_same (HFQ.out _ (below_drewN (Below.refl _ _) _))))
    go_wp2_with fail
    go_ret2
    exact ⟨rfl, trivial, by rw [hq]; exact HFIN.out _ (below_drewN (Below.refl _ _) _)⟩
  have e1 : decide (k ≤ v) = false := by simp; omega
  by_cases c7 : 0 ≤ Fi
  · have e2 : decide (0 ≤ Fi) = true := by simp [c7]
    rw [if_pos (.inr c7)] at hE ⊢
    obtain rfl : E = 8 := by simpa using hE.symm
    clear hE hna hE0
    go_enter Tryz.func18, Tryz.ntmps18
    go_wp2_with fail
    try rw [show w.alloc (.cells #[.int .i64 k, .slice a n cap] 47) = W1 from HW1.out]
    go_quiet (first | (go_at_call 39; exact Calls.quiet_of (HVQ.out _ (by first | exact below_drewN (Below.refl _ _) _ | exact below_drewN (below_drewN (Below.refl _ _) _) _))) | (go_at_call 48; exact Calls.quiet_of_same (HFQ.out _ (below_drewN (Below.refl _ _) _))))
    go_wp2_with fail
    go_ret2
    exact ⟨rfl, trivial, by rw [hq]; exact HFIN.out _ (below_drewN (Below.refl _ _) _)⟩
  have e2 : decide (0 ≤ Fi) = false := by simp; omega
  rw [if_neg (by omega)] at hE ⊢
  by_cases c8 : v + 1 < k
  · rw [if_pos c8] at hE ⊢
    have e3 : decide (v + 1 < k) = true := by simp [c8]
    by_cases c9 : 16 ≤ nH
    · have c10 : (16 : Int) ≤ (nH : Int) := by omega
      rw [if_pos c9] at hE ⊢
      obtain rfl : E = 4 := by simpa using hE.symm
      clear hE hna hE0
      go_enter Tryz.func18, Tryz.ntmps18
      go_wp2_with fail
      try rw [show w.alloc (.cells #[.int .i64 k, .slice a n cap] 47) = W1 from HW1.out]
      go_quiet (first | (go_at_call 39; exact Calls.quiet_of (HVQ.out _ (by first | exact below_drewN (Below.refl _ _) _ | exact below_drewN (below_drewN (Below.refl _ _) _) _))) | (go_at_call 48; exact Calls.quiet_of_same (HFQ.out _ (below_drewN (Below.refl _ _) _))))
      go_wp2_with fail
      obtain ⟨W2, hW2⟩ : ∃ W, W1.drewN nq = W := ⟨_, rfl⟩
      have HB2 : Hid (Below W1.heap.size W1 W2) := Lib.hid (by rw [← hW2]; exact below_drewN (Below.refl _ _) _)
      have d0' := (HB2.out.cell (p := ⟨q, 0, none⟩) hqW).trans d0
      have d1' := (HB2.out.cell (p := ⟨q, 1, none⟩) hqW).trans d1
      have c3' := (HB2.out.cell (p := ⟨p, 3, none⟩) hpW).trans c3
      rw [hW2]
      clear hW2
      go_quiet (first | (go_at_call 39; exact Calls.quiet_of (HVQ.out _ (below_drewN HB2.out _))))
      go_wp2_with fail
      go_ret2
      exact ⟨rfl, trivial, by rw [hq]; exact HFIN.out _ (below_drewN HB2.out _)⟩
    · rw [if_neg c9] at hE
      have : (0 : Int) = E := by simpa using hE
      exact absurd this.symm hE0
  · exact absurd ⟨by omega, by omega, by omega, by omega, c7, c8⟩ hna

set_option maxRecDepth 100000 in
set_option maxHeartbeats 4000000 in
theorem rrcv_hold (T G : Nat → Prop) (p : Nat) (r : RS) (w : World) (h : RDocI T G w p r) (hlen : r.h.length ≤ 850) (k : Int) (h1 : -9223372036854775808 ≤ k) (h2 : k ≤ 9223372036854775807) (a : Option Addr) (cap : Nat) (ps : List PE) (hP : PS w.heap.size w a cap ps) (hn : ps.length ≤ 1000) (hf : ∀ q ∈ ps, q.fit ∧ q.t.size ≤ 100000) (hG : ps.length ≠ 0 → ∀ b, blkOf a b → G b) (hk : 1 ≤ k ∧ k ≤ 1099511627776) (hn64 : ps.length ≤ 64) (hvk : r.v + 1 < k) (hF : ¬ 0 ≤ findI r.hs k 0) (hH : r.hs.length < 16) :
    Calls Tryz.prog 18 #[.pointer (some ⟨p, 0, none⟩), .agg #[.int .i64 k, .slice a ps.length cap]] w fun e w' =>  e = .returned (.tuple #[.int .i64 0, .int .i64 0]) ∧ ∃ T', RDocI T' G w' p (rholdS r k ps) ∧ Stp T G T' G w w' := by
  obtain ⟨i5, hi5, jy0, jy1, jy2⟩ := info_parts infoCh
  obtain ⟨n, hn'⟩ : ∃ n, ps.length = n := ⟨_, rfl⟩
  obtain ⟨W1, hW1⟩ : ∃ W, w.alloc (.cells #[.int .i64 k, .slice a n cap] 47) = W := ⟨_, rfl⟩
  have b1 : Below w.heap.size w W1 := by rw [← hW1]; exact (Below.refl _ _).alloc (Nat.le_refl _) _
  have k1 : Blk W1 w.heap.size 47 #[.int .i64 k, .slice a n cap] := by rw [← hW1]; exact Blk.new _ _ _
  have hD := h.below b1
  obtain ⟨q, hq⟩ : ∃ q, w.heap.size = q := ⟨_, rfl⟩
  have d0 := k1.cell 0
  have d1 := k1.cell 1
  simp only [List.getElem?_toArray, List.getElem?_cons_zero, List.getElem?_cons_succ] at d0 d1
  rw [hq] at d0 d1
  have hqW : q < W1.heap.size := by rw [← hq]; exact k1.lt
  obtain ⟨v, hv⟩ : ∃ v, r.v = v := ⟨_, rfl⟩
  obtain ⟨Fi, hFi⟩ : ∃ v, findI r.hs k 0 = v := ⟨_, rfl⟩
  have hvb : 0 ≤ v ∧ v ≤ 1099511628900 := by have := h.ok.f0; have := h.ok.f1; have := h.ok.len; have := List.length_pos_iff.2 h.ok.ne; rw [← hv]; unfold RS.v; omega
  have HVQ : Hid (∀ W, Below W1.heap.size W1 W → Calls Tryz.prog 39 #[.pointer (some ⟨p, 0, none⟩)] W fun e w' => e = .returned (.int .i64 v) ∧ ∃ m, w' = W.drewN m) := fun W hW => by rw [← hv]; exact rversion_q T G p r W (hD.below hW)
  have HFQ : Hid (∀ W, Below W1.heap.size W1 W → Calls Tryz.prog 48 #[.pointer (some ⟨p, 0, none⟩), .int .i64 k] W fun e w' => e = .returned (.int .i64 Fi) ∧ w' = W) := fun W hW => by rw [← hFi]; exact rfind_q T G p r k W (hD.below hW)
  have hvw : IntKind.i64.wrap (v + 1) = v + 1 := by simp [IntKind.wrap, IntKind.signed, IntKind.bits]; omega
  have HD := Lib.hid hD; have HW1 := Lib.hid hW1; have HB1 := Lib.hid b1
  have hP1 := hP.on b1
  obtain ⟨vT, vE, vH, us, hv', g1, g2, g3, g4, g5, g6, g7⟩ := hD.mem
  have hokl := h.ok.hlen
  obtain ⟨nH, hnH⟩ : ∃ x, r.hs.length = x := ⟨_, rfl⟩
  have c3 := g1.cell 3
  simp only [List.getElem?_toArray, List.getElem?_cons_zero, List.getElem?_cons_succ] at c3
  have hpW := g1.lt
  have npH := own_neB g5 g1 (by decide)
  obtain ⟨aH, cH, rfl⟩ := own_slice g5
  rw [hnH] at g5 hH c3
  rw [hn'] at hn64
  rw [hv] at hvk
  rw [hFi] at hF
  skip
  have HCH : Hid (∀ W2, Below W1.heap.size W1 W2 → W2.cell? ⟨p, 3, none⟩ = some (.slice aH nH cH) ∧ Hid (World.ownsRow (W2.alloc (.cells #[.int .i64 k, .slice a n cap] 47)).drew 0 47 2 (.slice aH nH cH) nH (cv hv'))) := fun W2 hb => by
    refine ⟨(hb.cell (p := ⟨p, 3, none⟩) hpW).trans c3, (World.ownsRow.alloc (own_same g5 (fun g hg => hb.block g (g5.lt g hg).2)) _).drew⟩
  have HF6 : Hid (∀ W2 gg c5 w5, Below W1.heap.size W1 W2 → w5.ownsRow 0 47 2 (.slice (some ⟨gg, 0, none⟩) (nH + 1) c5) (nH + 1) (cv hv' ++ [.int .i64 k, .slice a n cap]) → (W2.alloc (.cells #[.int .i64 k, .slice a n cap] 47)).drew.grownBy w5 (Value.slice aH nH cH).ownBlock → ((Value.slice aH nH cH).ownBlock = some gg ∨ gg = W2.heap.size + 1) →
      w5.cell? ⟨p, 3, none⟩ = some (.slice aH nH cH) ∧ w5.frozen? ⟨p, 3, none⟩ = false ∧ Hid (∃ T', RDocI T' G (w5.setCell ⟨p, 3, none⟩ (.slice (some ⟨gg, 0, none⟩) (nH + 1) c5)) p (rholdS r k ps) ∧ Stp T G T' G w (w5.setCell ⟨p, 3, none⟩ (.slice (some ⟨gg, 0, none⟩) (nH + 1) c5)))) := fun W2 gg c5 w5 hb o5 g5' at5 => by
    have b3 := (hb.alloc hb.size (.cells #[.int .i64 k, .slice a n cap] 47)).drew
    have z3 := b3.size
    have z2 := hb.size
    have hsame : ∀ b, b < W1.heap.size → (Value.slice aH nH cH).ownBlock ≠ some b → w5.heap[b]? = W1.heap[b]? := fun b hlt hne => (g5'.block b (by omega) (fun e => hne e.symm)).trans (b3.block b hlt)
    have kp : Blk w5 p 76 #[.int .i64 r.f, vT, vE, .slice aH nH cH] := g1.same (hsame p hpW (by rw [← hnH]; exact npH)) |> fun x => by rw [hnH] at x; exact x
    have cc := kp.cell 3
    simp only [List.getElem?_toArray, List.getElem?_cons_zero, List.getElem?_cons_succ] at cc
    have hO : Only T W1 w5 := ⟨g5'.os.trans b3.os, g5'.tape.trans b3.tape, g5'.output.trans b3.output, by have := g5'.size; omega, fun b hlt hT => hsame b hlt (fun e => hT (g7 b (.inr (.inr (by rw [hnH]; exact e)))))⟩
    have hPs : PsG G W1 (.slice a ps.length cap) ps := PsG.of hP1 hG
    rw [hn'] at hPs
    obtain ⟨T', q1, q2⟩ := rhold_step (k := k) (ps := ps) (u := .slice a n cap) (v5 := .slice (some ⟨gg, 0, none⟩) (nH + 1) c5) hD c3 g6 hO hsame hPs (by rw [hnH]; exact o5) (at5.imp (fun e => e.symm) (fun e b hb' => by cases hb'; show W1.heap.size ≤ gg; omega)) (by omega) hk.1 hk.2 (by omega) hf
    exact ⟨cc, kp.frozen 3, T', q1, (Stp.of_below b1).trans q2 trivial⟩
  have e1 : decide (k ≤ v) = false := by simp; omega
  have e2 : decide (0 ≤ Fi) = false := by simp; omega
  have e3 : decide (v + 1 < k) = true := by simp; omega
  have y1 : ¬ k < 1 := by omega
  have y2 : ¬ 1099511627776 < k := by omega
  have y3 : ¬ (64 : Int) < (n : Int) := by omega
  have y4 : ¬ (16 : Int) ≤ (nH : Int) := by omega
  rw [hn']
  clear h hD hP hf hG hW1 b1 k1 hFi hn' hP1 g1 g2 g3 g4 g5 g6 g7 npH hk hvk hF hH hokl hnH hv
  go_enter Tryz.func18, Tryz.ntmps18
  go_wp2_with fail
  try rw [show w.alloc (.cells #[.int .i64 k, .slice a n cap] 47) = W1 from HW1.out]
  go_quiet (first | (go_at_call 39; exact Calls.quiet_of (HVQ.out _ (by first | exact below_drewN (Below.refl _ _) _ | exact below_drewN (below_drewN (Below.refl _ _) _) _))) | (go_at_call 48; exact Calls.quiet_of_same (HFQ.out _ (below_drewN (Below.refl _ _) _))))
  go_wp2_with fail
  obtain ⟨W2, hW2⟩ : ∃ W, W1.drewN nq = W := ⟨_, rfl⟩
  have HB2 : Hid (Below W1.heap.size W1 W2) := Lib.hid (by rw [← hW2]; exact below_drewN (Below.refl _ _) _)
  have d0' := (HB2.out.cell (p := ⟨q, 0, none⟩) hqW).trans d0
  have d1' := (HB2.out.cell (p := ⟨q, 1, none⟩) hqW).trans d1
  obtain ⟨c3', HO3⟩ := HCH.out W2 HB2.out
  rw [hW2]
  clear hW2
  go_quiet (first | (go_at_call 39; exact Calls.quiet_of (HVQ.out _ (below_drewN HB2.out _))))
  go_wp2_with fail
  obtain ⟨W3, hW3⟩ : ∃ W, W2.drewN nq = W := ⟨_, rfl⟩
  have HB3 : Hid (Below W1.heap.size W1 W3) := Lib.hid (by rw [← hW3]; exact below_drewN HB2.out _)
  obtain ⟨e0, HO4⟩ := HCH.out W3 HB3.out
  have e1' := (HB3.out.cell (p := ⟨q, 0, none⟩) hqW).trans d0
  have e2' := (HB3.out.cell (p := ⟨q, 1, none⟩) hqW).trans d1
  have hp3 : p < W3.heap.size := by have := HB3.out.size; omega
  have hq3 : q < W3.heap.size := by have := HB3.out.size; omega
  rw [hW3]
  clear hW3 HO3 c3' d0' d1' e1 e2 e3 c3 d0 d1
  go_region_law
    ((refine step_append_lies _ (by rfl) _ _ _ (by rfl) 0 47 i5 _ 2 32 Tryz.underlying25 hi5 jy0 jy1 jy2 rfl (by decide) (.slice aH nH cH) nH (cv hv') (by rfl) HO4.out ⟨W3.heap.size, 0, none⟩ 1 1 [.int .i64 k, .slice a n cap] (by rfl) (by rfl) (World.news_of_block (cs := #[.int .i64 k, .slice a n cap]) (t := 47) (fr := (0, 0)) (World.alloc_heap_new W3 _)) (fun x hx => by simp at hx; rcases hx with rfl | rfl <;> rfl) (by omega) (by unfold maxLen; omega) (by omega) (Nat.zero_le _) (W3.heap.size + 1) (by simp) ?_; intro gg cap1 w5 hown5 hgrow5 hat5 hlt5; obtain ⟨s1, s2, HQ⟩ := HF6.out W3 gg cap1 w5 HB3.out hown5 hgrow5 hat5; clear hown5 hgrow5 hat5 hlt5))
  all_goals
    go_wp2_with fail
    go_ret2
    exact ⟨rfl, HQ.out⟩

end Go.Proofs.YtkehgoailhpenaaGreat

/- The contract of the reference's Receive, whole. Conditions: at most 850 versions. -/
namespace Go.Proofs.YtkehgoailhpenaaGreat
open Go.RowKit Go.Shelf Go.Maps
set_option linter.unusedVariables false

set_option maxRecDepth 100000 in
set_option maxHeartbeats 8000000 in
theorem rrcv_apply (T G : Nat → Prop) (p : Nat) (r : RS) (w : World) (h : RDocI T G w p r) (hlen : r.h.length ≤ 850) (k : Int) (h1 : -9223372036854775808 ≤ k) (h2 : k ≤ 9223372036854775807) (a : Option Addr) (cap : Nat) (ps : List PE) (hP : PS w.heap.size w a cap ps) (hn : ps.length ≤ 1000) (hf : ∀ q ∈ ps, q.fit ∧ q.t.size ≤ 100000) (hG : ps.length ≠ 0 → ∀ b, blkOf a b → G b) (hk : 1 ≤ k ∧ k ≤ 1099511627776) (hn64 : ps.length ≤ 64) (hvk : r.v < k) (hvk2 : ¬ r.v + 1 < k) (hF : ¬ 0 ≤ findI r.hs k 0) :
    Calls Tryz.prog 18 #[.pointer (some ⟨p, 0, none⟩), .agg #[.int .i64 k, .slice a ps.length cap]] w fun e w' =>  e = .returned (.tuple #[.int .i64 (rrcvF r k ps).1.1, .int .i64 (rrcvF r k ps).1.2]) ∧ ∃ T' G', RDocI T' G' w' p (rrcvF r k ps).2 ∧ Stp T G T' G' w w' := by
  obtain ⟨i5, hi5, jy0, jy1, jy2⟩ := info_parts infoCh
  obtain ⟨n, hn'⟩ : ∃ n, ps.length = n := ⟨_, rfl⟩
  obtain ⟨W1, hW1⟩ : ∃ W, w.alloc (.cells #[.int .i64 k, .slice a n cap] 47) = W := ⟨_, rfl⟩
  have b1 : Below w.heap.size w W1 := by rw [← hW1]; exact (Below.refl _ _).alloc (Nat.le_refl _) _
  have k1 : Blk W1 w.heap.size 47 #[.int .i64 k, .slice a n cap] := by rw [← hW1]; exact Blk.new _ _ _
  have hD := h.below b1
  obtain ⟨q, hq⟩ : ∃ q, w.heap.size = q := ⟨_, rfl⟩
  have d0 := k1.cell 0
  have d1 := k1.cell 1
  simp only [List.getElem?_toArray, List.getElem?_cons_zero, List.getElem?_cons_succ] at d0 d1
  rw [hq] at d0 d1
  have hqW : q < W1.heap.size := by rw [← hq]; exact k1.lt
  obtain ⟨v, hv⟩ : ∃ v, r.v = v := ⟨_, rfl⟩
  obtain ⟨Fi, hFi⟩ : ∃ v, findI r.hs k 0 = v := ⟨_, rfl⟩
  have hvb : 0 ≤ v ∧ v ≤ 1099511628900 := by have := h.ok.f0; have := h.ok.f1; have := h.ok.len; have := List.length_pos_iff.2 h.ok.ne; rw [← hv]; unfold RS.v; omega
  have HVQ : Hid (∀ W, Below W1.heap.size W1 W → Calls Tryz.prog 39 #[.pointer (some ⟨p, 0, none⟩)] W fun e w' => e = .returned (.int .i64 v) ∧ ∃ m, w' = W.drewN m) := fun W hW => by rw [← hv]; exact rversion_q T G p r W (hD.below hW)
  have HFQ : Hid (∀ W, Below W1.heap.size W1 W → Calls Tryz.prog 48 #[.pointer (some ⟨p, 0, none⟩), .int .i64 k] W fun e w' => e = .returned (.int .i64 Fi) ∧ w' = W) := fun W hW => by rw [← hFi]; exact rfind_q T G p r k W (hD.below hW)
  have hvw : IntKind.i64.wrap (v + 1) = v + 1 := by simp [IntKind.wrap, IntKind.signed, IntKind.bits]; omega
  have HD := Lib.hid hD; have HW1 := Lib.hid hW1; have HB1 := Lib.hid b1
  have hP1 := hP.on b1
  obtain ⟨A, hA⟩ : ∃ x, rapE r ps = x := ⟨_, rfl⟩
  obtain ⟨S2, hS2⟩ : ∃ x, rapS r ps = x := ⟨_, rfl⟩
  obtain ⟨H, hH⟩ : ∃ x, r.hs.length = x := ⟨_, rfl⟩
  have hH16 := h.ok.hlen
  rw [hH] at hH16
  have hs2h : S2.hs.length = H := by rw [← hS2, rapS_hs]; exact hH
  have hs2l : S2.h.length ≤ 851 := by rw [← hS2, rapS_len]; omega
  have hR : rrcvF r k ps = if A ≠ 0 then ((0, A), r) else ((1 + ((rhldF H S2).1 : Int), 0), (rhldF H S2).2) := by
    unfold rrcvF
    rw [if_neg (by omega), if_neg (by omega), if_neg (by omega), if_neg hvk2, hA, hS2, hH]
  have HAP : Hid (∀ W, Below W1.heap.size W1 W → Calls Tryz.prog 49 #[.pointer (some ⟨p, 0, none⟩), .slice a n cap] W fun e w' => e = .returned (.int .i64 A) ∧ ((A ≠ 0 ∧ Below W.heap.size W w') ∨ (A = 0 ∧ ∃ T' G', RDocI T' G' w' p S2 ∧ Stp T G T' G' W w'))) := fun W hW => by
    have := rapp_any T G p r W (hD.below hW) (by omega) a cap ps (hP1.on hW) hn64 hf
    rwa [hn', hA, hS2] at this
  obtain ⟨RR, hRR⟩ : ∃ x, rrcvF r k ps = x := ⟨_, rfl⟩
  rw [hRR] at hR ⊢
  have HRX := Lib.hid hR
  have HSB : Hid (∀ W, Below W1.heap.size W1 W → Stp T G T G w W) := fun W hW => (Stp.of_below b1).trans (Stp.of_below hW) trivial
  rw [hn'] at hn64 ⊢
  rw [hv] at hvk hvk2
  rw [hFi] at hF
  have e1 : decide (k ≤ v) = false := by simp; omega
  have e2 : decide (0 ≤ Fi) = false := by simp; omega
  have e3 : decide (v + 1 < k) = false := by simp; omega
  have y1 : ¬ k < 1 := by omega
  have y2 : ¬ 1099511627776 < k := by omega
  have y3 : ¬ (64 : Int) < (n : Int) := by omega
  obtain ⟨z1, z2, z3, hpW⟩ := hD.hcell
  clear z3 z2 z1
  clear h hD hP hP1 hf hG hW1 b1 k1 hFi hn' hk hvk hvk2 hF hv hA hS2 hH hR hRR
  go_enter Tryz.func18, Tryz.ntmps18
  go_wp2_with fail
  try rw [show w.alloc (.cells #[.int .i64 k, .slice a n cap] 47) = W1 from HW1.out]
  go_quiet (first | (go_at_call 39; exact Calls.quiet_of (HVQ.out _ (by first | exact below_drewN (Below.refl _ _) _ | exact below_drewN (below_drewN (Below.refl _ _) _) _))) | (go_at_call 48; exact Calls.quiet_of_same (HFQ.out _ (below_drewN (Below.refl _ _) _))))
  go_wp2_with fail
  obtain ⟨W2, hW2⟩ : ∃ W, W1.drewN nq = W := ⟨_, rfl⟩
  have HB2 : Hid (Below W1.heap.size W1 W2) := Lib.hid (by rw [← hW2]; exact below_drewN (Below.refl _ _) _)
  have d0' := (HB2.out.cell (p := ⟨q, 0, none⟩) hqW).trans d0
  have d1' := (HB2.out.cell (p := ⟨q, 1, none⟩) hqW).trans d1
  rw [hW2]
  clear hW2
  go_quiet (first | (go_at_call 39; exact Calls.quiet_of (HVQ.out _ (below_drewN HB2.out _))))
  go_wp2_with fail
  obtain ⟨W3, hW3⟩ : ∃ W, W2.drewN nq = W := ⟨_, rfl⟩
  have HB3 : Hid (Below W1.heap.size W1 W3) := Lib.hid (by rw [← hW3]; exact below_drewN HB2.out _)
  try rw [hW3]
  clear hW3
  refine (HAP.out W3 HB3.out).mono ?_
  rintro e w4 ⟨rfl, hw⟩
  have HW := Lib.hid hw
  clear hw d0 d1 d0' d1' e1 e2 e3
  by_cases hA0 : A = 0
  · subst hA0
    have hrx := HRX.out
    rw [if_neg (by simp)] at hrx
    subst hrx
    have HX : Hid (∃ T2 G2, RDocI T2 G2 w4 p S2 ∧ Stp T G T2 G2 w w4) := by
      rcases HW.out with ⟨q1, _⟩ | ⟨_, T2, G2, q2, q3⟩
      · exact absurd rfl q1
      · exact ⟨T2, G2, q2, (HSB.out _ HB3.out).trans q3 trivial⟩
    obtain ⟨T2, G2, hdd, hss⟩ := HX.out
    have HD0 := Lib.hid hdd; have HS0 := Lib.hid hss
    have HI0 : Hid (RlI H S2 0 H S2) := ⟨by rw [Nat.zero_add], by omega⟩
    obtain ⟨R, hR⟩ : ∃ x, rhldF H S2 = x := ⟨_, rfl⟩
    have HRR := Lib.hid hR
    try rw [hR]
    clear hdd hss hR
    go_wp2_with fail
    go_loopw [6, 7] (fun u q wr => ∃ (m f : Nat) (r' : RS) (T' G' : Nat → Prop), u = .int .i64 0 ∧ q = .int .i64 (1 + (m : Int)) ∧ m + r'.hs.length ≤ H ∧ r'.h.length ≤ 851 + m ∧ Hid (RlI H S2 m f r') ∧ Hid (RDocI T' G' wr p r') ∧ Hid (Stp T G T' G' w wr)) (fun _ q _ => H + 1 - (intOf q).toNat)
    case atStart => exact ⟨0, H, S2, T2, G2, rfl, rfl, by omega, by omega, HI0, HD0, HS0⟩
    case round =>
      obtain ⟨m, f, r', T', G', rfl, rfl, hm, hml, HI, HDD, HSS⟩ := hrel
      have hd := HDD.out
      have hf0 := hd.ok.f0
      have hf1 := hd.ok.f1
      have hpos := List.length_pos_iff.2 hd.ok.ne
      have hlen' := hd.ok.len
      obtain ⟨x, hx⟩ : ∃ x, r'.v = x := ⟨_, rfl⟩
      have hxb : 0 ≤ x ∧ x ≤ 1099511628900 := by rw [← hx]; unfold RS.v; omega
      have hxw : IntKind.i64.wrap (x + 1) = x + 1 := by simp [IntKind.wrap, IntKind.signed, IntKind.bits]; omega
      have HV2 : Hid (∀ W, Below wr.heap.size wr W → Calls Tryz.prog 39 #[.pointer (some ⟨p, 0, none⟩)] W fun e w' => e = .returned (.int .i64 x) ∧ ∃ m, w' = W.drewN m) := fun W hW => by rw [← hx]; exact rversion_q T' G' p r' W (hd.below hW)
      have hfs := findI_spec (x + 1) r'.hs 0
      obtain ⟨F2, hF2⟩ : ∃ y, findI r'.hs (x + 1) 0 = y := ⟨_, rfl⟩
      have HF2 : Hid (∀ W, Below wr.heap.size wr W → Calls Tryz.prog 48 #[.pointer (some ⟨p, 0, none⟩), .int .i64 (x + 1)] W fun e w' => e = .returned (.int .i64 F2) ∧ w' = W) := fun W hW => by rw [← hF2]; exact rfind_q T' G' p r' (x + 1) W (hd.below hW)
      rw [hF2] at hfs
      by_cases hin : 0 ≤ F2
      · obtain ⟨i, hi, hFi2⟩ : ∃ i : Nat, i < r'.hs.length ∧ F2 = (i : Int) := by
          rcases hfs with ⟨_, j, q1, q2, _⟩ | ⟨_, q⟩
          · exact ⟨j, q1, by omega⟩
          · omega
        subst hFi2
        have hfi : findI r'.hs (r'.v + 1) 0 = (i : Int) := by rw [hx]; exact hF2
        obtain ⟨L, hL⟩ : ∃ l, heldI r'.hs (r'.v + 1) = l := ⟨_, rfl⟩
        have hLi : (r'.hs[i]'hi).2 = L := by
          rw [← hL]; unfold heldI; rw [hfi]
          show _ = (r'.hs[i]?.getD (0, [])).2
          rw [List.getElem?_eq_getElem hi]; rfl
        have hhe := hd.ok.held _ (List.getElem_mem hi)
        rw [hLi] at hhe
        obtain ⟨E, hE⟩ : ∃ e, rapE (rdropH r') L = e := ⟨_, rfl⟩
        obtain ⟨S3, hS3⟩ : ∃ e, rapS (rdropH r') L = e := ⟨_, rfl⟩
        have hdl : (rdropH r').hs.length = r'.hs.length - 1 := by unfold rdropH; rw [hfi]; show (r'.hs.eraseIdx i).length = _; rw [List.length_eraseIdx, if_pos hi]
        have hs3h : S3.hs.length + 1 = r'.hs.length := by rw [← hS3, rapS_hs, hdl]; omega
        have hs3l : S3.h.length ≤ 851 + (m + 1) := by rw [← hS3, rapS_len]; show r'.h.length + 1 ≤ _; omega
        have hstep : ∀ y, r'.hs.length ≤ y → rhldF y r' = if E = 0 then ((rhldF (y - 1) S3).1 + 1, (rhldF (y - 1) S3).2) else (0, rdropH r') := fun y hy => by
          obtain ⟨y', rfl⟩ : ∃ y', y = y' + 1 := ⟨y - 1, by omega⟩
          simp only [rhldF]
          rw [if_pos (by rw [hfi]; omega), hL, hE, hS3]; rfl
        have HST := Lib.hid hstep
        obtain ⟨ln, hln⟩ : ∃ y, L.length = y := ⟨_, rfl⟩
        have HC : Hid (∀ w1 T1 a' c', RDocI T1 G' w1 p (rdropH r') → PS w1.heap.size w1 a' c' L → Calls Tryz.prog 49 #[.pointer (some ⟨p, 0, none⟩), .slice a' ln c'] w1 fun e w' => e = .returned (.int .i64 E) ∧ ((E ≠ 0 ∧ Below w1.heap.size w1 w') ∨ (E = 0 ∧ ∃ T2 G2, RDocI T2 G2 w' p S3 ∧ Stp T1 G' T2 G2 w1 w'))) := fun w1 T1 a' c' k1 k2 => by
          have := rapp_any T1 G' p (rdropH r') w1 k1 (by show r'.h.length ≤ 900; omega) a' c' L k2 hhe.1 hhe.2
          rwa [hE, hS3, hln] at this
        obtain ⟨vT, vE, vH, us, hv9, g1, g2, g3, g4, g5, g6, g7⟩ := hd.mem
        have hvl : hv9.length = r'.hs.length := g6.1
        obtain ⟨nH, hnH⟩ : ∃ y, r'.hs.length = y := ⟨_, rfl⟩
        rw [hnH] at g5 hvl hi
        obtain ⟨g, cH, hvH⟩ : ∃ g cp, vH = .slice (some ⟨g, 0, none⟩) nH cp := by
          obtain ⟨y, hy⟩ : ∃ y, nH = y + 1 := ⟨nH - 1, by omega⟩
          have h1 := g5
          rw [hy] at h1
          obtain ⟨g, cp, h2⟩ := ownsRow_succ h1
          exact ⟨g, cp, by rw [h2, hy]⟩
        subst hvH
        obtain ⟨z1, av, cv9, hveq, hVS, z2, z3⟩ := vs_of_own g5
        have hcle := hVS.le
        have hcmx := hVS.mx
        simp only [Value.slice.injEq] at hveq
        obtain ⟨z4, z5, hceq⟩ := hveq
        rw [hvl, ← hceq] at hcle
        rw [← hceq] at hcmx
        clear z1 z2 z3 z4 z5
        have c3 := g1.cell 3
        simp only [List.getElem?_toArray, List.getElem?_cons_zero, List.getElem?_cons_succ] at c3
        obtain ⟨x1, x2⟩ := cv_get hv9 i (by omega)
        have hcl := cv_len hv9
        have c4 := g5.cellAt (i * 2) (by omega)
        have c5 := g5.cellAt (i * 2 + 1) (by omega)
        rw [x1] at c4; rw [x2] at c5
        obtain ⟨z1, hpsG⟩ := g6.2 i _ (List.getElem?_eq_getElem (by omega))
        rw [hLi] at hpsG
        obtain ⟨ax, cx, hcg, z2⟩ := hpsG.ps
        clear z1 z2
        rw [hcg] at c5 hpsG
        rw [hln] at c5 hpsG
        obtain ⟨x1v, hx1v⟩ : ∃ y, (cG hv9 i).1 = y := ⟨_, rfl⟩
        rw [hx1v] at c4
        have hpw := g1.lt
        have hgw := (g5.lt g rfl).2
        have npH := own_neB g5 g1 (by decide)
        have hok9 := g6.ok
        have hiN : (i : Int) < (nH : Int) := by omega
        have hi0 : (0 : Int) ≤ (i : Int) := by omega
        have hiC : (i : Int) ≤ (cH : Int) := by omega
        have HKX : Hid (∀ W, Below wr.heap.size wr W → W.cell? ⟨p, 3, none⟩ = some (.slice (some ⟨g, 0, none⟩) nH cH) ∧ W.cell? ⟨g, i * 2, none⟩ = some (.int .i64 x1v) ∧ W.cell? ⟨g, i * 2 + 1, none⟩ = some (.slice ax ln cx)) := fun W hW => ⟨(hW.cell (p := ⟨p, 3, none⟩) hpw).trans c3, (hW.cell (p := ⟨g, i * 2, none⟩) hgw).trans c4, (hW.cell (p := ⟨g, i * 2 + 1, none⟩) hgw).trans c5⟩
        have HLT : Hid ((cv (hv9.take i)).length = i * 2) := by show _ = _; rw [cv_len, List.length_take]; omega
        have HKT : Hid (∀ u ∈ cv (hv9.take i), u.oneCell' = true) := VOk.one (fun x hx => hok9 x (List.mem_of_mem_take hx))
        obtain ⟨i1, hi1⟩ : ∃ y, i + 1 = y := ⟨_, rfl⟩
        have HLD : Hid ((cv (hv9.drop i1)).length = (nH - i1) * 2) := by show _ = _; rw [cv_len, List.length_drop, hvl]
        have HKD : Hid (∀ u ∈ cv (hv9.drop i1), u.oneCell' = true) := VOk.one (fun x hx => hok9 x (List.mem_of_mem_drop hx))
        -- behind the first append
        have HK2 : Hid (∀ W, Below wr.heap.size wr W → ∀ j u, (cv (hv9.take i))[j]? = some u → W.cell? ((⟨g, 0, none⟩ : Addr).add j) = some u) := fun W hW => (row_news (own_same g5 (fun g' hg => hW.block g' (g5.lt g' hg).2)) hvl).1 i
        have HK3 : Hid (∀ (W : World) (v3 : Value) (w3 : World), Below wr.heap.size wr W → wr.heap.size < W.heap.size → W.grownBy w3 (Value.slice none 0 0).ownBlock → (v3.ownBlock = (Value.slice none 0 0).ownBlock ∨ v3.ownBlock = some W.heap.size) → Hid (Below wr.heap.size wr w3) ∧ Hid (∀ j u, (cv (hv9.drop i1))[j]? = some u → w3.cell? ((⟨g, i1 * 2, none⟩ : Addr).add j) = some u) ∧ Hid (∀ b, v3.ownBlock = some b → wr.heap.size ≤ b ∧ b ≠ W.heap.size - 1) ∧ Hid (Below W.heap.size W w3) ∧ w3.cell? ⟨p, 3, none⟩ = some (.slice (some ⟨g, 0, none⟩) nH cH)) := fun W v3 w3 hW hWlt hg3 ha3 => by
          have b3 : Below wr.heap.size wr w3 := hW.grown hg3 hW.size (fun g hg => by cases hg)
          refine ⟨b3, (row_news (own_same g5 (fun g' hg => b3.block g' (g5.lt g' hg).2)) hvl).2 i1, fun b hb => ?_, (Below.refl _ _).grown hg3 (Nat.le_refl _) (fun g hg => by cases hg), (b3.cell (p := ⟨p, 3, none⟩) hpw).trans c3⟩
          rcases ha3 with e | e
          · rw [hb] at e; cases e
          · rw [hb] at e; cases e; exact ⟨hW.size, by omega⟩
        -- behind the second
        have HK5 : Hid (∀ (W : World) (v3 : Value) (w3 : World) (v5 : Value) (w5 : World), Below wr.heap.size wr W → Below W.heap.size W w3 → (∀ b, v3.ownBlock = some b → wr.heap.size ≤ b ∧ b ≠ W.heap.size - 1) → W.cell? ⟨W.heap.size - 1, 1, none⟩ = some (.slice ax ln cx) → wr.heap.size < W.heap.size →
            w5.ownsRow 0 47 2 v5 (i + (nH - i1)) (cv (hv9.take i) ++ cv (hv9.drop i1)) → w3.grownBy w5 v3.ownBlock → (v5.ownBlock = v3.ownBlock ∨ v5.ownBlock = some w3.heap.size) →
            ∃ a5 c5, v5 = .slice a5 (nH - 1) c5 ∧ w5.cell? ⟨p, 3, none⟩ = some (.slice (some ⟨g, 0, none⟩) nH cH) ∧ w5.frozen? ⟨p, 3, none⟩ = false ∧ (w5.setCell ⟨p, 3, none⟩ (.slice a5 (nH - 1) c5)).cell? ⟨W.heap.size - 1, 1, none⟩ = some (.slice ax ln cx) ∧ Hid (∃ T3, RDocI T3 G' (w5.setCell ⟨p, 3, none⟩ (.slice a5 (nH - 1) c5)) p (rdropH r') ∧ Stp T' G' T3 G' wr (w5.setCell ⟨p, 3, none⟩ (.slice a5 (nH - 1) c5)) ∧ ∃ ax' cx', Value.slice ax ln cx = .slice ax' ln cx' ∧ PS (w5.setCell ⟨p, 3, none⟩ (.slice a5 (nH - 1) c5)).heap.size (w5.setCell ⟨p, 3, none⟩ (.slice a5 (nH - 1) c5)) ax' cx' L)) := fun W v3 w3 v5 w5 hW hW3 hv3 hxc hWlt o5 hg5 ha5 => by
          subst hi1
          have hz3 := hW3.size
          have hz5 := hg5.size
          have hzW := hW.size
          have b3 : Below wr.heap.size wr w3 := hW.trans (hW3.mono hzW)
          have b5 : Below wr.heap.size wr w5 := b3.grown hg5 (by omega) (fun g hg => (hv3 g hg).1)
          rw [show i + (nH - (i + 1)) = nH - 1 by omega] at o5
          obtain ⟨a5, c5', rfl⟩ := own_slice o5
          have kp := g1.same (b5.block p hpw)
          have cc := kp.cell 3
          simp only [List.getElem?_toArray, List.getElem?_cons_zero, List.getElem?_cons_succ] at cc
          have a5b : ∀ b, (Value.slice a5 (nH - 1) c5').ownBlock = some b → wr.heap.size ≤ b := fun b hb => by
            rcases ha5 with e | e
            · rw [hb] at e; exact (hv3 b e.symm).1
            · rw [hb] at e; cases e; omega
          obtain ⟨T3, q1, q2⟩ := rdrop_step (v5 := .slice a5 (nH - 1) c5') (i := i) hd c3 g6 (by omega) hfi b5 (by rw [hnH]; exact o5) a5b
          have hGk : ∀ b, G' b → b < wr.heap.size → (w5.setCell ⟨p, 3, none⟩ (.slice a5 (nH - 1) c5')).heap[b]? = wr.heap[b]? := fun b hG hlt => q2.only.block b hlt (fun hT => hd.apart b hT hG)
          obtain ⟨ax', cx', k1, k2⟩ := (hpsG.keep q2.only.size hGk (fun _ h => h)).ps
          refine ⟨a5, c5', rfl, cc, kp.frozen 3, ?_, T3, q1, q2, ax', cx', by rw [← hln]; rw [← hln] at k1; exact k1, k2⟩
          have e1 : (w5.setCell ⟨p, 3, none⟩ (.slice a5 (nH - 1) c5')).heap[W.heap.size - 1]? = W.heap[W.heap.size - 1]? := by
            refine (Below.heap_setCell _ _ _ _ (fun e => by simp at e; omega)).trans ((hg5.block _ (by omega) (fun e => ?_)).trans (hW3.block _ (by omega)))
            exact (hv3 _ e.symm).2 rfl
          simp only [World.cell?, e1] at hxc ⊢
          exact hxc
        have hiw : IntKind.i64.wrap ((i : Int) + 1) = (i1 : Int) := by simp [IntKind.wrap, IntKind.signed, IntKind.bits]; omega
        have hi1n : i1 ≤ nH := by omega
        have hi1c : (i1 : Int) ≤ (cH : Int) := by omega
        have hi1m : (i1 : Int) ≤ (nH : Int) := by omega
        have hi1e : i + (nH - i1) = nH - 1 := by omega
        have HI1E := Lib.hid hi1e
        rw [hln] at hhe
        rw [hnH] at hs3h hm
        have hm3 : m + 1 + S3.hs.length ≤ H := by omega
        have HFF := Lib.hid HI.out.2
        clear hd hf0 hf1 hpos hlen' hfs hfi hL hLi hhe hE hS3 hdl hstep hln g1 g2 g3 g4 g5 g6 g7 hVS hceq c3 x1 x2 hcl c4 c5 hpsG hcg hx1v npH hok9 hF2 hx hvl hin hi1e hi1
        go_wp2_with fail
        refine (HV2.out wr (Below.refl _ _)).mono ?_
        rintro e w5 ⟨rfl, n5, rfl⟩
        go_wp2_with fail
        refine (HF2.out _ (below_drewN (Below.refl _ _) _)).mono ?_
        rintro e w6 ⟨rfl, rfl⟩
        go_wp2_with fail
        refine (HV2.out _ (below_drewN (Below.refl _ _) _)).mono ?_
        rintro e W0 ⟨rfl, n6, hw6⟩
        have HB : Hid (Below wr.heap.size wr W0) := Lib.hid (by rw [hw6]; exact below_drewN (below_drewN (Below.refl _ _) _) _)
        clear hw6
        go_wp2_with fail
        refine (HF2.out _ HB.out).mono ?_
        rintro e W ⟨rfl, rfl⟩
        obtain ⟨c3, c4, c5⟩ := HKX.out W HB.out
        have hzz : wr.heap.size ≤ W.heap.size := HB.out.size
        have hpz : p < W.heap.size := by have := HB.out.size; omega
        have hgz : g < W.heap.size := by have := HB.out.size; omega
        obtain ⟨Wa, hWa⟩ : ∃ V, W.alloc (.cells #[.int .i64 x1v, .slice ax ln cx] 47) = V := ⟨_, rfl⟩
        have HBa : Hid (Below W.heap.size W Wa) := Lib.hid (by rw [← hWa]; exact (Below.refl _ _).alloc (Nat.le_refl _) _)
        have hza : Wa.heap.size = W.heap.size + 1 := by rw [← hWa]; simp
        have HWa := Lib.hid hWa
        have HBB : Hid (Below wr.heap.size wr Wa) := HB.out.trans (HBa.out.mono HB.out.size)
        have HN2 := Lib.hid (HK2.out Wa HBB.out)
        have hca : Wa.cell? ⟨W.heap.size, 1, none⟩ = some (.slice ax ln cx) := by rw [← hWa]; exact cells_news W [.int .i64 x1v, .slice ax ln cx] _ 1 _ rfl
        have HCA := Lib.hid hca
        obtain ⟨cpp, z1, z2⟩ := HKX.out Wa HBB.out
        clear hWa hca z1 z2
        by_cases hcr : cH = i1
        · have hMr : nH - i1 = 0 := by omega
          have HMr := Lib.hid hMr
          have HDR0 : Hid (cv (hv9.drop i1) = []) := List.eq_nil_of_length_eq_zero (by rw [HLD.out, hMr])
          clear hMr
          subst hcr
          go_wp2_with (first
            | (at_builtin; rw [show W.alloc (.cells #[.int .i64 x1v, .slice ax ln cx] 47) = Wa from HWa.out]; refine wpList_append_own_at _ rfl _ _ 25 rfl 0 47 i5 (.agg #[.int .i64 0, .slice none 0 0]) 2 32 Tryz.underlying25 hi5 jy0 jy1 jy2 rfl (by decide) (.slice none 0 0) 0 [] rfl (World.ownsRow_nil _ _ _ _) ⟨g, 0, none⟩ i _ (cv (hv9.take i)) rfl HLT.out HN2.out HKT.out (by unfold maxLen; omega) (by omega) (Nat.zero_le _) ?_; intro v3 w3 hown3 hgrow3 hnn3 hat3; rw [Nat.zero_add, List.nil_append] at hown3; obtain ⟨HB3', HN3, HV3, HG3, cp3⟩ := HK3.out Wa v3 w3 HBB.out (by omega) hgrow3 hat3; have HO3 := Lib.hid hown3; clear hown3 hgrow3 hat3 hnn3)
            | (at_builtin; refine wpList_append_own_at _ rfl _ _ 25 rfl 0 47 i5 (.agg #[.int .i64 0, .slice none 0 0]) 2 32 Tryz.underlying25 hi5 jy0 jy1 jy2 rfl (by decide) v3 i (cv (hv9.take i)) rfl HO3.out _ 0 _ [] rfl rfl (fun j u h => by simp at h) (fun x hx => by simp at hx) (by unfold maxLen; omega) (by omega) (Nat.zero_le _) ?_; intro v5 w5 hown5 hgrow5 hnn5 hat5; rw [← HDR0.out, show i + 0 = i + (nH - cH) by rw [HMr.out]] at hown5; obtain ⟨a5, c5v, rfl, s1, s2, s3, HQ⟩ := HK5.out Wa v3 w3 v5 w5 HBB.out HG3.out HV3.out (by rw [hza]; exact HCA.out) (by omega) hown5 hgrow5 hat5; rw [hza, Nat.add_sub_cancel] at s3; clear hown5 hgrow5 hnn5 hat5))
          obtain ⟨W8, hW8⟩ : ∃ V, w5.setCell ⟨p, 3, none⟩ (.slice a5 (nH - 1) c5v) = V := ⟨_, rfl⟩
          rw [hW8] at HQ ⊢
          clear s1 s2 s3 hW8
          obtain ⟨T3, k1, k2, ax', cx', k3, k4⟩ := HQ.out
          simp only [Value.slice.injEq, true_and] at k3
          obtain ⟨rfl, rfl⟩ := k3
          have hc := HC.out _ T3 _ _ k1 k4
          have HD3 := Lib.hid k1
          have HS3 : Hid (Stp T G T3 G' w W8) := HSS.out.trans k2 trivial
          clear k1 k2 k4 HQ
          refine hc.mono ?_
          rintro e w8 ⟨rfl, hw⟩
          have HW8 := Lib.hid hw
          clear hw hc
          by_cases hE0 : E = 0
          · subst hE0
            have HX4 : Hid (∃ T4 G4, RDocI T4 G4 w8 p S3 ∧ Stp T G T4 G4 w w8) := by
              rcases HW8.out with ⟨q1, _⟩ | ⟨_, T4, G4, q2, q3⟩
              · exact absurd rfl q1
              · exact ⟨T4, G4, q2, HS3.out.trans q3 trivial⟩
            have HI2 : Hid (RlI H S2 (m + 1) (f - 1) S3) := by
              have h1 := HI.out.1
              have h2 := HFF.out
              rw [HST.out f HFF.out, if_pos rfl] at h1
              exact ⟨by rw [h1]; simp only [Prod.mk.injEq, and_true]; omega, by omega⟩
            obtain ⟨T4, G4, hdd, hss⟩ := HX4.out
            have HDD4 := Lib.hid hdd; have HSS4 := Lib.hid hss
            clear hdd hss HX4 HW8
            go_wp2
            go_roundw
            case rel => exact ⟨m + 1, f - 1, S3, T4, G4, rfl, by go_num, hm3, hs3l, HI2, HDD4, HSS4⟩
            case measure => simp [intOf]; omega
          · have hq9 : (E != 0) = true := by simp [hE0]
            have HFI : Hid (rhldF H S2 = (m, rdropH r')) := by
              have h1 := HI.out.1
              rw [HST.out f HFF.out, if_neg hE0] at h1
              rw [h1]; rfl
            have HX4 : Hid (RDocI T3 G' w8 p (rdropH r') ∧ Stp T G T3 G' w w8) := by
              rcases HW8.out with ⟨_, q2⟩ | ⟨q1, _⟩
              · exact ⟨HD3.out.below q2, HS3.out.trans (Stp.of_below q2) trivial⟩
              · exact absurd q1 hE0
            clear HW8
            go_wp2_with fail
            go_ret2
            rw [HFI.out]
            exact ⟨rfl, T3, G', HX4.out.1, HX4.out.2⟩
        · have hcr2 : ¬ (cH : Int) = (i1 : Int) := by omega
          go_wp2_with (first
            | (at_builtin; rw [show W.alloc (.cells #[.int .i64 x1v, .slice ax ln cx] 47) = Wa from HWa.out]; refine wpList_append_own_at _ rfl _ _ 25 rfl 0 47 i5 (.agg #[.int .i64 0, .slice none 0 0]) 2 32 Tryz.underlying25 hi5 jy0 jy1 jy2 rfl (by decide) (.slice none 0 0) 0 [] rfl (World.ownsRow_nil _ _ _ _) ⟨g, 0, none⟩ i _ (cv (hv9.take i)) rfl HLT.out HN2.out HKT.out (by unfold maxLen; omega) (by omega) (Nat.zero_le _) ?_; intro v3 w3 hown3 hgrow3 hnn3 hat3; rw [Nat.zero_add, List.nil_append] at hown3; obtain ⟨HB3', HN3, HV3, HG3, cp3⟩ := HK3.out Wa v3 w3 HBB.out (by omega) hgrow3 hat3; have HO3 := Lib.hid hown3; clear hown3 hgrow3 hat3 hnn3)
            | (at_builtin; refine wpList_append_own_at _ rfl _ _ 25 rfl 0 47 i5 (.agg #[.int .i64 0, .slice none 0 0]) 2 32 Tryz.underlying25 hi5 jy0 jy1 jy2 rfl (by decide) v3 i (cv (hv9.take i)) rfl HO3.out ⟨g, i1 * 2, none⟩ (nH - i1) (cH - i1) (cv (hv9.drop i1)) rfl HLD.out HN3.out HKD.out (by unfold maxLen; omega) (by omega) (Nat.zero_le _) ?_; intro v5 w5 hown5 hgrow5 hnn5 hat5; obtain ⟨a5, c5v, rfl, s1, s2, s3, HQ⟩ := HK5.out Wa v3 w3 v5 w5 HBB.out HG3.out HV3.out (by rw [hza]; exact HCA.out) (by omega) hown5 hgrow5 hat5; rw [hza, Nat.add_sub_cancel] at s3; clear hown5 hgrow5 hnn5 hat5))
          obtain ⟨W8, hW8⟩ : ∃ V, w5.setCell ⟨p, 3, none⟩ (.slice a5 (nH - 1) c5v) = V := ⟨_, rfl⟩
          rw [hW8] at HQ ⊢
          clear s1 s2 s3 hW8
          obtain ⟨T3, k1, k2, ax', cx', k3, k4⟩ := HQ.out
          simp only [Value.slice.injEq, true_and] at k3
          obtain ⟨rfl, rfl⟩ := k3
          have hc := HC.out _ T3 _ _ k1 k4
          have HD3 := Lib.hid k1
          have HS3 : Hid (Stp T G T3 G' w W8) := HSS.out.trans k2 trivial
          clear k1 k2 k4 HQ
          refine hc.mono ?_
          rintro e w8 ⟨rfl, hw⟩
          have HW8 := Lib.hid hw
          clear hw hc
          by_cases hE0 : E = 0
          · subst hE0
            have HX4 : Hid (∃ T4 G4, RDocI T4 G4 w8 p S3 ∧ Stp T G T4 G4 w w8) := by
              rcases HW8.out with ⟨q1, _⟩ | ⟨_, T4, G4, q2, q3⟩
              · exact absurd rfl q1
              · exact ⟨T4, G4, q2, HS3.out.trans q3 trivial⟩
            have HI2 : Hid (RlI H S2 (m + 1) (f - 1) S3) := by
              have h1 := HI.out.1
              have h2 := HFF.out
              rw [HST.out f HFF.out, if_pos rfl] at h1
              exact ⟨by rw [h1]; simp only [Prod.mk.injEq, and_true]; omega, by omega⟩
            obtain ⟨T4, G4, hdd, hss⟩ := HX4.out
            have HDD4 := Lib.hid hdd; have HSS4 := Lib.hid hss
            clear hdd hss HX4 HW8
            go_wp2
            go_roundw
            case rel => exact ⟨m + 1, f - 1, S3, T4, G4, rfl, by go_num, hm3, hs3l, HI2, HDD4, HSS4⟩
            case measure => simp [intOf]; omega
          · have hq9 : (E != 0) = true := by simp [hE0]
            have HFI : Hid (rhldF H S2 = (m, rdropH r')) := by
              have h1 := HI.out.1
              rw [HST.out f HFF.out, if_neg hE0] at h1
              rw [h1]; rfl
            have HX4 : Hid (RDocI T3 G' w8 p (rdropH r') ∧ Stp T G T3 G' w w8) := by
              rcases HW8.out with ⟨_, q2⟩ | ⟨q1, _⟩
              · exact ⟨HD3.out.below q2, HS3.out.trans (Stp.of_below q2) trivial⟩
              · exact absurd q1 hE0
            clear HW8
            go_wp2_with fail
            go_ret2
            rw [HFI.out]
            exact ⟨rfl, T3, G', HX4.out.1, HX4.out.2⟩
      · have HFI : Hid (rhldF H S2 = (m, r')) := by
          have h1 := HI.out.1
          have h2 : rhldF f r' = (0, r') := by
            cases f with
            | zero => rfl
            | succ f => simp only [rhldF]; rw [hx, hF2, if_neg hin]
          rw [h2] at h1
          rw [h1]; rfl
        have HX4 : Hid (∀ W, Below wr.heap.size wr W → RDocI T' G' W p r' ∧ Stp T G T' G' w W) := fun W hW => ⟨hd.below hW, HSS.out.trans (Stp.of_below hW) trivial⟩
        clear hd hf0 hf1 hpos hlen' hfs hF2 hx
        go_wp2_with fail
        refine (HV2.out wr (Below.refl _ _)).mono ?_
        rintro e w5 ⟨rfl, n5, hw5⟩
        have HB5 : Hid (Below wr.heap.size wr w5) := Lib.hid (by rw [hw5]; exact below_drewN (Below.refl _ _) _)
        clear hw5
        go_wp2_with fail
        refine (HF2.out _ HB5.out).mono ?_
        rintro e w6 ⟨rfl, rfl⟩
        go_wp2_with fail
        go_ret2
        rw [HFI.out]
        exact ⟨rfl, T', G', HX4.out _ HB5.out⟩
  · have hq9 : (A != 0) = true := by simp [hA0]
    have hrx := HRX.out
    rw [if_pos hA0] at hrx
    subst hrx
    have HX4 : Hid (RDocI T G w4 p r ∧ Stp T G T G w w4) := by
      rcases HW.out with ⟨_, q2⟩ | ⟨q1, _⟩
      · exact ⟨(HD.out.below HB3.out).below q2, (HSB.out _ HB3.out).trans (Stp.of_below q2) trivial⟩
      · exact absurd q1 hA0
    clear HW HRX
    go_wp2_with fail
    go_ret2
    exact ⟨rfl, T, G, HX4.out.1, HX4.out.2⟩

set_option maxHeartbeats 1000000 in
theorem rreceive_any (T G : Nat → Prop) (p : Nat) (r : RS) (w : World) (h : RDocI T G w p r) (hlen : r.h.length ≤ 850) (k : Int) (h1 : -9223372036854775808 ≤ k) (h2 : k ≤ 9223372036854775807) (a : Option Addr) (cap : Nat) (ps : List PE) (hP : PS w.heap.size w a cap ps) (hn : ps.length ≤ 1000) (hf : ∀ q ∈ ps, q.fit ∧ q.t.size ≤ 100000) (hG : ps.length ≠ 0 → ∀ b, blkOf a b → G b) :
    Calls Tryz.prog 18 #[.pointer (some ⟨p, 0, none⟩), .agg #[.int .i64 k, .slice a ps.length cap]] w fun e w' =>  e = .returned (.tuple #[.int .i64 (rrcvF r k ps).1.1, .int .i64 (rrcvF r k ps).1.2]) ∧ ∃ T' G', RDocI T' G' w' p (rrcvF r k ps).2 ∧ Stp T G T' G' w w' := by
  by_cases hall : 1 ≤ k ∧ k ≤ 1099511627776 ∧ ps.length ≤ 64 ∧ r.v < k ∧ ¬ 0 ≤ findI r.hs k 0
  · obtain ⟨k1, k2, k3, k4, k5⟩ := hall
    by_cases hea : r.v + 1 < k
    · by_cases hH : 16 ≤ r.hs.length
      · have hR : rrcvF r k ps = ((0, 4), r) := by
          unfold rrcvF
          rw [if_neg (by omega), if_neg (by omega), if_neg (by omega), if_pos hea, if_pos hH]
        have := rrcv_err T G p r w h hlen k h1 h2 a cap ps hP hn hf hG 4 (by rw [hR]) (by decide) (fun q => q.2.2.2.2.2 hea)
        refine this.mono ?_
        rintro e w' ⟨rfl, q2, q3⟩
        rw [hR]
        exact ⟨rfl, T, G, h.below q3, Stp.of_below q3⟩
      · have hR : rrcvF r k ps = ((0, 0), rholdS r k ps) := by
          unfold rrcvF
          rw [if_neg (by omega), if_neg (by omega), if_neg (by omega), if_pos hea, if_neg hH]
        refine (rrcv_hold T G p r w h hlen k h1 h2 a cap ps hP hn hf hG ⟨k1, k2⟩ k3 hea k5 (by omega)).mono ?_
        rintro e w' ⟨rfl, T', q2, q3⟩
        rw [hR]
        exact ⟨rfl, T', G, q2, q3⟩
    · exact rrcv_apply T G p r w h hlen k h1 h2 a cap ps hP hn hf hG ⟨k1, k2⟩ k3 k4 hea k5
  · have hE : ∃ E, rrcvF r k ps = ((0, E), r) ∧ E ≠ 0 := by
      unfold rrcvF
      by_cases c1 : k < 1 ∨ 1099511627776 < k
      · exact ⟨1, if_pos c1, by decide⟩
      · rw [if_neg c1]
        by_cases c2 : 64 < ps.length
        · exact ⟨4, if_pos c2, by decide⟩
        · rw [if_neg c2]
          by_cases c3 : k ≤ r.v ∨ 0 ≤ findI r.hs k 0
          · exact ⟨8, if_pos c3, by decide⟩
          · exact absurd ⟨by omega, by omega, by omega, by omega, by omega⟩ hall
    obtain ⟨E, hR, hE0⟩ := hE
    have := rrcv_err T G p r w h hlen k h1 h2 a cap ps hP hn hf hG E (by rw [hR]) hE0 (fun q => hall ⟨q.1, q.2.1, q.2.2.1, q.2.2.2.1, q.2.2.2.2.1⟩)
    refine this.mono ?_
    rintro e w' ⟨rfl, q2, q3⟩
    rw [hR]
    exact ⟨rfl, T, G, h.below q3, Stp.of_below q3⟩

end Go.Proofs.YtkehgoailhpenaaGreat

/- The contract of the reference's Since. It has no conditions. -/
namespace Go.Proofs.YtkehgoailhpenaaGreat
open Go.RowKit Go.Shelf Go.Maps
set_option linter.unusedVariables false

/-- The cells of the reference's document that Since reads. -/
theorem RDocI.eds {T G : Nat → Prop} {w : World} {p : Nat} {r : RS} (h : RDocI T G w p r) : ∃ g cT gE cE N, N = r.h.length ∧ w.cell? ⟨p, 0, none⟩ = some (.int .i64 r.f) ∧ w.cell? ⟨p, 1, none⟩ = some (.slice (some ⟨g, 0, none⟩) N cT) ∧ w.cell? ⟨p, 2, none⟩ = some (.slice (some ⟨gE, 0, none⟩) N cE) ∧
    p < w.heap.size ∧ g < w.heap.size ∧ gE < w.heap.size ∧ ∀ k (hk : k < r.h.length), w.cell? ⟨g, k, none⟩ = some (.string (r.h[k]).1) ∧ ∃ u, w.cell? ⟨gE, k, none⟩ = some u ∧ EsG G w u (r.h[k]).2 := by
  obtain ⟨vT, vE, vH, us, hv, h1, h2, h3, h4, h5, h6, h7⟩ := h.mem
  have hpos : 0 < r.h.length := List.length_pos_iff.2 h.ok.ne
  have c0 := h1.cell 0
  have c1 := h1.cell 1
  have c2 := h1.cell 2
  simp only [List.getElem?_toArray, List.getElem?_cons_zero, List.getElem?_cons_succ] at c0 c1 c2
  have h2' := h2
  have h3' := h3
  obtain ⟨n, hn⟩ : ∃ n, r.h.length = n + 1 := ⟨r.h.length - 1, by omega⟩
  rw [hn] at h2' h3'
  obtain ⟨g, cT, rfl⟩ := ownsRow_succ h2'
  obtain ⟨gE, cE, rfl⟩ := ownsRow_succ h3'
  rw [← hn] at c1 c2 h2' h3'
  have hul := h4.len
  refine ⟨g, cT, gE, cE, r.h.length, rfl, c0, c1, c2, h1.lt, (h2'.lt g rfl).2, (h3'.lt gE rfl).2, fun k hk => ⟨?_, us[k]'(by omega), ?_, h4.at_ k (by omega) hk⟩⟩
  · rw [h2'.cellAt k (by omega), strs_get r.h k hk]
  · rw [h3'.cellAt k (by omega), List.getElem?_eq_getElem (by omega)]

end Go.Proofs.YtkehgoailhpenaaGreat

/- Both documents at one version, and their blocks apart: mathematics. It has no conditions. -/
namespace Go.Proofs.YtkehgoailhpenaaGreat
open Go.RowKit Go.Shelf Go.Maps
set_option linter.unusedVariables false

theorem difr_xs {a b : ByteArray} {es : List Er} (h : DifR a b es) : ∀ e ∈ es, e.x.size ≤ b.size := by
  rcases h with ⟨rfl, rfl⟩ | ⟨hne, p, q, hp, hq, rfl⟩
  · simp
  · intro e he
    simp only [List.mem_singleton] at he
    subst he
    have hx : (er (dif (sb a) (sb b) p q)).x = b.extract p (b.size - q) := by
      simp only [er, dif, sb_len]
      exact bs_cut b p (b.size - q)
    rw [hx, ByteArray.size_extract]
    omega
theorem SncR.xs {t u : ByteArray} : ∀ {l : List (List Er)} {x R : List Er} {u0 : ByteArray}, SncR t u x l R → vErr (t.size : Int) x = 0 → apS t x = u0 → ChF u0 l → u.size ≤ 4096 → (∀ e ∈ x, e.x.size ≤ 4096) → ∀ e ∈ R, e.x.size ≤ 4096
  | [], x, R, u0, h, h1, h2, h3, h4, h5 => by
    have : R = x := h
    subst this
    exact h5
  | y :: l, x, R, u0, h, h1, h2, h3, h4, h5 => by
    unfold SncR at h
    split at h
    · rename_i hc
      obtain ⟨k1, k2, _, k4⟩ := comp_to h1 (by rw [h2]; exact h3.1) hc
      exact SncR.xs h k1 (by rw [k2, h2]) h3.2.2 h4 (fun e he => by have := k4 e he; have := h3.2.1; rw [h2] at *; omega)
    · exact fun e he => by have := difr_xs h e he; omega
/-- Since, from a text that is remembered. -/
theorem SncR.all {t u : ByteArray} {L : List (List Er)} {R : List Er} (h : SncR t u [] L R) (hc : ChF t L) (he : endF t L = u) (hu : u.size ≤ 4096) : vErr (t.size : Int) R = 0 ∧ apS t R = u ∧ R.length ≤ 64 ∧ (∀ e ∈ R, e.x.size ≤ 4096) := by
  obtain ⟨h1, h2⟩ := h.ok rfl (apS_nil t) hc he
  exact ⟨h1, h2, vErr_len h1, h.xs rfl (apS_nil t) hc hu (by simp)⟩
/-- Both documents know the same versions, and their texts and edits behind them are the same. -/
theorem Two.at {s : DS} {r : RS} (h : Two s r) (hok : ∀ y ∈ r.h, y.1.size ≤ 4096) (x : Int) : ∃ (k : Nat) (t : ByteArray) (L : List (List Er)), (oldS s ≤ x ∧ x ≤ s.v ↔ Kn r x) ∧ (Kn r x → ChF t L ∧ endF t L = r.text ∧ t.size ≤ 4096) ∧
    (oldS s ≤ x ∧ x ≤ s.v → (k : Int) = x - oldS s) ∧ (oldS s ≤ x ∧ x ≤ s.v → ∃ hk : k < s.ss.length, (s.ss[k]).1 = t ∧ nexts s k = L ∧ ChF t L) ∧
    (Kn r x → ∃ (k : Nat) (hk : k < r.h.length), (k : Int) = x - r.f ∧ (r.h[k]).1 = t ∧ (r.h.drop (k + 1)).map Prod.snd = L ∧ ChF t L) := by
  have hold := h.hist.old h.sim.v
  have hlen := h.hist.len
  have hpos : 0 < r.h.length := List.length_pos_iff.2 h.ne
  have hv := h.sim.v
  have hrv : r.v = r.f + r.h.length - 1 := rfl
  have hiff : oldS s ≤ x ∧ x ≤ s.v ↔ Kn r x := by unfold Kn; omega
  by_cases hK : Kn r x
  · obtain ⟨q1, q2⟩ := hiff.2 hK
    obtain ⟨k, hk⟩ : ∃ k : Nat, (k : Int) = x - oldS s := ⟨(x - oldS s).toNat, by omega⟩
    have hkl : k < s.ss.length := by omega
    have hkr : r.h.length - 17 + k < r.h.length := by omega
    have ht := h.hist.text_at hkl
    have hn := h.hist.nexts_at hkl
    obtain ⟨c1, c2⟩ := h.lk.ch _ hkr hok
    refine ⟨k, (r.h[r.h.length - 17 + k]).1, (r.h.drop (r.h.length - 17 + k + 1)).map Prod.snd, hiff, fun _ => ⟨c1, c2, hok _ (List.getElem_mem _)⟩, fun _ => hk, fun _ => ⟨hkl, ht, hn, c1⟩, fun _ => ⟨_, hkr, by omega, rfl, rfl, c1⟩⟩
  · exact ⟨0, ⟨#[]⟩, [], hiff, fun q => absurd q hK, fun q => absurd (hiff.1 q) hK, fun q => absurd (hiff.1 q) hK, fun q => absurd q hK⟩
theorem RDocI.monoG {T G G1 : Nat → Prop} {w : World} {p : Nat} {r : RS} (h : RDocI T G w p r) (hG : ∀ b, G b → G1 b) (hlt : ∀ b, G1 b → b < w.heap.size) (ha : ∀ b, T b → ¬ G1 b) : RDocI T G1 w p r := by
  obtain ⟨vT, vE, vH, us, hv, h1, h2, h3, h4, h5, h6, h7⟩ := h.mem
  exact ⟨h.ok, ⟨vT, vE, vH, us, hv, h1, h2, h3, h4.mono (fun u x hu => hu.keep (Nat.le_refl _) (fun _ _ _ => rfl) hG), h5, h6.keep (Nat.le_refl _) (fun _ _ _ => rfl) hG, h7⟩, h.tp, h.lt, hlt, ha⟩
/-- The blocks of the two documents are apart, and none that a call writes lies below B. -/
structure Sep2 (B : Nat) (W : World) (T G T2 G2 : Nat → Prop) : Prop where
  z : B ≤ W.heap.size
  t : ∀ b, T b → B ≤ b
  t2 : ∀ b, T2 b → B ≤ b
  a : ∀ b, T b → ¬ T2 b ∧ ¬ G2 b
  a2 : ∀ b, T2 b → ¬ G b
  lt : ∀ b, T b ∨ G b ∨ T2 b ∨ G2 b → b < W.heap.size
  lo : ∀ b, b < B → G2 b
theorem Sep2.below {B : Nat} {W W' : World} {T G T2 G2 : Nat → Prop} (h : Sep2 B W T G T2 G2) (hb : W.heap.size ≤ W'.heap.size) : Sep2 B W' T G T2 G2 :=
  ⟨Nat.le_trans h.z hb, h.t, h.t2, h.a, h.a2, fun b hb' => Nat.lt_of_lt_of_le (h.lt b hb') hb, h.lo⟩
/-- A call on the first document. -/
theorem Sep2.one {B : Nat} {W W' : World} {T G T2 G2 T' G' : Nat → Prop} (h : Sep2 B W T G T2 G2) (k : Stp T G T' G' W W') (hlt : ∀ b, T' b ∨ G' b → b < W'.heap.size) : Sep2 B W' T' G' T2 G2 := by
  have hz := k.only.size
  have h0 := h.z
  refine ⟨by omega, fun b hb => (k.t b hb).elim (h.t b) (fun e => by omega), h.t2, fun b hb => ?_, fun b hb hg => ?_, fun b hb => ?_, h.lo⟩
  · rcases k.t b hb with e | e
    · exact h.a b e
    · exact ⟨fun q => by have := h.lt b (.inr (.inr (.inl q))); omega, fun q => by have := h.lt b (.inr (.inr (.inr q))); omega⟩
  · rcases k.g b hg with e | e
    · exact h.a2 b hb e
    · have := h.lt b (.inr (.inr (.inl hb))); omega
  · rcases hb with hb | hb | hb | hb
    · exact hlt b (.inl hb)
    · exact hlt b (.inr hb)
    · have := h.lt b (.inr (.inr (.inl hb))); omega
    · have := h.lt b (.inr (.inr (.inr hb))); omega
/-- A call on the second one. -/
theorem Sep2.two {B : Nat} {W W' : World} {T G T2 G2 T' G' : Nat → Prop} (h : Sep2 B W T G T2 G2) (k : Stp T2 G2 T' G' W W') (hlt : ∀ b, T' b ∨ G' b → b < W'.heap.size) : Sep2 B W' T G T' (fun b => G' b ∨ b < B) := by
  have hz := k.only.size
  have h0 := h.z
  refine ⟨by omega, h.t, fun b hb => (k.t b hb).elim (h.t2 b) (fun e => by omega), fun b hb => ⟨fun q => ?_, fun q => ?_⟩, fun b hb hg => ?_, fun b hb => ?_, fun b hb => .inr hb⟩
  · rcases k.t b q with e | e
    · exact (h.a b hb).1 e
    · have := h.lt b (.inl hb); omega
  · rcases q with q | q
    · rcases k.g b q with e | e
      · exact (h.a b hb).2 e
      · have := h.lt b (.inl hb); omega
    · have := h.t b hb; omega
  · rcases k.t b hb with e | e
    · exact h.a2 b e hg
    · have := h.lt b (.inr (.inl hg)); omega
  · rcases hb with hb | hb | hb | hb | hb
    · have := h.lt b (.inl hb); omega
    · have := h.lt b (.inr (.inl hb)); omega
    · exact hlt b (.inl hb)
    · exact hlt b (.inr hb)
    · omega
theorem RDocI.lowG {B : Nat} {W W' : World} {T G T2 G2 T' G' : Nat → Prop} {p : Nat} {r : RS} (h : RDocI T' G' W' p r) (hs : Sep2 B W T G T2 G2) (k : Stp T2 G2 T' G' W W') : RDocI T' (fun b => G' b ∨ b < B) W' p r := by
  have hz := k.only.size
  have h0 := hs.z
  refine h.monoG (fun b hb => .inl hb) (fun b hb => hb.elim (h.glt b) (fun e => by omega)) (fun b hb hg => ?_)
  rcases hg with hg | hg
  · exact h.apart b hb hg
  · rcases k.t b hb with e | e
    · have := hs.t2 b e; omega
    · omega
/-- The other document is kept. -/
theorem DocI.kept {B : Nat} {W W' : World} {T G T2 G2 T' G' : Nat → Prop} {p : Nat} {s : DS} (h : DocI T G W p s) (hs : Sep2 B W T G T2 G2) (k : Stp T2 G2 T' G' W W') : DocI T G W' p s :=
  h.apartFrom k (fun b hb hT => hb.elim (fun q => (hs.a b q).1 hT) (fun q => hs.a2 b hT q))
theorem RDocI.kept {B : Nat} {W W' : World} {T G T2 G2 T' G' : Nat → Prop} {p : Nat} {r : RS} (h : RDocI T2 G2 W p r) (hs : Sep2 B W T G T2 G2) (k : Stp T G T' G' W W') : RDocI T2 G2 W' p r :=
  h.apartFrom k (fun b hb hT => hb.elim (fun q => (hs.a b hT).1 q) (fun q => (hs.a b hT).2 q))

end Go.Proofs.YtkehgoailhpenaaGreat

/- The contract of Positions. Conditions: whole characters, texts of at most 400 bytes, valid edits at boundaries. -/
namespace Go.Proofs.YtkehgoailhpenaaGreat
open Go.RowKit Go.Shelf
set_option linter.unusedVariables false

theorem pos_small3 {s : ByteArray} {i l u : Nat} (h : Pos (sb s) i l u) (hs : s.size ≤ 500) : l ≤ 1000 ∧ u ≤ 1000 ∧ I64n (l : Int) ∧ I64n (u : Int) := by
  have hi := h.lt
  rw [sb_len] at hi
  have h0 := h.2.2.unis_take
  have h1 := unis_le (((sb s).drop (lf (sb s) i).2).take (i - (lf (sb s) i).2))
  rw [List.length_take, List.length_drop, sb_len] at h1
  have h2 := (lf_le (sb s) i).2
  have h3 := h.2.1
  have a : l ≤ 1000 := by omega
  have b : u ≤ 1000 := by omega
  exact ⟨a, b, ⟨by omega, by omega⟩, ⟨by omega, by omega⟩⟩
/-- An edit by offsets, of an edit that came in. -/
def edM (e : Er) : Ed := ⟨e.f.toNat, e.t.toNat, e.x⟩
theorem infoP : (Tryz.prog.info? 78).map (fun i => (i.zero, i.size, i.bytes)) = some (some (.agg #[.int .i64 0, .int .i64 0, .int .i64 0, .int .i64 0, .string ⟨#[]⟩]), 5, 48) := by kernel_rfl
/-- Edits by positions that become these edits. -/
theorem back_eds {S : ByteArray} {xs : List Er} {qs : Nat → PE} (hl : xs.length ≤ 64) (hpos : ∀ e ∈ xs, 0 ≤ e.f ∧ 0 ≤ e.t) (h : ∀ j, j < xs.length → EdS (sb S) (qs j) (edM (eg xs j)) 0) : pE S ((List.range xs.length).map qs) = 0 ∧ pL S ((List.range xs.length).map qs) = xs := by
  have hg : ∀ j, j < xs.length → pG ((List.range xs.length).map qs) j = qs j := fun j hj => by simp [pG, hj]
  have hE : pE S ((List.range xs.length).map qs) = 0 := by
    unfold pE
    rw [if_neg (by simp; omega)]
    refine pE0_zero (fun j hj => ?_)
    have hj' : j < xs.length := by simpa using hj
    rw [hg j hj', edD_eq (h j hj')]
  refine ⟨hE, ?_⟩
  unfold pL
  rw [if_pos hE]
  refine List.ext_getElem (by simp) (fun j h1 h2 => ?_)
  have hj : j < xs.length := h2
  simp only [List.map_map, List.getElem_map, List.getElem_range, Function.comp]
  rw [edD_eq (h j hj)]
  have he : eg xs j = xs[j] := by simp [eg, List.getElem?_eq_getElem hj]
  have hp := hpos _ (eg_mem hj)
  rw [← he]
  generalize eg xs j = e at hp ⊢
  obtain ⟨f, t, x⟩ := e
  simp only at hp
  simp only [edM, Ed.er]
  congr 1 <;> omega

set_option maxRecDepth 100000 in
set_option maxHeartbeats 8000000 in
theorem positions_any (S : ByteArray) (ax : Option Addr) (cx : Nat) (xs : List Er) (w2 : World) (hSl : S.size ≤ 400) (HW : Hid (Whl (sb S))) (hx1 : xs.length ≤ 5) (hx2 : vErr (S.size : Int) xs = 0) (hx3 : ∀ x ∈ xs, x.x.size ≤ S.size + 7 ∧ Bd (sb S) x.f.toNat ∧ Bd (sb S) x.t.toNat) (hX : ES w2.heap.size w2 ax cx xs) :
    Calls Tryz.prog 32 #[.string S, .slice ax xs.length cx] w2 fun e w' => ∃ a c, ∃ ps : List PE, e = .returned (.tuple #[.slice a ps.length c, .bool true]) ∧ PS w'.heap.size w' a c ps ∧ ps.length = xs.length ∧ (∀ p ∈ ps, p.fit ∧ p.t.size ≤ 100000) ∧ pE S ps = 0 ∧ pL S ps = xs ∧ Below w2.heap.size w2 w' := by
  obtain ⟨i5, hi5, jy0, jy1, jy2⟩ := info_parts infoP
  have hok := vErr_ok hx2
  have hfx := fit_of hx2 (by omega) (fun e he => by have := (hx3 e he).1; omega)
  have hcx := hX.le
  obtain ⟨n, hn⟩ : ∃ n, xs.length = n := ⟨_, rfl⟩
  obtain ⟨bb, off, hab, hcell⟩ := hX.cells.core
  obtain ⟨lo, hlo⟩ : ∃ lo, w2.heap.size = lo := ⟨_, rfl⟩
  rw [hn] at hab hcell hcx hx1 ⊢
  rw [hlo] at hab
  have HPOS : Hid (∀ k, k < n → ∃ x y U V : Nat, (eg xs k).f = (x : Int) ∧ (eg xs k).t = (y : Int) ∧ Bord (sb S) x U ∧ Bord (sb S) y V ∧ x ≤ y ∧ y ≤ S.size) := fun k hk => by
    have hm := eg_mem (es := xs) (k := k) (by omega)
    have h1 := hok.2.2 _ hm
    obtain ⟨_, h2, h3⟩ := hx3 _ hm
    obtain ⟨U, hU⟩ := bord_of_bd HW.out (by rw [sb_len]; omega) h2
    obtain ⟨V, hV⟩ := bord_of_bd HW.out (by rw [sb_len]; omega) h3
    exact ⟨_, _, U, V, by omega, by omega, hU, hV, by omega, by omega⟩
  have HN := Lib.hid hn; have HX := Lib.hid hX; have HX2 := Lib.hid hx2; have HFX := Lib.hid hfx; have HAB := Lib.hid hab; have HC := Lib.hid hcell; have HLO := Lib.hid hlo; have HX3 := Lib.hid hx3
  have HO0 : Hid (w2.ownsRow lo 78 5 (.slice none 0 0) 0 (pvals (fun _ => ⟨0, 0, 0, 0, ⟨#[]⟩⟩) 0)) := World.ownsRow_nil _ _ _ _
  have HB0 : Hid (Below lo w2 w2) := Below.refl _ _
  clear hX hx2 hx3 hok hfx hab hcell hn hlo
  go_enter Tryz.func32, Tryz.ntmps32
  go_wp2_with fail
  go_loopw [6, 7] (fun v q wr => ∃ (k : Nat) (ps : Nat → PE), k ≤ n ∧ q = .int .i64 (k : Int) ∧ Hid (∀ j, j < k → (ps j).fit ∧ EdS (sb S) (ps j) (edM (eg xs j)) 0) ∧ Hid (wr.ownsRow lo 78 5 v k (pvals ps k)) ∧ Hid (Below lo w2 wr)) (fun _ q _ => n - (intOf q).toNat)
  case atStart => exact ⟨0, fun _ => ⟨0, 0, 0, 0, ⟨#[]⟩⟩, by omega, rfl, Lib.hid (fun j h => by omega), HO0, HB0.out⟩
  case round =>
    obtain ⟨k, ps, hk, rfl, HPS, HO, HR⟩ := hrel
    have hlr : lo ≤ wr.heap.size := by have := HR.out.size; have := HLO.out; omega
    by_cases hlt : k < n
    · have hkk : (k : Int) < (n : Int) := by omega
      obtain ⟨rfl, hbb⟩ := HAB.out.resolve_left (by omega)
      have hcw : Hid (∀ W, Below lo w2 W → W.cell? ⟨bb, off + k * 3, none⟩ = some (.int .i64 (eg xs k).f) ∧ W.cell? ⟨bb, off + k * 3 + 1, none⟩ = some (.int .i64 (eg xs k).t) ∧ W.cell? ⟨bb, off + k * 3 + 2, none⟩ = some (.string (eg xs k).x)) := fun W hW => HC.out k hlt W (hW.block bb hbb)
      obtain ⟨x, y, U, V, hx, hy, hU, hV, hxy, hys⟩ := HPOS.out k hlt
      obtain ⟨z, hz⟩ : ∃ z, (eg xs k).x = z := ⟨_, rfl⟩
      rw [hx, hy, hz] at hcw
      have hed : edM (eg xs k) = ⟨x, y, z⟩ := by unfold edM; rw [hx, hy, hz]; simp
      obtain ⟨c0, _, _⟩ := hcw.out wr HR.out
      have HBX := Lib.hid hU; have HBY := Lib.hid hV; have HED := Lib.hid hed; have HZ := Lib.hid hz
      clear hU hV hx hy hz hed
      go_wp2_with fail
      refine (rat_any S (x : Int) _ (by omega)).mono ?_
      rintro e w3 ⟨l1, u1, er, rfl, hsp, b3⟩
      obtain ⟨rfl, hpx⟩ := at_border hsp HBX.out
      obtain ⟨y1, y2, y3, y4⟩ := pos_small3 hpx (by omega)
      have HPX := Lib.hid hpx
      have hB3 : Below lo w2 w3 := HR.out.trans (b3.mono hlr)
      have z3 : lo ≤ w3.heap.size := by have := b3.size; omega
      obtain ⟨p1, hp1⟩ : ∃ p, w3.heap.size = p := ⟨_, rfl⟩
      obtain ⟨W3, hW3⟩ : ∃ W, w3.alloc (.cells #[.int .i64 (l1 : Int), .int .i64 (u1 : Int)] 24) = W := ⟨_, rfl⟩
      have k3 : Blk W3 p1 24 #[.int .i64 (l1 : Int), .int .i64 (u1 : Int)] := by rw [← hW3, ← hp1]; exact Blk.new _ _ _
      have hB3a : Below lo w2 W3 := by rw [← hW3]; exact hB3.alloc z3 _
      have s3 : W3.heap.size = p1 + 1 := by rw [← hW3, ← hp1]; simp
      obtain ⟨_, c1, _⟩ := hcw.out W3 hB3a
      have hp1w : wr.heap.size ≤ p1 := by have := b3.size; omega
      have hO3 : Below wr.heap.size wr W3 := by rw [← hW3]; exact b3.alloc b3.size _
      have HW3 := Lib.hid hW3; have HK3 := Lib.hid k3; have HB3 := Lib.hid hB3a; have HP1 := Lib.hid hp1; have HO3 := Lib.hid hO3
      clear hsp hpx b3 c0 hW3 k3 hB3 hB3a hO3
      rw [← HW3.out] at c1
      go_wp2_with fail
      rw [show w3.alloc (.cells #[.int .i64 (l1 : Int), .int .i64 (u1 : Int)] 24) = W3 from HW3.out]
      refine (rat_any S (y : Int) _ (by omega)).mono ?_
      rintro e w4 ⟨l2, u2, er, rfl, hsp, b4⟩
      obtain ⟨rfl, hpy⟩ := at_border hsp HBY.out
      obtain ⟨y5, y6, y7, y8⟩ := pos_small3 hpy (by omega)
      have z4 : lo ≤ w4.heap.size := by have := b4.size; omega
      obtain ⟨p2, hp2⟩ : ∃ p, w4.heap.size = p := ⟨_, rfl⟩
      obtain ⟨W4, hW4⟩ : ∃ W, w4.alloc (.cells #[.int .i64 (l2 : Int), .int .i64 (u2 : Int)] 24) = W := ⟨_, rfl⟩
      have hp2p : p1 < p2 := by have := b4.size; omega
      have b34 : Below W3.heap.size W3 W4 := by rw [← hW4]; exact b4.alloc b4.size _
      have k4 : Blk W4 p2 24 #[.int .i64 (l2 : Int), .int .i64 (u2 : Int)] := by rw [← hW4, ← hp2]; exact Blk.new _ _ _
      have k34 : Blk W4 p1 24 #[.int .i64 (l1 : Int), .int .i64 (u1 : Int)] := HK3.out.same (b34.block p1 (by omega))
      have hB4 : Below lo w2 W4 := HB3.out.trans (b34.mono (by omega))
      have hO4 : Below wr.heap.size wr W4 := HO3.out.trans (b34.mono HO3.out.size)
      have hown4 : W4.ownsRow lo 78 5 u6 k (pvals ps k) := own_same HO.out (fun g hg => hO4.block g (HO.out.lt g hg).2)
      have z4a : lo ≤ W4.heap.size := by have := b34.size; omega
      have hed : EdS (sb S) ⟨l1, u1, l2, u2, z⟩ (edM (eg xs k)) 0 := by rw [HED.out]; exact ed_there z HPX.out hpy hxy
      obtain ⟨qs, hqs⟩ : ∃ qs : Nat → PE, (fun j => if j = k then (⟨l1, u1, l2, u2, z⟩ : PE) else ps j) = qs := ⟨_, rfl⟩
      have hqk : qs k = ⟨l1, u1, l2, u2, z⟩ := by rw [← hqs]; simp
      have hqj : ∀ j, j < k → qs j = ps j := fun j hj => by rw [← hqs]; simp; omega
      have HQ : Hid (∀ j, j < k + 1 → (qs j).fit ∧ EdS (sb S) (qs j) (edM (eg xs j)) 0) := fun j hj => by
        by_cases e : j = k
        · subst e; rw [hqk]; exact ⟨⟨y3, y4, y7, y8⟩, hed⟩
        · rw [hqj j (by omega)]; exact HPS.out j (by omega)
      have HPV : Hid (pvals qs (k + 1) = pvals ps k ++ [.int .i64 (l1 : Int), .int .i64 (u1 : Int), .int .i64 (l2 : Int), .int .i64 (u2 : Int), .string z]) := Lib.hid (by rw [pvals_succ, hqk, pvals_congr k hqj]; rfl)
      have hw24 : W4.heap[bb]? = w2.heap[bb]? := hB4.block bb hbb
      have HS0 : Hid (∀ W : World, W.heap[p1]? = W4.heap[p1]? → W.heap[p2]? = W4.heap[p2]? → W.heap[bb]? = W4.heap[bb]? → W.cell? ⟨p1, 0, none⟩ = some (.int .i64 (l1 : Int)) ∧ W.cell? ⟨p1, 1, none⟩ = some (.int .i64 (u1 : Int)) ∧ W.cell? ⟨p2, 0, none⟩ = some (.int .i64 (l2 : Int)) ∧ W.cell? ⟨p2, 1, none⟩ = some (.int .i64 (u2 : Int)) ∧ W.cell? ⟨bb, off + k * 3 + 2, none⟩ = some (.string z)) := fun W e1 e2 e3 => by
        have a1 := k34.same e1
        have a2 := k4.same e2
        have a3 := (HC.out k hlt W (e3.trans hw24)).2.2
        rw [HZ.out] at a3
        exact ⟨by simpa using a1.cell 0, by simpa using a1.cell 1, by simpa using a2.cell 0, by simpa using a2.cell 1, a3⟩
      have hbl : p1 < W4.heap.size ∧ p2 < W4.heap.size ∧ bb < W4.heap.size := ⟨k34.lt, k4.lt, by omega⟩
      have hob : ∀ g, u6.ownBlock = some g → g ≠ p1 ∧ g ≠ p2 ∧ g ≠ bb := fun g hg => by
        have h1 := HO.out.lt g hg
        have h2 := HO3.out.size
        omega
      have HS : Hid (∀ W, Below W4.heap.size W4 W → W.cell? ⟨p1, 0, none⟩ = some (.int .i64 (l1 : Int)) ∧ W.cell? ⟨p1, 1, none⟩ = some (.int .i64 (u1 : Int)) ∧ W.cell? ⟨p2, 0, none⟩ = some (.int .i64 (l2 : Int)) ∧ W.cell? ⟨p2, 1, none⟩ = some (.int .i64 (u2 : Int)) ∧ W.cell? ⟨bb, off + k * 3 + 2, none⟩ = some (.string z)) := fun W hW =>
        HS0.out W (hW.block p1 hbl.1) (hW.block p2 hbl.2.1) (hW.block bb hbl.2.2)
      have HG : Hid (∀ w6, ((W4.alloc (.cells #[.int .i64 (l1 : Int), .int .i64 (u1 : Int), .int .i64 (l2 : Int), .int .i64 (u2 : Int), .string z] 78)).drew).grownBy w6 u6.ownBlock → W4.heap.size ≤ w6.heap.size ∧ w6.heap[p1]? = W4.heap[p1]? ∧ w6.heap[p2]? = W4.heap[p2]? ∧ w6.heap[bb]? = W4.heap[bb]?) := fun w6 hg => by
        have hb := ((Below.refl W4.heap.size W4).alloc (Nat.le_refl _) (.cells #[.int .i64 (l1 : Int), .int .i64 (u1 : Int), .int .i64 (l2 : Int), .int .i64 (u2 : Int), .string z] 78)).drew
        have hz := hb.size
        have hz6 := hg.size
        refine ⟨by omega, ?_, ?_, ?_⟩
        · exact (hg.block p1 (by omega) (fun e => (hob p1 e.symm).1 rfl)).trans (hb.block p1 hbl.1)
        · exact (hg.block p2 (by omega) (fun e => (hob p2 e.symm).2.1 rfl)).trans (hb.block p2 hbl.2.1)
        · exact (hg.block bb (by omega) (fun e => (hob bb e.symm).2.2 rfl)).trans (hb.block bb hbl.2.2)
      have HW4 := Lib.hid hW4; have HB4 := Lib.hid hB4; have HP2 := Lib.hid hp2; have HOW := Lib.hid hown4
      have c3 := HS.out W4.drew (Below.refl _ _).drew
      have c4 := HS.out ((W4.alloc (.cells #[.int .i64 (l1 : Int), .int .i64 (u1 : Int), .int .i64 (l2 : Int), .int .i64 (u2 : Int), .string z] 78)).drew) ((Below.refl _ W4).alloc (Nat.le_refl _) _).drew
      clear hsp hpy b4 c1 b34 k4 k34 hB4 hO4 hown4 hed hqs hqk hqj hW4
      go_wp2_with fail
      try rw [HP2.out]
      rw [show w4.alloc (.cells #[.int .i64 (l2 : Int), .int .i64 (u2 : Int)] 24) = W4 from HW4.out]
      go_region_held3 (fun w' => w'.cell? ⟨p1, 0, none⟩ = some (.int .i64 (l1 : Int)) ∧ w'.cell? ⟨p1, 1, none⟩ = some (.int .i64 (u1 : Int)) ∧ w'.cell? ⟨p2, 0, none⟩ = some (.int .i64 (l2 : Int)) ∧ w'.cell? ⟨p2, 1, none⟩ = some (.int .i64 (u2 : Int)) ∧ w'.cell? ⟨bb, off + k * 3 + 2, none⟩ = some (.string z)) (first | exact c3 | exact c4 | exact c6)
        (first | (rw [if_pos (by rfl)]; refine wp_append_at _ _ 45 rfl lo 78 i5 (.agg #[.int .i64 0, .int .i64 0, .int .i64 0, .int .i64 0, .string ⟨#[]⟩]) 5 48 Tryz.underlying45 hi5 jy0 jy1 jy2 rfl (by decide) u6 k (pvals ps k) rfl (HOW.out.alloc _).drew ⟨_, 0, none⟩ 1 1 [.int .i64 (l1 : Int), .int .i64 (u1 : Int), .int .i64 (l2 : Int), .int .i64 (u2 : Int), .string z] rfl rfl (cells_news W4 [.int .i64 (l1 : Int), .int .i64 (u1 : Int), .int .i64 (l2 : Int), .int .i64 (u2 : Int), .string z] _) (fun x hx => by simp at hx; rcases hx with rfl | rfl | rfl | rfl | rfl <;> rfl) (by unfold maxLen; omega) (by omega) (by simp; omega) ?_; intro v' w6 hown6 hgrow6 _; obtain ⟨_, e1, e2, e3⟩ := HG.out w6 hgrow6; have c6 := HS0.out w6 e1 e2 e3))
      have HO6 : Hid (w6.ownsRow lo 78 5 v' (k + 1) (pvals qs (k + 1))) := by rw [HPV.out]; exact hown6
      have H6 : Hid (Below lo w2 w6) := HB4.out.trans ((((Below.refl W4.heap.size W4).alloc (Nat.le_refl _) (.cells #[.int .i64 (l1 : Int), .int .i64 (u1 : Int), .int .i64 (l2 : Int), .int .i64 (u2 : Int), .string z] 78)).drew.mono z4a).grown hgrow6 (by simp; omega) (fun g hg => (HO.out.lt g hg).1))
      clear hown6 hgrow6 c3 c4 c6 e1 e2 e3
      go_wp2
      go_roundw
      case rel => exact ⟨k + 1, qs, by omega, by go_num, HQ, HO6, H6⟩
      case measure => simp [intOf]; omega
    · obtain rfl : n = k := by omega
      obtain ⟨Ap, cp, rfl, hcp1, hcp2, hPC, _⟩ := pcells_of_own HO.out
      obtain ⟨L, hL⟩ : ∃ L, (List.range n).map ps = L := ⟨_, rfl⟩
      have hLl : L.length = n := by rw [← hL]; simp
      have hLg : ∀ j, j < n → pG L j = ps j := fun j hj => by rw [← hL]; simp [pG, hj]
      have hback := back_eds (S := S) (xs := xs) (qs := ps) (by rw [HN.out]; omega) (fun e he => by have := (vErr_ok HX2.out).2.2 e he; omega) (fun j hj => (HPS.out j (by rw [HN.out] at hj; exact hj)).2)
      rw [HN.out, hL] at hback
      have hPS : PS wr.heap.size wr Ap cp L := by
        refine ⟨by omega, hcp2, ?_⟩
        rw [hLl]
        rcases hPC with h0 | ⟨b, o, h1, h2, h3⟩
        · exact .inl h0
        · exact .inr ⟨b, o, h1, h2, fun k hk i hi => by rw [h3 k hk i hi, hLg k hk]⟩
      have hfit : ∀ p ∈ L, p.fit ∧ p.t.size ≤ 100000 := by
        intro p hp
        rw [← hL] at hp
        obtain ⟨j, hj, rfl⟩ := List.mem_map.1 hp
        have hj' : j < n := List.mem_range.1 hj
        have h1 := HPS.out j hj'
        refine ⟨h1.1, ?_⟩
        have hm := eg_mem (es := xs) (k := j) (by rw [HN.out]; exact hj')
        have h2 := (HX3.out _ hm).1
        obtain ⟨o1, e1, o2, e2, _, _, h9⟩ := h1.2
        have hz : ∀ (d : Ed), d = edM (eg xs j) → d.t = (eg xs j).x := fun d hd => by rw [hd]; rfl
        rcases h9 with ⟨q1, q2, _⟩ | ⟨_, q1, q2, _⟩ | ⟨_, _, _, q2, _⟩ | ⟨_, _, _, _, q2⟩
        · exact absurd q2.symm q1
        · exact absurd q2.symm q1
        · omega
        · have := hz _ q2.symm
          simp only at this
          rw [this]; omega
      have hB : Below w2.heap.size w2 wr := by rw [HLO.out]; exact HR.out
      have HF : Hid (PS wr.heap.size wr Ap cp L ∧ L.length = n ∧ (∀ p ∈ L, p.fit ∧ p.t.size ≤ 100000) ∧ pE S L = 0 ∧ pL S L = xs ∧ Below w2.heap.size w2 wr) := ⟨hPS, hLl, hfit, hback.1, hback.2, hB⟩
      clear hLl hLg hback hPS hfit hB hPC hL
      go_wp2
      go_ret2
      obtain ⟨f1, f2, f3, f4, f5, f6⟩ := HF.out
      exact ⟨Ap, cp, L, by rw [f2]; rfl, f1, f2, f3, f4, f5, f6⟩

end Go.Proofs.YtkehgoailhpenaaGreat

/- The contract of Positions, for any text: either it finds a position for each offset, or it says that there is none. Conditions: texts of at most 5000 bytes, valid edits. -/
namespace Go.Proofs.YtkehgoailhpenaaGreat
open Go.RowKit Go.Shelf
set_option linter.unusedVariables false

theorem at_small {s : ByteArray} {off : Int} {l u : Nat} {er : Int} (h : AtSpec (sb s) off l u er) (hs : s.size ≤ 5000) : l ≤ 10000 ∧ u ≤ 10000 ∧ I64n (l : Int) ∧ I64n (u : Int) := by
  rcases h with ⟨_, rfl, rfl, _⟩ | ⟨_, rfl, rfl, _⟩ | ⟨_, i, _, h⟩
  · exact ⟨by omega, by omega, ⟨by omega, by omega⟩, ⟨by omega, by omega⟩⟩
  · exact ⟨by omega, by omega, ⟨by omega, by omega⟩, ⟨by omega, by omega⟩⟩
  · have hi := h.lt
    rw [sb_len] at hi
    have h0 := h.2.2.unis_take
    have h1 := unis_le (((sb s).drop (lf (sb s) i).2).take (i - (lf (sb s) i).2))
    rw [List.length_take, List.length_drop, sb_len] at h1
    have h2 := (lf_le (sb s) i).2
    have h3 := h.2.1
    have a : l ≤ 10000 := by omega
    have b : u ≤ 10000 := by omega
    exact ⟨a, b, ⟨by omega, by omega⟩, ⟨by omega, by omega⟩⟩
theorem at_ok {s : ByteArray} {x l u : Nat} (h : AtSpec (sb s) (x : Int) l u 0) : Pos (sb s) x l u := by
  rcases h with ⟨h, _⟩ | ⟨h, _⟩ | ⟨_, i, hi, h⟩
  · omega
  · omega
  · have : x = i := by omega
    subst this; exact h

set_option maxRecDepth 100000 in
set_option maxHeartbeats 8000000 in
theorem posg_any (S : ByteArray) (ax : Option Addr) (cx : Nat) (xs : List Er) (w2 : World) (hSl : S.size ≤ 5000) (hx1 : xs.length ≤ 64) (hx2 : vErr (S.size : Int) xs = 0) (hx3 : ∀ x ∈ xs, x.x.size ≤ 100000) (hX : ES w2.heap.size w2 ax cx xs) :
    Calls Tryz.prog 32 #[.string S, .slice ax xs.length cx] w2 fun e w' => (e = .returned (.tuple #[.slice none 0 0, .bool false]) ∧ Below w2.heap.size w2 w') ∨ ∃ a c, ∃ ps : List PE, e = .returned (.tuple #[.slice a ps.length c, .bool true]) ∧ PS w'.heap.size w' a c ps ∧ ps.length = xs.length ∧ (∀ p ∈ ps, p.fit ∧ p.t.size ≤ 100000) ∧ pE S ps = 0 ∧ pL S ps = xs ∧ (∀ b, blkOf a b → w2.heap.size ≤ b) ∧ Below w2.heap.size w2 w' := by
  obtain ⟨i5, hi5, jy0, jy1, jy2⟩ := info_parts infoP
  have hok := vErr_ok hx2
  have hfx := fit_of hx2 (by omega) (fun e he => by have := hx3 e he; omega)
  have hcx := hX.le
  obtain ⟨n, hn⟩ : ∃ n, xs.length = n := ⟨_, rfl⟩
  obtain ⟨bb, off, hab, hcell⟩ := hX.cells.core
  obtain ⟨lo, hlo⟩ : ∃ lo, w2.heap.size = lo := ⟨_, rfl⟩
  rw [hn] at hab hcell hcx hx1 ⊢
  rw [hlo] at hab
  have HPOS : Hid (∀ k, k < n → ∃ x y : Nat, (eg xs k).f = (x : Int) ∧ (eg xs k).t = (y : Int) ∧ x ≤ y ∧ y ≤ S.size) := fun k hk => by
    have hm := eg_mem (es := xs) (k := k) (by omega)
    have h1 := hok.2.2 _ hm
    exact ⟨_, (eg xs k).t.toNat, by have : (eg xs k).f = ((eg xs k).f.toNat : Int) := by omega
                                    exact this, by omega, by omega, by omega⟩
  have HN := Lib.hid hn; have HX := Lib.hid hX; have HX2 := Lib.hid hx2; have HFX := Lib.hid hfx; have HAB := Lib.hid hab; have HC := Lib.hid hcell; have HLO := Lib.hid hlo; have HX3 := Lib.hid hx3
  have HO0 : Hid (w2.ownsRow lo 78 5 (.slice none 0 0) 0 (pvals (fun _ => ⟨0, 0, 0, 0, ⟨#[]⟩⟩) 0)) := World.ownsRow_nil _ _ _ _
  have HB0 : Hid (Below lo w2 w2) := Below.refl _ _
  clear hX hx2 hx3 hok hfx hab hcell hn hlo
  go_enter Tryz.func32, Tryz.ntmps32
  go_wp2_with fail
  go_loopw [6, 7] (fun v q wr => ∃ (k : Nat) (ps : Nat → PE), k ≤ n ∧ q = .int .i64 (k : Int) ∧ Hid (∀ j, j < k → (ps j).fit ∧ EdS (sb S) (ps j) (edM (eg xs j)) 0) ∧ Hid (wr.ownsRow lo 78 5 v k (pvals ps k)) ∧ Hid (Below lo w2 wr)) (fun _ q _ => n - (intOf q).toNat)
  case atStart => exact ⟨0, fun _ => ⟨0, 0, 0, 0, ⟨#[]⟩⟩, by omega, rfl, Lib.hid (fun j h => by omega), HO0, HB0.out⟩
  case round =>
    obtain ⟨k, ps, hk, rfl, HPS, HO, HR⟩ := hrel
    have hlr : lo ≤ wr.heap.size := by have := HR.out.size; have := HLO.out; omega
    by_cases hlt : k < n
    · have hkk : (k : Int) < (n : Int) := by omega
      obtain ⟨rfl, hbb⟩ := HAB.out.resolve_left (by omega)
      have hcw : Hid (∀ W, Below lo w2 W → W.cell? ⟨bb, off + k * 3, none⟩ = some (.int .i64 (eg xs k).f) ∧ W.cell? ⟨bb, off + k * 3 + 1, none⟩ = some (.int .i64 (eg xs k).t) ∧ W.cell? ⟨bb, off + k * 3 + 2, none⟩ = some (.string (eg xs k).x)) := fun W hW => HC.out k hlt W (hW.block bb hbb)
      obtain ⟨x, y, hx, hy, hxy, hys⟩ := HPOS.out k hlt
      obtain ⟨z, hz⟩ : ∃ z, (eg xs k).x = z := ⟨_, rfl⟩
      rw [hx, hy, hz] at hcw
      have hed : edM (eg xs k) = ⟨x, y, z⟩ := by unfold edM; rw [hx, hy, hz]; simp
      obtain ⟨c0, _, _⟩ := hcw.out wr HR.out
      have HED := Lib.hid hed; have HZ := Lib.hid hz
      clear hx hy hz hed
      go_wp2_with fail
      refine (rat_any S (x : Int) _ (by omega)).mono ?_
      rintro e w3 ⟨l1, u1, er1, rfl, hsp, b3⟩
      obtain ⟨y1, y2, y3, y4⟩ := at_small hsp (by omega)
      have HPX := Lib.hid hsp
      have hB3 : Below lo w2 w3 := HR.out.trans (b3.mono hlr)
      have z3 : lo ≤ w3.heap.size := by have := b3.size; omega
      obtain ⟨p1, hp1⟩ : ∃ p, w3.heap.size = p := ⟨_, rfl⟩
      obtain ⟨W3, hW3⟩ : ∃ W, w3.alloc (.cells #[.int .i64 (l1 : Int), .int .i64 (u1 : Int)] 24) = W := ⟨_, rfl⟩
      have k3 : Blk W3 p1 24 #[.int .i64 (l1 : Int), .int .i64 (u1 : Int)] := by rw [← hW3, ← hp1]; exact Blk.new _ _ _
      have hB3a : Below lo w2 W3 := by rw [← hW3]; exact hB3.alloc z3 _
      have s3 : W3.heap.size = p1 + 1 := by rw [← hW3, ← hp1]; simp
      obtain ⟨_, c1, _⟩ := hcw.out W3 hB3a
      have hp1w : wr.heap.size ≤ p1 := by have := b3.size; omega
      have hO3 : Below wr.heap.size wr W3 := by rw [← hW3]; exact b3.alloc b3.size _
      have HW3 := Lib.hid hW3; have HK3 := Lib.hid k3; have HB3 := Lib.hid hB3a; have HP1 := Lib.hid hp1; have HO3 := Lib.hid hO3
      clear hsp b3 c0 hW3 k3 hB3 hB3a hO3
      rw [← HW3.out] at c1
      go_wp2_with fail
      rw [show w3.alloc (.cells #[.int .i64 (l1 : Int), .int .i64 (u1 : Int)] 24) = W3 from HW3.out]
      refine (rat_any S (y : Int) _ (by omega)).mono ?_
      rintro e w4 ⟨l2, u2, er2, rfl, hsp, b4⟩
      obtain ⟨y5, y6, y7, y8⟩ := at_small hsp (by omega)
      have HPY := Lib.hid hsp
      have z4 : lo ≤ w4.heap.size := by have := b4.size; omega
      obtain ⟨p2, hp2⟩ : ∃ p, w4.heap.size = p := ⟨_, rfl⟩
      obtain ⟨W4, hW4⟩ : ∃ W, w4.alloc (.cells #[.int .i64 (l2 : Int), .int .i64 (u2 : Int)] 24) = W := ⟨_, rfl⟩
      have hp2p : p1 < p2 := by have := b4.size; omega
      have b34 : Below W3.heap.size W3 W4 := by rw [← hW4]; exact b4.alloc b4.size _
      have k4 : Blk W4 p2 24 #[.int .i64 (l2 : Int), .int .i64 (u2 : Int)] := by rw [← hW4, ← hp2]; exact Blk.new _ _ _
      have k34 : Blk W4 p1 24 #[.int .i64 (l1 : Int), .int .i64 (u1 : Int)] := HK3.out.same (b34.block p1 (by omega))
      have hB4 : Below lo w2 W4 := HB3.out.trans (b34.mono (by omega))
      have hO4 : Below wr.heap.size wr W4 := HO3.out.trans (b34.mono HO3.out.size)
      have hown4 : W4.ownsRow lo 78 5 u6 k (pvals ps k) := own_same HO.out (fun g hg => hO4.block g (HO.out.lt g hg).2)
      have z4a : lo ≤ W4.heap.size := by have := b34.size; omega
      by_cases he : er1 = 0 ∧ er2 = 0
      · obtain ⟨rfl, rfl⟩ := he
        have hed : EdS (sb S) ⟨l1, u1, l2, u2, z⟩ (edM (eg xs k)) 0 := by rw [HED.out]; exact ed_there z (at_ok HPX.out) (at_ok HPY.out) hxy
        obtain ⟨qs, hqs⟩ : ∃ qs : Nat → PE, (fun j => if j = k then (⟨l1, u1, l2, u2, z⟩ : PE) else ps j) = qs := ⟨_, rfl⟩
        have hqk : qs k = ⟨l1, u1, l2, u2, z⟩ := by rw [← hqs]; simp
        have hqj : ∀ j, j < k → qs j = ps j := fun j hj => by rw [← hqs]; simp; omega
        have HQ : Hid (∀ j, j < k + 1 → (qs j).fit ∧ EdS (sb S) (qs j) (edM (eg xs j)) 0) := fun j hj => by
          by_cases e : j = k
          · subst e; rw [hqk]; exact ⟨⟨y3, y4, y7, y8⟩, hed⟩
          · rw [hqj j (by omega)]; exact HPS.out j (by omega)
        have HPV : Hid (pvals qs (k + 1) = pvals ps k ++ [.int .i64 (l1 : Int), .int .i64 (u1 : Int), .int .i64 (l2 : Int), .int .i64 (u2 : Int), .string z]) := Lib.hid (by rw [pvals_succ, hqk, pvals_congr k hqj]; rfl)
        have hw24 : W4.heap[bb]? = w2.heap[bb]? := hB4.block bb hbb
        have HS0 : Hid (∀ W : World, W.heap[p1]? = W4.heap[p1]? → W.heap[p2]? = W4.heap[p2]? → W.heap[bb]? = W4.heap[bb]? → W.cell? ⟨p1, 0, none⟩ = some (.int .i64 (l1 : Int)) ∧ W.cell? ⟨p1, 1, none⟩ = some (.int .i64 (u1 : Int)) ∧ W.cell? ⟨p2, 0, none⟩ = some (.int .i64 (l2 : Int)) ∧ W.cell? ⟨p2, 1, none⟩ = some (.int .i64 (u2 : Int)) ∧ W.cell? ⟨bb, off + k * 3 + 2, none⟩ = some (.string z)) := fun W e1 e2 e3 => by
          have a1 := k34.same e1
          have a2 := k4.same e2
          have a3 := (HC.out k hlt W (e3.trans hw24)).2.2
          rw [HZ.out] at a3
          exact ⟨by simpa using a1.cell 0, by simpa using a1.cell 1, by simpa using a2.cell 0, by simpa using a2.cell 1, a3⟩
        have hbl : p1 < W4.heap.size ∧ p2 < W4.heap.size ∧ bb < W4.heap.size := ⟨k34.lt, k4.lt, by omega⟩
        have hob : ∀ g, u6.ownBlock = some g → g ≠ p1 ∧ g ≠ p2 ∧ g ≠ bb := fun g hg => by
          have h1 := HO.out.lt g hg
          have h2 := HO3.out.size
          omega
        have HS : Hid (∀ W, Below W4.heap.size W4 W → W.cell? ⟨p1, 0, none⟩ = some (.int .i64 (l1 : Int)) ∧ W.cell? ⟨p1, 1, none⟩ = some (.int .i64 (u1 : Int)) ∧ W.cell? ⟨p2, 0, none⟩ = some (.int .i64 (l2 : Int)) ∧ W.cell? ⟨p2, 1, none⟩ = some (.int .i64 (u2 : Int)) ∧ W.cell? ⟨bb, off + k * 3 + 2, none⟩ = some (.string z)) := fun W hW =>
          HS0.out W (hW.block p1 hbl.1) (hW.block p2 hbl.2.1) (hW.block bb hbl.2.2)
        have HG : Hid (∀ w6, ((W4.alloc (.cells #[.int .i64 (l1 : Int), .int .i64 (u1 : Int), .int .i64 (l2 : Int), .int .i64 (u2 : Int), .string z] 78)).drew).grownBy w6 u6.ownBlock → W4.heap.size ≤ w6.heap.size ∧ w6.heap[p1]? = W4.heap[p1]? ∧ w6.heap[p2]? = W4.heap[p2]? ∧ w6.heap[bb]? = W4.heap[bb]?) := fun w6 hg => by
          have hb := ((Below.refl W4.heap.size W4).alloc (Nat.le_refl _) (.cells #[.int .i64 (l1 : Int), .int .i64 (u1 : Int), .int .i64 (l2 : Int), .int .i64 (u2 : Int), .string z] 78)).drew
          have hz := hb.size
          have hz6 := hg.size
          refine ⟨by omega, ?_, ?_, ?_⟩
          · exact (hg.block p1 (by omega) (fun e => (hob p1 e.symm).1 rfl)).trans (hb.block p1 hbl.1)
          · exact (hg.block p2 (by omega) (fun e => (hob p2 e.symm).2.1 rfl)).trans (hb.block p2 hbl.2.1)
          · exact (hg.block bb (by omega) (fun e => (hob bb e.symm).2.2 rfl)).trans (hb.block bb hbl.2.2)
        have HW4 := Lib.hid hW4; have HB4 := Lib.hid hB4; have HP2 := Lib.hid hp2; have HOW := Lib.hid hown4
        have c3 := HS.out W4.drew (Below.refl _ _).drew
        have c4 := HS.out ((W4.alloc (.cells #[.int .i64 (l1 : Int), .int .i64 (u1 : Int), .int .i64 (l2 : Int), .int .i64 (u2 : Int), .string z] 78)).drew) ((Below.refl _ W4).alloc (Nat.le_refl _) _).drew
        clear hsp b4 c1 b34 k4 k34 hB4 hO4 hown4 hed hqs hqk hqj hW4
        go_wp2_with fail
        try rw [HP2.out]
        rw [show w4.alloc (.cells #[.int .i64 (l2 : Int), .int .i64 (u2 : Int)] 24) = W4 from HW4.out]
        go_region_held3 (fun w' => w'.cell? ⟨p1, 0, none⟩ = some (.int .i64 (l1 : Int)) ∧ w'.cell? ⟨p1, 1, none⟩ = some (.int .i64 (u1 : Int)) ∧ w'.cell? ⟨p2, 0, none⟩ = some (.int .i64 (l2 : Int)) ∧ w'.cell? ⟨p2, 1, none⟩ = some (.int .i64 (u2 : Int)) ∧ w'.cell? ⟨bb, off + k * 3 + 2, none⟩ = some (.string z)) (first | exact c3 | exact c4 | exact c6)
          (first | (rw [if_pos (by rfl)]; refine wp_append_at _ _ 45 rfl lo 78 i5 (.agg #[.int .i64 0, .int .i64 0, .int .i64 0, .int .i64 0, .string ⟨#[]⟩]) 5 48 Tryz.underlying45 hi5 jy0 jy1 jy2 rfl (by decide) u6 k (pvals ps k) rfl (HOW.out.alloc _).drew ⟨_, 0, none⟩ 1 1 [.int .i64 (l1 : Int), .int .i64 (u1 : Int), .int .i64 (l2 : Int), .int .i64 (u2 : Int), .string z] rfl rfl (cells_news W4 [.int .i64 (l1 : Int), .int .i64 (u1 : Int), .int .i64 (l2 : Int), .int .i64 (u2 : Int), .string z] _) (fun x hx => by simp at hx; rcases hx with rfl | rfl | rfl | rfl | rfl <;> rfl) (by unfold maxLen; omega) (by omega) (by simp; omega) ?_; intro v' w6 hown6 hgrow6 _; obtain ⟨_, e1, e2, e3⟩ := HG.out w6 hgrow6; have c6 := HS0.out w6 e1 e2 e3))
        have HO6 : Hid (w6.ownsRow lo 78 5 v' (k + 1) (pvals qs (k + 1))) := by rw [HPV.out]; exact hown6
        have H6 : Hid (Below lo w2 w6) := HB4.out.trans ((((Below.refl W4.heap.size W4).alloc (Nat.le_refl _) (.cells #[.int .i64 (l1 : Int), .int .i64 (u1 : Int), .int .i64 (l2 : Int), .int .i64 (u2 : Int), .string z] 78)).drew.mono z4a).grown hgrow6 (by simp; omega) (fun g hg => (HO.out.lt g hg).1))
        clear hown6 hgrow6 c3 c4 c6 e1 e2 e3
        go_wp2
        go_roundw
        case rel => exact ⟨k + 1, qs, by omega, by go_num, HQ, HO6, H6⟩
        case measure => simp [intOf]; omega
      · have HBE := Lib.hid hB4
        have HW4 := Lib.hid hW4
        have hq : (er1 != 0) = true ∨ ((er1 != 0) = false ∧ (er2 != 0) = true) := by
          by_cases h1 : er1 = 0
          · exact .inr ⟨by simp [h1], by simp; exact fun e => he ⟨h1, e⟩⟩
          · exact .inl (by simp [h1])
        clear hsp b4 c1 b34 k4 k34 hB4 hO4 hown4 hW4 he
        rcases hq with q1 | ⟨q1, q2⟩
        all_goals
          go_wp2_with fail
          rw [show w4.alloc (.cells #[.int .i64 (l2 : Int), .int .i64 (u2 : Int)] 24) = W4 from HW4.out]
          go_ret2
          exact .inl ⟨rfl, by rw [HLO.out]; exact HBE.out⟩
    · obtain rfl : n = k := by omega
      obtain ⟨Ap, cp, rfl, hcp1, hcp2, hPC, hnew⟩ := pcells_of_own HO.out
      have hNB : ∀ b, blkOf Ap b → w2.heap.size ≤ b := by
        rintro b ⟨o, ho⟩
        rw [HLO.out]
        rcases hnew with ⟨rfl, _⟩ | ⟨g, rfl, h1, _⟩
        · cases ho
        · cases ho; exact h1
      obtain ⟨L, hL⟩ : ∃ L, (List.range n).map ps = L := ⟨_, rfl⟩
      have hLl : L.length = n := by rw [← hL]; simp
      have hLg : ∀ j, j < n → pG L j = ps j := fun j hj => by rw [← hL]; simp [pG, hj]
      have hback := back_eds (S := S) (xs := xs) (qs := ps) (by rw [HN.out]; omega) (fun e he => by have := (vErr_ok HX2.out).2.2 e he; omega) (fun j hj => (HPS.out j (by rw [HN.out] at hj; exact hj)).2)
      rw [HN.out, hL] at hback
      have hPS : PS wr.heap.size wr Ap cp L := by
        refine ⟨by omega, hcp2, ?_⟩
        rw [hLl]
        rcases hPC with h0 | ⟨b, o, h1, h2, h3⟩
        · exact .inl h0
        · exact .inr ⟨b, o, h1, h2, fun k hk i hi => by rw [h3 k hk i hi, hLg k hk]⟩
      have hfit : ∀ p ∈ L, p.fit ∧ p.t.size ≤ 100000 := by
        intro p hp
        rw [← hL] at hp
        obtain ⟨j, hj, rfl⟩ := List.mem_map.1 hp
        have hj' : j < n := List.mem_range.1 hj
        have h1 := HPS.out j hj'
        refine ⟨h1.1, ?_⟩
        have hm := eg_mem (es := xs) (k := j) (by rw [HN.out]; exact hj')
        have h2 := HX3.out _ hm
        obtain ⟨o1, e1, o2, e2, _, _, h9⟩ := h1.2
        have hz : ∀ (d : Ed), d = edM (eg xs j) → d.t = (eg xs j).x := fun d hd => by rw [hd]; rfl
        rcases h9 with ⟨q1, q2, _⟩ | ⟨_, q1, q2, _⟩ | ⟨_, _, _, q2, _⟩ | ⟨_, _, _, _, q2⟩
        · exact absurd q2.symm q1
        · exact absurd q2.symm q1
        · omega
        · have := hz _ q2.symm
          simp only at this
          rw [this]; omega
      have hB : Below w2.heap.size w2 wr := by rw [HLO.out]; exact HR.out
      have HF : Hid (PS wr.heap.size wr Ap cp L ∧ L.length = n ∧ (∀ p ∈ L, p.fit ∧ p.t.size ≤ 100000) ∧ pE S L = 0 ∧ pL S L = xs ∧ (∀ b, blkOf Ap b → w2.heap.size ≤ b) ∧ Below w2.heap.size w2 wr) := ⟨hPS, hLl, hfit, hback.1, hback.2, hNB, hB⟩
      clear hNB hnew hLl hLg hback hPS hfit hB hPC hL
      go_wp2
      go_ret2
      obtain ⟨f1, f2, f3, f4, f5, f6, f7⟩ := HF.out
      exact .inr ⟨Ap, cp, L, by rw [f2]; rfl, f1, f2, f3, f4, f5, f6, f7⟩

end Go.Proofs.YtkehgoailhpenaaGreat
