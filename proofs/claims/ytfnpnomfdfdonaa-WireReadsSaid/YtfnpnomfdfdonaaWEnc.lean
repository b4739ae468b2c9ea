/- Contracts of write and encode: the bytes of values. Conditions: lists of values that fit. -/
import Derived.Test.YtfnpnomfdfdonaaVal
import Derived.Test.YtfnpnomfdfdonaaWLives
namespace Go.Proofs.Ytfnpnomfdfdonaa
open Go.RowKit Go.Shelf
set_option linter.unusedVariables false

theorem own_mono {w : World} {b b' e size n : Nat} {v : Value} {xs : List Value} (h : w.ownsRow b e size v n xs) (hb : b' ≤ b) : w.ownsRow b' e size v n xs := by
  refine ⟨h.1, ?_⟩
  rcases h.2 with h0 | ⟨g, cap, cur, h1, h2, r⟩
  · exact .inl h0
  · exact .inr ⟨g, cap, cur, h1, by omega, r⟩
theorem enc_0 (v : V) (h : v.kind = 0) : enc v = vU v.u := by simp [enc, h]
theorem enc_1 (v : V) (h : v.kind = 1) : enc v = vU (zz v.n) := by simp [enc, h]
theorem enc_2 (v : V) (h : v.kind = 2) : enc v = [if v.n = 1 then 1 else 0] := by simp [enc, h]
theorem enc_34 (v : V) (h : v.kind = 3 ∨ v.kind = 4) : enc v = vU v.b.length ++ v.b := by rcases h with h | h <;> simp [enc, h]
theorem enc_5 (v : V) (h : v.kind = 5) : enc v = vU v.l.length ++ vL v.l := by simp [enc, h]

set_option maxRecDepth 100000 in
set_option maxHeartbeats 4000000 in
theorem write_any (base p : Nat) (v : V) (ab : Option Addr) (cb : Nat) (al : Option Addr) (cl : Nat) (zs : List Int) (w : World) (h : Wr w base p zs) (hv : Fit v) (hb : SliAt .u8 base w ab cb v.b) (hl : SliAt .i64 base w al cl v.l) (hz : zs.length ≤ 10000) :
    Calls Try.prog 14 #[.pointer (some ⟨p, 0, none⟩), .agg #[.int .i64 v.kind, .int .u64 v.u, .int .i64 v.n, .slice ab v.b.length cb, .slice al v.l.length cl]] w (Writes base p (zs ++ enc v) w) := by
  obtain ⟨E, hE⟩ : ∃ E, enc v = E := ⟨_, rfl⟩
  rw [hE]
  have HE := Lib.hid hE
  clear hE
  obtain ⟨k, u, n, b, l⟩ := v
  have hbase : base ≤ w.heap.size := by have := h.lt; omega
  have hk := hv.k5
  simp only at hk hb hl ⊢
  have hb1 := below_new w (.cells #[.int .i64 k, .int .u64 u, .int .i64 n, .slice ab b.length cb, .slice al l.length cl] 28)
  have h1 := h.below hb1
  have hbW := hb.below (hb1.mono hbase)
  have hlW := hl.below (hb1.mono hbase)
  have hcv0 := conv_str _ ab cb b hv.byt (hbW.mono (by have := hb1.size; omega))
  have HCV := Lib.hid hcv0
  have HV := Lib.hid hv
  have H1 := Lib.hid h1
  have HBL := Lib.hid (And.intro hbW hlW)
  have HB1 := Lib.hid hb1
  have hbl := hv.bl
  have hll := hv.ll
  simp only at hbl hll
  clear hv h h1 hb hl hbW hlW hb1 hcv0
  have hways : k = 0 ∨ k = 1 ∨ k = 2 ∨ k = 3 ∨ k = 4 ∨ k = 5 := by omega
  clear hk
  rcases hways with rfl | rfl | rfl | rfl | rfl | rfl
  · go_enter Try.func14, Try.ntmps14
    go_wp2_with fail
    refine (wuint_any base p u zs _ H1.out HV.out.u64 (by omega)).mono ?_
    rintro e w2 ⟨⟨_, rfl⟩, hw, hb⟩
    have H2 := Lib.hid (And.intro hw ((HB1.out.mono hbase).trans hb))
    clear hw hb
    go_wp2
    go_end0
    refine ⟨⟨_, rfl⟩, ?_, H2.out.2⟩
    have := H2.out.1
    rw [← HE.out, enc_0 _ rfl]
    exact this
  · go_enter Try.func14, Try.ntmps14
    go_wp2_with fail
    refine (wint_any base p n zs _ H1.out HV.out.n1 HV.out.n2 (by omega)).mono ?_
    rintro e w2 ⟨⟨_, rfl⟩, hw, hb⟩
    have H2 := Lib.hid (And.intro hw ((HB1.out.mono hbase).trans hb))
    clear hw hb
    go_wp2
    go_end0
    refine ⟨⟨_, rfl⟩, ?_, H2.out.2⟩
    have := H2.out.1
    rw [← HE.out, enc_1 _ rfl]
    exact this
  · go_enter Try.func14, Try.ntmps14
    go_wp2_with fail
    refine (wbool_any base p (n == 1) zs _ H1.out (by omega)).mono ?_
    rintro e w2 ⟨⟨_, rfl⟩, hw, hb⟩
    have H2 := Lib.hid (And.intro hw ((HB1.out.mono hbase).trans hb))
    clear hw hb
    go_wp2
    go_end0
    refine ⟨⟨_, rfl⟩, ?_, H2.out.2⟩
    have := H2.out.1
    rw [← HE.out, enc_2 _ rfl]
    simpa using this
  · have hcv : (convert 24 9 (.slice ab b.length cb)).run Try.prog (w.alloc (.cells #[.int .i64 3, .int .u64 u, .int .i64 n, .slice ab b.length cb, .slice al l.length cl] 28)) = .ok (.string (bs b)) _ := HCV.out
    clear HCV
    go_enter Try.func14, Try.ntmps14
    go_wp2_with fail
    refine (wtext_any base p (bs b) zs _ H1.out (by rw [bs_size]; omega) (by omega)).mono ?_
    rintro e w2 ⟨⟨_, rfl⟩, hw, hb⟩
    have H2 := Lib.hid (And.intro hw ((HB1.out.mono hbase).trans hb))
    clear hw hb
    go_wp2
    go_end0
    refine ⟨⟨_, rfl⟩, ?_, H2.out.2⟩
    have := H2.out.1
    rw [← HE.out, enc_34 _ (.inl rfl)]
    rw [bs_size, sb_bs HV.out.byt] at this; exact this
  · go_enter Try.func14, Try.ntmps14
    go_wp2_with fail
    refine (wraw_any base p ab cb b zs _ H1.out HBL.out.1 (by omega) (by omega)).mono ?_
    rintro e w2 ⟨⟨_, rfl⟩, hw, hb⟩
    have H2 := Lib.hid (And.intro hw ((HB1.out.mono hbase).trans hb))
    clear hw hb
    go_wp2
    go_end0
    refine ⟨⟨_, rfl⟩, ?_, H2.out.2⟩
    have := H2.out.1
    rw [← HE.out, enc_34 _ (.inr rfl)]
    exact this
  · go_enter Try.func14, Try.ntmps14
    go_wp2_with fail
    refine (wints_any base p al cl l zs _ H1.out HBL.out.2 HV.out.i64 (by omega) (by omega)).mono ?_
    rintro e w2 ⟨⟨_, rfl⟩, hw, hb⟩
    have H2 := Lib.hid (And.intro hw ((HB1.out.mono hbase).trans hb))
    clear hw hb
    go_wp2
    go_end0
    refine ⟨⟨_, rfl⟩, ?_, H2.out.2⟩
    have := H2.out.1
    rw [← HE.out, enc_5 _ rfl]
    exact this

set_option maxRecDepth 100000 in
set_option maxHeartbeats 4000000 in
theorem encode_any (base : Nat) (A : Option Addr) (cap : Nat) (vs : List V) (w : World) (h : VRow base w (.slice A vs.length cap) vs) (hg : ∀ v ∈ vs, Fit v) (hl : vs.length ≤ 1000) (hE : (encs vs).length ≤ 10000) :
    Calls Try.prog 26 #[.slice A vs.length cap] w (NewRow .u8 5 w (encs vs)) := by
  obtain ⟨n, hn⟩ : ∃ n, vs.length = n := ⟨_, rfl⟩
  rw [hn] at h hl ⊢
  obtain ⟨P, hP⟩ : ∃ P, w.heap.size = P := ⟨_, rfl⟩
  have HE := Lib.hid hE
  have HN := Lib.hid hn; have HG := Lib.hid hg; have HVR := Lib.hid h; have HP := Lib.hid hP
  clear hn hg h hP hE
  go_enter Try.func26, Try.ntmps26
  go_wp2_with fail
  rw [HP.out]
  have W1 : Hid (Wr (w.alloc (.cells #[.slice none 0 0] 32)) P P (encs (vs.take 0)) ∧ Below P w (w.alloc (.cells #[.slice none 0 0] 32))) := by
    rw [← HP.out]; exact ⟨by simpa [encs] using wr_new w, below_new w _⟩
  go_loopw [4] (fun i wr => ∃ k : Nat, k ≤ n ∧ i = .int .i64 k ∧ Hid (Wr wr P P (encs (vs.take k)) ∧ Below P w wr)) (fun i _ => n - (intOf i).toNat)
  case atStart => exact ⟨0, Nat.zero_le _, rfl, W1⟩
  case round =>
    obtain ⟨k, hk, rfl, HR⟩ := hrel
    by_cases hlt : k < n
    · have hvk : vs[k]? = some (vs[k]'(by rw [HN.out]; exact hlt)) := List.getElem?_eq_getElem _
      generalize vs[k]'(by rw [HN.out]; exact hlt) = v at hvk
      have hP2 : P ≤ w.heap.size := by rw [HP.out]; exact Nat.le_refl _
      have hVR := HVR.out.below (w' := wr) (by rw [HP.out]; exact HR.out.2)
      obtain ⟨g, cap', ab, cb, al, cl, hA, hg1, hg2, hsb, hsl, q0, q1, q2, q3, q4⟩ := HVR.out.at_ hvk
      have hgood := HG.out v (List.mem_of_getElem? hvk)
      have hb2 := HR.out.2
      rw [← hb2.cell (p := ⟨g, k * 5, none⟩) (by show g < P; rw [← HP.out]; exact hg2)] at q0
      rw [← hb2.cell (p := ⟨g, k * 5 + 1, none⟩) (by show g < P; rw [← HP.out]; exact hg2)] at q1
      rw [← hb2.cell (p := ⟨g, k * 5 + 2, none⟩) (by show g < P; rw [← HP.out]; exact hg2)] at q2
      rw [← hb2.cell (p := ⟨g, k * 5 + 3, none⟩) (by show g < P; rw [← HP.out]; exact hg2)] at q3
      rw [← hb2.cell (p := ⟨g, k * 5 + 4, none⟩) (by show g < P; rw [← HP.out]; exact hg2)] at q4
      have hs := encs_snoc vs k v hvk
      have hlen := Nat.le_trans (encs_take_le vs k) HE.out
      have c1 := write_any P P v ab cb al cl (encs (vs.take k)) wr HR.out.1 hgood (by have := SliAt.below hsb.sli (w' := wr) (by rw [HP.out]; exact hb2); rwa [HP.out] at this) (by have := SliAt.below hsl.sli (w' := wr) (by rw [HP.out]; exact hb2); rwa [HP.out] at this) (by omega)
      rw [← hs] at c1
      have C1 := Lib.hid c1
      simp only [Value.slice.injEq] at hA
      obtain ⟨hA, -, -⟩ := hA
      clear hVR hsb hsl hgood hb2 hs hlen c1 hvk hg1 hg2
      subst hA
      go_wp2_with fail
      refine C1.out.mono ?_
      rintro e w2 ⟨⟨_, rfl⟩, hw, hb⟩
      have H2 : Hid (Wr w2 P P (encs (vs.take (k + 1))) ∧ Below P w w2) := ⟨hw, HR.out.2.trans hb⟩
      clear hw hb q0 q1 q2 q3 q4
      go_wp2
      go_roundw
      case rel => exact ⟨k + 1, by omega, by go_num, H2⟩
      case measure => simp [intOf]; omega
    · obtain rfl : n = k := by omega
      have hlen := HE.out
      have hw := HR.out.1
      rw [List.take_of_length_le (by rw [HN.out]; exact Nat.le_refl _)] at hw
      have c2 := wdone_any P P (encs vs) wr hw (by omega)
      have C2 := Lib.hid c2
      have hB := Lib.hid HR.out.2
      clear hlen hw c2
      go_wp2_with fail
      refine C2.out.mono ?_
      rintro e w2 ⟨v, rfl, hown, hb⟩
      have H2 := Lib.hid (And.intro hown hb)
      clear hown hb
      go_wp2
      go_ret
      have hP2 : P ≤ wr.heap.size := by have := hB.out.size; have := HP.out; omega
      exact ⟨v, rfl, own_mono H2.out.1 (by rw [HP.out]; exact hP2), by rw [HP.out]; exact hB.out.trans (H2.out.2.mono hP2)⟩

end Go.Proofs.Ytfnpnomfdfdonaa
