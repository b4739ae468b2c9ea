/- The reference's Get. Conditions: tidy trees of at most 100000 nodes and 1000000 bytes, paths of at most 100000 indices. -/
import Derived.Test.YtfecajeenmnoeaaSGe
namespace Go.Proofs.Ytfecajeenmnoeaa
open Go.RowKit Go.Shelf
set_option linter.unusedVariables false

theorem tidys_mem : ∀ {l : List Nd} {x : Nd}, tidys l → x ∈ l → x.tidy
  | y :: l, x, h, hx => by
    rw [tidys] at h
    rcases List.mem_cons.1 hx with rfl | hx
    · exact h.1
    · exact tidys_mem h.2 hx
theorem tidy_kids {t : Nd} (h : t.tidy) : tidys t.kids := by
  cases t; rw [Nd.tidy] at h; exact h.2
theorem getN_tidy : ∀ (z : List Int) (t x : Nd) (o : Nat), t.tidy → getN t z = some (x, o) → x.tidy
  | [], t, x, o, ht, hg => by
    simp only [getN, Option.some.injEq, Prod.mk.injEq] at hg
    obtain ⟨rfl, _⟩ := hg
    exact ht
  | j :: z, t, x, o, ht, hg => by
    rw [getN] at hg
    by_cases hj : 0 ≤ j ∧ j.toNat < t.kids.length
    · rw [dif_pos hj] at hg
      obtain ⟨⟨y, o'⟩, h1, h2⟩ := Option.map_eq_some_iff.1 hg
      simp only [Prod.mk.injEq] at h2
      obtain ⟨rfl, _⟩ := h2
      exact getN_tidy z _ y o' (tidys_mem (tidy_kids ht) (List.getElem_mem hj.2)) h1
    · rw [dif_neg hj] at hg; cases hg
/-- What the reference's Get hands back. -/
def RGetP (t : Nd) (zs : List Int) (w : World) (e : Ending) (w' : World) : Prop := Below w.heap.size w w' ∧
  ((∃ (x : Nd) (o : Nat) (a : Option Addr) (c : Nat), getN t zs = some (x, o) ∧ e = .returned (.tuple #[ndv x a x.kids.length c, .int .i64 (o : Int), .bool true]) ∧ KV (fun _ => True) w' a x.kids.length c x.kids) ∨
   (getN t zs = none ∧ e = .returned (.tuple #[.agg #[.int .i64 0, .int .i64 0, .string ⟨#[]⟩, .slice none 0 0], .int .i64 0, .bool false])))
/-- What the loop over the path keeps. -/
structure RgS (t : Nd) (zs : List Int) (w : World) (q i : Nat) (x : Nd) (o : Nat) (a : Option Addr) (n cap : Nat) (W : World) : Prop where
  get : getN t (zs.take i) = some (x, o)
  kq : Blk W q 25 (ndc x a n cap)
  kr : Blk W (q + 1) 25 #[.int .i64 0, .int .i64 0, .string ⟨#[]⟩, .slice none 0 0]
  kv : KV (fun b => b < q) W a n cap x.kids
  o : Below q w W
theorem RgS.on {t : Nd} {zs : List Int} {w : World} {q i : Nat} {x : Nd} {o : Nat} {a : Option Addr} {n cap : Nat} {W W' : World} (h : RgS t zs w q i x o a n cap W) (hb : Below W.heap.size W W') : RgS t zs w q i x o a n cap W' :=
  ⟨h.get, h.kq.same (hb.block q h.kq.lt), h.kr.same (hb.block _ h.kr.lt), h.kv.on hb, h.o.trans (hb.mono (by have := h.kq.lt; omega))⟩

set_option maxRecDepth 100000 in
set_option maxHeartbeats 4000000 in
theorem rget_any (t : Nd) (a : Option Addr) (n cap : Nat) (pa : Option Addr) (pc : Nat) (zs : List Int) (w : World) (G : Nat → Prop) (hK : KV G w a n cap t.kids) (hc : t.cnt ≤ 100000) (hw : t.pw ≤ 1000000) (ht : t.tidy) (hp : Sli .i64 w pa pc zs) (hz : zs.length ≤ 100000) :
    Calls Try.prog 51 #[ndv t a n cap, .slice pa zs.length pc] w (RGetP t zs w) := by
  obtain ⟨q, hq⟩ : ∃ q, w.heap.size = q := ⟨_, rfl⟩
  obtain ⟨W2, hW2⟩ : ∃ W, (w.alloc (.cells (ndc t a n cap) 25)).alloc (.cells #[.int .i64 0, .int .i64 0, .string ⟨#[]⟩, .slice none 0 0] 25) = W := ⟨_, rfl⟩
  have b2 : Below q w W2 := by rw [← hW2, ← hq]; exact ((Below.refl _ _).alloc (Nat.le_refl _) _).alloc (by simp) _
  have k1 : Blk W2 q 25 (ndc t a n cap) := by rw [← hW2, ← hq]; exact (Blk.new _ _ _).alloc _
  have k2 : Blk W2 (q + 1) 25 #[.int .i64 0, .int .i64 0, .string ⟨#[]⟩, .slice none 0 0] := by
    rw [← hW2, ← hq]
    have := Blk.new (w.alloc (.cells (ndc t a n cap) 25)) 25 #[.int .i64 0, .int .i64 0, .string ⟨#[]⟩, .slice none 0 0]
    rw [World.size_alloc] at this
    exact this
  have HS0 : Hid (RgS t zs w q 0 t 0 a n cap W2) := ⟨rfl, k1, k2, (hK.keep (by have := b2.size; omega) (fun b _ hlt => b2.block b (by omega)) (fun b _ hlt => by omega)), b2⟩
  obtain ⟨pn, hpn⟩ : ∃ z, zs.length = z := ⟨_, rfl⟩
  have hle := hp.le
  have hmx := hp.mx
  rw [hpn] at hle hz ⊢
  obtain ⟨id, hid⟩ : ∃ x, t.id = x := ⟨_, rfl⟩
  obtain ⟨kd, hkd⟩ : ∃ x, t.kind = x := ⟨_, rfl⟩
  obtain ⟨tx, htx⟩ : ∃ x, t.text = x := ⟨_, rfl⟩
  unfold ndv ndc at *
  rw [hid, hkd, htx] at hW2 ⊢
  have HW2 := Lib.hid hW2; have HQ := Lib.hid hq; have HC := Lib.hid hc; have HP := Lib.hid hp; have HN := Lib.hid hpn; have HT := Lib.hid ht; have HPW := Lib.hid hw
  clear hK hc hw ht hp hW2 b2 k1 k2 hid hkd htx hq hpn
  go_enter Try.func51, Try.ntmps51
  go_wp2_with fail
  rw [HW2.out, HQ.out]
  go_loopw [7, 8] (fun v g wr => ∃ (i : Nat) (x : Nd) (o : Nat) (xa : Option Addr) (xn xc : Nat), g = .int .i64 (i : Int) ∧ v = .int .i64 (o : Int) ∧ i ≤ pn ∧ Hid (RgS t zs w q i x o xa xn xc wr)) (fun _ g _ => pn - (intOf g).toNat)
  case atStart => exact ⟨0, t, 0, a, n, cap, rfl, rfl, by omega, HS0⟩
  case round =>
    obtain ⟨i, x, o, xa, xn, xc, rfl, rfl, hi, HS⟩ := hrel
    have hbd := getN_bd _ t x o HS.out.get
    have htx := getN_tidy _ t x o HT.out HS.out.get
    have hCW := HC.out
    have hPW := HPW.out
    have hblk := HS.out.kq
    have hkv := HS.out.kv
    have hlen := hkv.len
    have e0 := hblk.cell 0
    have e1 := hblk.cell 1
    have e2 := hblk.cell 2
    have e3 := hblk.cell 3
    have y0 := hblk.frozen 0
    have y1 := hblk.frozen 1
    have y2 := hblk.frozen 2
    have y3 := hblk.frozen 3
    have z0 := HS.out.kr.cell 0
    have z1 := HS.out.kr.cell 1
    have z2 := HS.out.kr.cell 2
    have z3 := HS.out.kr.cell 3
    have v0 := HS.out.kr.frozen 0
    have v1 := HS.out.kr.frozen 1
    have v2 := HS.out.kr.frozen 2
    have v3 := HS.out.kr.frozen 3
    unfold ndc at e0 e1 e2 e3
    simp only [List.getElem?_toArray, List.getElem?_cons_zero, List.getElem?_cons_succ] at e0 e1 e2 e3 z0 z1 z2 z3
    obtain ⟨xid, hxid⟩ : ∃ z, x.id = z := ⟨_, rfl⟩
    obtain ⟨xkd, hxkd⟩ : ∃ z, x.kind = z := ⟨_, rfl⟩
    obtain ⟨xtx, hxtx⟩ : ∃ z, x.text = z := ⟨_, rfl⟩
    rw [hxid] at e0; rw [hxkd] at e1; rw [hxtx] at e2
    by_cases hin : i < pn
    · have hin2 : (i : Int) < (pn : Int) := by omega
      have m1 : IntKind.i64.wrap ((i : Int) + 1) = (i : Int) + 1 := by simp [IntKind.wrap, IntKind.signed, IntKind.bits]; omega
      obtain ⟨pb, po, rfl, hpb, hpc⟩ : ∃ b off, pa = some ⟨b, off, none⟩ ∧ b < w.heap.size ∧ ∀ j, j < zs.length → w.cell? ⟨b, off + j, none⟩ = some (.int .i64 (zs[j]?.getD 0)) := by
        rcases HP.out.cells with h | h
        · have := HN.out; rw [h] at this; simp at this; omega
        · exact h
      have q1 := (HS.out.o.cell (p := ⟨pb, po + i, none⟩) (by rw [← HQ.out]; exact hpb)).trans (hpc i (by rw [HN.out]; exact hin))
      have hiz : i < zs.length := by rw [HN.out]; exact hin
      have htk : zs.take (i + 1) = zs.take i ++ [zs[i]?.getD 0] := by
        rw [List.take_succ_eq_append_getElem hiz, List.getElem?_eq_getElem hiz]; rfl
      obtain ⟨k, hk⟩ : ∃ k : Int, zs[i]?.getD 0 = k := ⟨_, rfl⟩
      rw [hk] at q1 htk
      have hsn := getN_snoc _ t k x o HS.out.get
      rw [← htk] at hsn
      have hxn1 := hlen.2.1
      have hxn2 := hlen.2.2
      have HNONE : Hid (¬ (0 ≤ k ∧ k.toNat < xn) → RGetP t zs w (.returned (.tuple #[.agg #[.int .i64 0, .int .i64 0, .string ⟨#[]⟩, .slice none 0 0], .int .i64 0, .bool false])) ((((wr.setCell ⟨q + 1, 0, none⟩ (.int .i64 0)).setCell ⟨q + 1, 1, none⟩ (.int .i64 0)).setCell ⟨q + 1, 2, none⟩ (.string ⟨#[]⟩)).setCell ⟨q + 1, 3, none⟩ (.slice none 0 0))) := fun h => by
        refine ⟨?_, .inr ⟨?_, rfl⟩⟩
        · rw [HQ.out]
          exact (((HS.out.o.setCell (p := ⟨q + 1, 0, none⟩) (by show q ≤ q + 1; omega) _).setCell (p := ⟨q + 1, 1, none⟩) (by show q ≤ q + 1; omega) _).setCell (p := ⟨q + 1, 2, none⟩) (by show q ≤ q + 1; omega) _).setCell (p := ⟨q + 1, 3, none⟩) (by show q ≤ q + 1; omega) _
        · rw [dif_neg (by rw [hlen.1]; exact h)] at hsn
          have h2 := getN_none _ t (zs.drop (i + 1)) hsn
          rwa [List.take_append_drop] at h2
      have hB2 : Hid (Blk ((((wr.setCell ⟨q + 1, 0, none⟩ (.int .i64 0)).setCell ⟨q + 1, 1, none⟩ (.int .i64 0)).setCell ⟨q + 1, 2, none⟩ (.string ⟨#[]⟩)).setCell ⟨q + 1, 3, none⟩ (.slice none 0 0)) (q + 1) 25 #[.int .i64 0, .int .i64 0, .string ⟨#[]⟩, .slice none 0 0]) := by
        have := (((HS.out.kr.set 0 (.int .i64 0)).set 1 (.int .i64 0)).set 2 (.string ⟨#[]⟩)).set 3 (.slice none 0 0)
        show Blk _ _ _ _
        simpa using this
      have HSN := Lib.hid hsn; have HKV := Lib.hid hkv; have HLEN := Lib.hid hlen.1; have HTX := Lib.hid htx
      clear hblk hkv hlen hpb hpc hiz htk hk hsn hxid hxkd hxtx htx
      by_cases k0 : k < 0
      · have HE := Lib.hid (HNONE.out (by omega))
        go_wp2_with fail
        have z0 := hB2.out.cell 0
        have z1 := hB2.out.cell 1
        have z2 := hB2.out.cell 2
        have z3 := hB2.out.cell 3
        simp only [List.getElem?_toArray, List.getElem?_cons_zero, List.getElem?_cons_succ] at z0 z1 z2 z3
        refine bodyPost_ret (v := .tuple #[.agg #[.int .i64 0, .int .i64 0, .string ⟨#[]⟩, .slice none 0 0], .int .i64 0, .bool false]) (by simp [results, Try.results51, go_sem, z0, z1, z2, z3]) rfl HE.out
      · by_cases k1 : k < (xn : Int)
        · obtain ⟨K, rfl⟩ : ∃ K : Nat, k = (K : Int) := ⟨k.toNat, by omega⟩
          have k2 : ¬ (xn : Int) ≤ (K : Int) := by omega
          have k3 : K < xn := by omega
          have k4 : 0 ≤ (K : Int) := by omega
          obtain ⟨kb, ko, rfl⟩ := slice_at HKV.out (k := K) (by rw [HLEN.out]; exact k3)
          have HSN2 : Hid (∃ hK : K < x.kids.length, getN t (zs.take (i + 1)) = some (x.kids[K], o + pws (x.kids.take K))) := by
            have h1 := HSN.out
            have hK : K < x.kids.length := by rw [HLEN.out]; exact k3
            rw [dif_pos ⟨k4, by simpa using hK⟩] at h1
            exact ⟨hK, by simpa using h1⟩
          have hko : Hid (o + pws x.kids ≤ 1000000) := by have := x.pw_eq; show _ ≤ _; omega
          go_wp2_with fail
          go_loopw [7, 10] (fun v g wq => ∃ j : Nat, g = .int .i64 (j : Int) ∧ j ≤ K ∧ v = .int .i64 ((o + pws (x.kids.take j) : Nat) : Int) ∧ Hid (RgS t zs w q i x o (some ⟨kb, ko, none⟩) xn xc wq)) (fun _ g _ => K - (intOf g).toNat)
          case atStart => exact ⟨0, rfl, by omega, by simp [pws], HS⟩
          case round =>
            obtain ⟨j, rfl, hj, rfl, HJ⟩ := hrel
            have e3 : wr.cell? ⟨q, 3, none⟩ = some (.slice (some ⟨kb, ko, none⟩) xn xc) := HJ.out.kq.cell 3
            by_cases hjn : j < K
            · have hjn2 : (j : Int) < (K : Int) := by omega
              have hjn3 : (j : Int) < (xn : Int) := by omega
              have m2 : IntKind.i64.wrap ((j : Int) + 1) = (j : Int) + 1 := by simp [IntKind.wrap, IntKind.signed, IntKind.bits]; omega
              have hjx : j < x.kids.length := by rw [HLEN.out]; omega
              obtain ⟨b2, o2, u, un, uc, hkk, _, hb2, hku, hcl⟩ := HJ.out.kv.kid hjx
              cases hkk
              have hkcnt := x.kid_cnt (List.getElem_mem hjx)
              have hpk := pws_take x.kids j hjx
              have hpl := pws_le x.kids (j + 1)
              have hty := tidys_mem (tidy_kids HTX.out) (List.getElem_mem hjx)
              have hko' := hko.out
              obtain ⟨y, hy⟩ : ∃ y, x.kids[j] = y := ⟨_, rfl⟩
              rw [hy] at hku hcl hkcnt hpk hty
              obtain ⟨d0, d1, d2, d3'⟩ := hcl wr rfl
              obtain ⟨z, hz'⟩ : ∃ z, o + pws (x.kids.take j) = z := ⟨_, rfl⟩
              have HZ2 : Hid (o + pws (x.kids.take (j + 1)) = z + y.pw) := by show _ = _; omega
              have hzy : z + y.pw ≤ 1000000 := by omega
              have hwl := pw_lf y hty
              have hcs := cat_size y.lf
              have HTE := Lib.hid (rText_any y u un uc wr _ hku (by omega) (by omega))
              rw [hz']
              obtain ⟨yi, hyi⟩ : ∃ v, y.id = v := ⟨_, rfl⟩
              obtain ⟨yk, hyk⟩ : ∃ v, y.kind = v := ⟨_, rfl⟩
              obtain ⟨yt, hyt⟩ : ∃ v, y.text = v := ⟨_, rfl⟩
              obtain ⟨ct, hct⟩ : ∃ v, cat y.lf = v := ⟨_, rfl⟩
              unfold ndv at HTE
              rw [hyi] at d0 HTE
              rw [hyk] at d1 HTE
              rw [hyt] at d2 HTE
              rw [hct] at HTE hcs
              have hsz : ct.size = y.pw := by omega
              rw [← hsz] at HZ2 hzy
              have m3 : IntKind.i64.wrap ((z : Int) + (ct.size : Int)) = (z : Int) + (ct.size : Int) := by simp [IntKind.wrap, IntKind.signed, IntKind.bits]; omega
              clear hjx hb2 hku hcl hy hz' hyi hyk hyt hkcnt hpk hpl hko' hty hwl hcs hct hsz hbd
              go_wp2_with fail
              refine HTE.out.mono ?_
              rintro e w6 ⟨rfl, b6⟩
              have HN6 := Lib.hid (HJ.out.on b6)
              clear b6
              go_wp2
              go_roundw
              case rel => exact ⟨j + 1, by go_num, by omega, by rw [HZ2.out, Int.natCast_add], HN6⟩
              case measure => simp [intOf]; omega
            · have hjn2 : ¬ ((j : Int) < (K : Int)) := by omega
              obtain rfl : j = K := by omega
              have k6 : (j : Int) < (xn : Int) := by omega
              obtain ⟨hK, hgn⟩ := HSN2.out
              obtain ⟨b2, o2, u, un, uc, hkk, _, hb2, hku, hcl⟩ := HJ.out.kv.kid hK
              cases hkk
              obtain ⟨y, hy⟩ : ∃ y, x.kids[j] = y := ⟨_, rfl⟩
              rw [hy] at hku hcl hgn
              obtain ⟨d0, d1, d2, d3'⟩ := hcl wr rfl
              have f0 := HJ.out.kq.frozen 0
              have f1 := HJ.out.kq.frozen 1
              have f2 := HJ.out.kq.frozen 2
              have f3 := HJ.out.kq.frozen 3
              have g0 := HJ.out.kq.cell 0
              have g1 := HJ.out.kq.cell 1
              have g2 := HJ.out.kq.cell 2
              unfold ndc at g0 g1 g2
              simp only [List.getElem?_toArray, List.getElem?_cons_zero, List.getElem?_cons_succ] at g0 g1 g2
              obtain ⟨hbb, hss⟩ := set4 wr q 0 (.int .i64 y.id) (.int .i64 y.kind) (.string y.text) (.slice u un uc)
              simp only [Nat.zero_add] at hbb hss
              obtain ⟨O, hO⟩ : ∃ O, o + pws (x.kids.take j) = O := ⟨_, rfl⟩
              rw [hO] at hgn
              have HNX : Hid (RgS t zs w q (i + 1) y O u un uc ((((wr.setCell ⟨q, 0, none⟩ (.int .i64 y.id)).setCell ⟨q, 1, none⟩ (.int .i64 y.kind)).setCell ⟨q, 2, none⟩ (.string y.text)).setCell ⟨q, 3, none⟩ (.slice u un uc))) :=
                ⟨hgn, by simpa using (((HJ.out.kq.set 0 (.int .i64 y.id)).set 1 (.int .i64 y.kind)).set 2 (.string y.text)).set 3 (.slice u un uc), HJ.out.kr.same (hbb (q + 1) (by omega)), hku.keep (by omega) (fun b hb' _ => hbb b (by omega)) (fun _ h _ => h),
                  (((HJ.out.o.setCell (p := ⟨q, 0, none⟩) (Nat.le_refl _) _).setCell (p := ⟨q, 1, none⟩) (Nat.le_refl _) _).setCell (p := ⟨q, 2, none⟩) (Nat.le_refl _) _).setCell (p := ⟨q, 3, none⟩) (Nat.le_refl _) _⟩
              obtain ⟨yi, hyi⟩ : ∃ v, y.id = v := ⟨_, rfl⟩
              obtain ⟨yk, hyk⟩ : ∃ v, y.kind = v := ⟨_, rfl⟩
              obtain ⟨yt, hyt⟩ : ∃ v, y.text = v := ⟨_, rfl⟩
              rw [hyi] at d0 HNX
              rw [hyk] at d1 HNX
              rw [hyt] at d2 HNX
              rw [hO]
              clear hgn hku hcl hb2 hy hbb hss hO hyi hyk hyt hbd
              go_wp2
              go_roundw
              case rel => exact ⟨i + 1, y, O, u, un, uc, by go_num, rfl, by omega, HNX⟩
              case measure => simp [intOf]; omega
        · have k2 : (xn : Int) ≤ k := by omega
          have HE := Lib.hid (HNONE.out (by omega))
          go_wp2_with fail
          have z0 := hB2.out.cell 0
          have z1 := hB2.out.cell 1
          have z2 := hB2.out.cell 2
          have z3 := hB2.out.cell 3
          simp only [List.getElem?_toArray, List.getElem?_cons_zero, List.getElem?_cons_succ] at z0 z1 z2 z3
          refine bodyPost_ret (v := .tuple #[.agg #[.int .i64 0, .int .i64 0, .string ⟨#[]⟩, .slice none 0 0], .int .i64 0, .bool false]) (by simp [results, Try.results51, go_sem, z0, z1, z2, z3]) rfl HE.out
    · have hin2 : ¬ ((i : Int) < (pn : Int)) := by omega
      obtain rfl : i = pn := by omega
      have hall : zs.take i = zs := List.take_of_length_le (Nat.le_of_eq HN.out)
      have hget := HS.out.get
      rw [hall] at hget
      obtain ⟨hbb, hss⟩ := set4 wr (q + 1) 0 (.int .i64 xid) (.int .i64 xkd) (.string xtx) (.slice xa xn xc)
      simp only [Nat.zero_add] at hbb hss
      have hfin : RGetP t zs w (.returned (.tuple #[.agg #[.int .i64 xid, .int .i64 xkd, .string xtx, .slice xa xn xc], .int .i64 (o : Int), .bool true])) ((((wr.setCell ⟨q + 1, 0, none⟩ (.int .i64 xid)).setCell ⟨q + 1, 1, none⟩ (.int .i64 xkd)).setCell ⟨q + 1, 2, none⟩ (.string xtx)).setCell ⟨q + 1, 3, none⟩ (.slice xa xn xc)) := by
        refine ⟨?_, .inl ⟨x, o, xa, xc, hget, ?_, ?_⟩⟩
        · rw [HQ.out]
          exact (((HS.out.o.setCell (p := ⟨q + 1, 0, none⟩) (by show q ≤ q + 1; omega) _).setCell (p := ⟨q + 1, 1, none⟩) (by show q ≤ q + 1; omega) _).setCell (p := ⟨q + 1, 2, none⟩) (by show q ≤ q + 1; omega) _).setCell (p := ⟨q + 1, 3, none⟩) (by show q ≤ q + 1; omega) _
        · rw [← hxid, ← hxkd, ← hxtx, ← hlen.1]
        · rw [hlen.1]
          exact hkv.keep (by omega) (fun b hb' _ => hbb b (by omega)) (fun _ _ _ => trivial)
      have hblk2 : Blk ((((wr.setCell ⟨q + 1, 0, none⟩ (.int .i64 xid)).setCell ⟨q + 1, 1, none⟩ (.int .i64 xkd)).setCell ⟨q + 1, 2, none⟩ (.string xtx)).setCell ⟨q + 1, 3, none⟩ (.slice xa xn xc)) (q + 1) 25 #[.int .i64 xid, .int .i64 xkd, .string xtx, .slice xa xn xc] := by
        simpa using (((HS.out.kr.set 0 (.int .i64 xid)).set 1 (.int .i64 xkd)).set 2 (.string xtx)).set 3 (.slice xa xn xc)
      have HE := Lib.hid hfin; have HB2 := Lib.hid hblk2
      clear hall hget hfin hblk2 hkv hblk hi hbb hss hxid hxkd hxtx hlen htx hbd
      go_wp2_with fail
      have z0 := HB2.out.cell 0
      have z1 := HB2.out.cell 1
      have z2 := HB2.out.cell 2
      have z3 := HB2.out.cell 3
      simp only [List.getElem?_toArray, List.getElem?_cons_zero, List.getElem?_cons_succ] at z0 z1 z2 z3
      refine bodyPost_ret (v := .tuple #[.agg #[.int .i64 xid, .int .i64 xkd, .string xtx, .slice xa xn xc], .int .i64 (o : Int), .bool true]) (by simp [results, Try.results51, go_sem, z0, z1, z2, z3]) rfl HE.out

end Go.Proofs.Ytfecajeenmnoeaa
