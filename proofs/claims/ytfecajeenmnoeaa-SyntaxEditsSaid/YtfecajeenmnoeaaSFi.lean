/- The program's find: the place to which a path leads. Conditions: trees of at most 100000 nodes and 1000000000 bytes, paths of at most 100000 indices. -/
import Derived.Test.YtfecajeenmnoeaaSTa
namespace Go.Proofs.Ytfecajeenmnoeaa
open Go.RowKit Go.Shelf
set_option linter.unusedVariables false

/-- What find hands back. -/
def FindP (ad : List Nat → Nat × Nat) (t : Nd) (zs : List Int) (w : World) (e : Ending) (w' : World) : Prop := Below w.heap.size w w' ∧
  ((∃ (x : Nd) (o : Nat) (pa : Option Addr) (pn pc : Nat), getN t zs = some (x, o) ∧ e = .returned (.tuple #[.agg #[.pointer (some ⟨(ad (nat zs)).1, (ad (nat zs)).2, none⟩), .slice pa pn pc, .int .i64 (o : Int)], .bool true])) ∨
   (getN t zs = none ∧ e = .returned (.tuple #[.agg #[.pointer none, .slice none 0 0, .int .i64 0], .bool false])))
/-- What the loop over the path keeps. -/
structure FiS (ad : List Nat → Nat × Nat) (t : Nd) (zs : List Int) (w : World) (r i : Nat) (pv : Value) (x : Nd) (o : Nat) (W : World) : Prop where
  get : getN t (zs.take i) = some (x, o)
  blk : Blk W r 84 #[.pointer (some ⟨(ad (nat (zs.take i))).1, (ad (nat (zs.take i))).2, none⟩), pv, .int .i64 (o : Int)]
  o : Below r w W
theorem slice_at {G : Nat → Prop} {w : World} {a : Option Addr} {n cap : Nat} {kids : List Nd} (h : KV G w a n cap kids) {k : Nat} (hk : k < kids.length) : ∃ b o, a = some ⟨b, o, none⟩ := by
  obtain ⟨b, o, _, _, _, h1, _⟩ := h.kid hk
  exact ⟨b, o, h1⟩

set_option maxRecDepth 100000 in
set_option maxHeartbeats 4000000 in
theorem pfind_any (ad : List Nat → Nat × Nat) (t : Nd) (pa : Option Addr) (pc : Nat) (zs : List Int) (w : World) (hT : TA w ad t []) (hp : Sli .i64 w pa pc zs) (hz : zs.length ≤ 100000) (hc : t.cnt ≤ 100000) (hw : t.pw ≤ 1000000000) :
    Calls Try.prog 56 #[.pointer (some ⟨(ad []).1, (ad []).2, none⟩), .slice pa zs.length pc] w (FindP ad t zs w) := by
  obtain ⟨r, hr⟩ : ∃ r, w.heap.size = r := ⟨_, rfl⟩
  obtain ⟨B, hB⟩ : ∃ B, (ad []).1 = B := ⟨_, rfl⟩
  obtain ⟨F, hF⟩ : ∃ F, (ad []).2 = F := ⟨_, rfl⟩
  obtain ⟨n, hn⟩ : ∃ n, zs.length = n := ⟨_, rfl⟩
  have hle := hp.le
  have hmx := hp.mx
  have hW0 : Hid (FiS ad t zs w r 0 (.slice pa n pc) t 0 (w.alloc (.cells #[.pointer (some ⟨B, F, none⟩), .slice pa n pc, .int .i64 0] 84))) := by
    refine ⟨rfl, ?_, ?_⟩
    · rw [← hr]
      have := Blk.new w 84 #[.pointer (some ⟨B, F, none⟩), .slice pa n pc, .int .i64 0]
      simpa [nat, hB, hF] using this
    · rw [← hr]
      exact (Below.refl _ w).alloc (Nat.le_refl _) _
  rw [hB, hF, hn]
  rw [hn] at hle hz
  have HT := Lib.hid hT; have HP := Lib.hid hp; have HR := Lib.hid hr; have HB := Lib.hid hB; have HF := Lib.hid hF; have HN := Lib.hid hn; have HC := Lib.hid hc; have HW := Lib.hid hw
  clear hT hp hr hB hF hn hc hw
  go_enter Try.func56, Try.ntmps56
  go_wp2_with fail
  rw [HR.out]
  go_loopw [16] (fun g wr => ∃ (i : Nat) (x : Nd) (o : Nat), g = .int .i64 (i : Int) ∧ i ≤ n ∧ Hid (FiS ad t zs w r i (.slice pa n pc) x o wr)) (fun g _ => n - (intOf g).toNat)
  case atStart => exact ⟨0, t, 0, rfl, by omega, hW0⟩
  case round =>
    obtain ⟨i, x, o, rfl, hi, HS⟩ := hrel
    have hTx := (TA.get _ t [] x o HT.out HS.out.get)
    rw [List.nil_append] at hTx
    have hbd := getN_bd _ t x o HS.out.get
    have hCW := HC.out
    have hPW := HW.out
    obtain ⟨b, f, a, cap, had, hb, hkv, hads, hcell⟩ := hTx.cells
    have hblk := HS.out.blk
    rw [had] at hblk
    have e0 := hblk.cell 0
    have e1 := hblk.cell 1
    have e2 := hblk.cell 2
    have y0 := hblk.frozen 0
    have y1 := hblk.frozen 1
    have y2 := hblk.frozen 2
    simp only [List.getElem?_toArray, List.getElem?_cons_zero, List.getElem?_cons_succ] at e0 e1 e2
    by_cases hin : i < n
    · have hin2 : (i : Int) < (n : Int) := by omega
      have m1 : IntKind.i64.wrap ((i : Int) + 1) = (i : Int) + 1 := by simp [IntKind.wrap, IntKind.signed, IntKind.bits]; omega
      obtain ⟨pb, po, rfl, hpb, hpc⟩ : ∃ b off, pa = some ⟨b, off, none⟩ ∧ b < w.heap.size ∧ ∀ j, j < zs.length → w.cell? ⟨b, off + j, none⟩ = some (.int .i64 (zs[j]?.getD 0)) := by
        rcases HP.out.cells with h | h
        · have := HN.out; rw [h] at this; simp at this; omega
        · exact h
      have q1 := (HS.out.o.cell (p := ⟨pb, po + i, none⟩) (by rw [← HR.out]; exact hpb)).trans (hpc i (by rw [HN.out]; exact hin))
      have hiz : i < zs.length := by rw [HN.out]; exact hin
      have htk : zs.take (i + 1) = zs.take i ++ [zs[i]?.getD 0] := by
        rw [List.take_succ_eq_append_getElem hiz, List.getElem?_eq_getElem hiz]; rfl
      obtain ⟨k, hk⟩ : ∃ k : Int, zs[i]?.getD 0 = k := ⟨_, rfl⟩
      rw [hk] at q1 htk
      have hsn := getN_snoc _ t k x o HS.out.get
      rw [← htk] at hsn
      have d3 := (hcell wr (HS.out.o.block b (by rw [← HR.out]; exact hb))).2.2.2
      obtain ⟨m, hm⟩ : ∃ m, x.kids.length = m := ⟨_, rfl⟩
      rw [hm] at d3 hkv
      have hmc := hkv.len
      have HSN := Lib.hid hsn; have HTK := Lib.hid htk; have HM := Lib.hid hm; have HKV := Lib.hid hkv; have HADS := Lib.hid hads; have HAD := Lib.hid had; have HBLK := Lib.hid hblk
      have HNONE : Hid (¬ (0 ≤ k ∧ k.toNat < m) → FindP ad t zs w (.returned (.tuple #[.agg #[.pointer none, .slice none 0 0, .int .i64 0], .bool false])) ((((wr.setCell ⟨r, 0, none⟩ (.pointer none)).setCell ⟨r, 1, none⟩ (.slice none 0 0)).setCell ⟨r, 2, none⟩ (.int .i64 0)))) := fun h => by
        refine ⟨?_, .inr ⟨?_, rfl⟩⟩
        · rw [HR.out]
          exact ((HS.out.o.setCell (p := ⟨r, 0, none⟩) (Nat.le_refl _) _).setCell (p := ⟨r, 1, none⟩) (Nat.le_refl _) _).setCell (p := ⟨r, 2, none⟩) (Nat.le_refl _) _
        · have h1 := HSN.out
          rw [dif_neg (by rw [HM.out]; exact h)] at h1
          have h2 := getN_none _ t (zs.drop (i + 1)) h1
          rwa [List.take_append_drop] at h2
      have hblk2 : Blk (((wr.setCell ⟨r, 0, none⟩ (.pointer none)).setCell ⟨r, 1, none⟩ (.slice none 0 0)).setCell ⟨r, 2, none⟩ (.int .i64 0)) r 84 #[.pointer none, .slice none 0 0, .int .i64 0] := by
        have := ((hblk.set 0 (.pointer none)).set 1 (.slice none 0 0)).set 2 (.int .i64 0)
        simpa using this
      have HB2 := Lib.hid hblk2
      clear hTx hb hkv hads hcell hblk hpb hpc hiz htk hk hsn hm had hblk2
      by_cases k0 : k < 0
      · have HE := Lib.hid (HNONE.out (by omega))
        go_wp2_with fail
        have z0 := HB2.out.cell 0
        have z1 := HB2.out.cell 1
        have z2 := HB2.out.cell 2
        simp only [List.getElem?_toArray, List.getElem?_cons_zero, List.getElem?_cons_succ] at z0 z1 z2
        refine bodyPost_ret (v := .tuple #[.agg #[.pointer none, .slice none 0 0, .int .i64 0], .bool false]) (by simp [results, Try.results56, go_sem, z0, z1, z2]) rfl HE.out
      · by_cases k1 : k < (m : Int)
        · obtain ⟨K, rfl⟩ : ∃ K : Nat, k = (K : Int) := ⟨k.toNat, by omega⟩
          have k2 : ¬ (m : Int) ≤ (K : Int) := by omega
          have k3 : K < m := by omega
          have k4 : 0 ≤ (K : Int) := by omega
          have k5 : K ≤ cap := by omega
          obtain ⟨kb, ko, rfl⟩ := slice_at HKV.out (k := K) (by rw [HM.out]; exact k3)
          have HSN2 : Hid (∃ hK : K < x.kids.length, getN t (zs.take (i + 1)) = some (x.kids[K], o + pws (x.kids.take K))) := by
            have h1 := HSN.out
            have hK : K < x.kids.length := by rw [HM.out]; exact k3
            rw [dif_pos ⟨k4, by simpa using hK⟩] at h1
            exact ⟨hK, by simpa using h1⟩
          have HADK : Hid (ad (nat (zs.take (i + 1))) = (kb, ko + K * 4)) := by
            obtain ⟨b', o', h1, h2⟩ := HADS.out K (by rw [HM.out]; exact k3)
            cases h1
            show ad _ = _
            rw [HTK.out, show nat (zs.take i ++ [(K : Int)]) = nat (zs.take i) ++ [K] by simp [nat]]
            exact h2
          have hko : Hid (o + pws x.kids ≤ 1000000000) := by have := x.pw_eq; show _ ≤ _; omega
          go_wp2_with fail
          go_loopw [38] (fun g wq => ∃ j : Nat, g = .int .i64 (j : Int) ∧ j ≤ K ∧ Hid (Blk wq r 84 #[.pointer (some ⟨b, f, none⟩), .slice (some ⟨pb, po, none⟩) n pc, .int .i64 ((o + pws (x.kids.take j) : Nat) : Int)] ∧ Below r w wq)) (fun g _ => K - (intOf g).toNat)
          case atStart => exact ⟨0, rfl, by omega, by simpa [pws] using HBLK.out, HS.out.o⟩
          case round =>
            obtain ⟨j, rfl, hj, HJ⟩ := hrel
            by_cases hjn : j < K
            · have hjn2 : (j : Int) < (K : Int) := by omega
              have m2 : IntKind.i64.wrap ((j : Int) + 1) = (j : Int) + 1 := by simp [IntKind.wrap, IntKind.signed, IntKind.bits]; omega
              have hjx : j < x.kids.length := by rw [HM.out]; omega
              obtain ⟨b2, o2, u, un, uc, hkk, _, hb2, hku, hcl⟩ := HKV.out.kid hjx
              cases hkk
              have hsub := getN_bd _ t x o HS.out.get
              have hkcnt := x.kid_cnt (List.getElem_mem hjx)
              have hpk := pws_take x.kids j hjx
              have hpl := pws_le x.kids (j + 1)
              have hko' := hko.out
              obtain ⟨y, hy⟩ : ∃ y, x.kids[j] = y := ⟨_, rfl⟩
              rw [hy] at hku hcl hkcnt hpk
              obtain ⟨d0, d1, d2, d3'⟩ := hcl wr (HJ.out.2.block kb (by rw [← HR.out]; exact hb2))
              obtain ⟨z, hz'⟩ : ∃ z, o + pws (x.kids.take j) = z := ⟨_, rfl⟩
              have hz2 : o + pws (x.kids.take (j + 1)) = z + y.pw := by omega
              have hzy : z + y.pw ≤ 1000000000 := by omega
              obtain ⟨W5, hW5⟩ : ∃ W, wr.alloc (.cells (ndc y u un uc) 25) = W := ⟨_, rfl⟩
              have b5 : Below wr.heap.size wr W5 := by rw [← hW5]; exact (Below.refl _ _).alloc (Nat.le_refl _) _
              have s5 : wr.heap.size < W5.heap.size := by rw [← hW5]; simp
              have k5' : Blk W5 wr.heap.size 25 (ndc y u un uc) := by rw [← hW5]; exact Blk.new _ _ _
              have hrw : r < wr.heap.size := HJ.out.1.lt
              have hbw : Below r w W5 := HJ.out.2.trans (b5.mono (by omega))
              have HWI := Lib.hid (pwidth_any y u un uc W5.drew (fun _ => True) (hku.on (by rw [HR.out]; exact hbw.drew)) (by omega) (by omega))
              have hbl5 : Blk W5 r 84 #[.pointer (some ⟨b, f, none⟩), .slice (some ⟨pb, po, none⟩) n pc, .int .i64 (z : Int)] := by rw [← hz']; exact HJ.out.1.same (b5.block r hrw)
              have HNX : Hid (∀ w6, Below W5.drew.heap.size W5.drew w6 → Blk w6 r 84 #[.pointer (some ⟨b, f, none⟩), .slice (some ⟨pb, po, none⟩) n pc, .int .i64 (z : Int)] ∧
                  Blk (w6.setCell ⟨r, 2, none⟩ (.int .i64 ((z : Int) + (y.pw : Int)))) r 84 #[.pointer (some ⟨b, f, none⟩), .slice (some ⟨pb, po, none⟩) n pc, .int .i64 ((o + pws (x.kids.take (j + 1)) : Nat) : Int)] ∧ Below r w (w6.setCell ⟨r, 2, none⟩ (.int .i64 ((z : Int) + (y.pw : Int))))) := fun w6 b6 => by
                have hb6 : Below W5.heap.size W5 w6 := (Below.refl _ W5).drew.trans b6
                have hk6 := hbl5.same (hb6.block r (by omega))
                refine ⟨hk6, ?_, (hbw.trans (hb6.mono (by omega))).setCell (p := ⟨r, 2, none⟩) (Nat.le_refl _) _⟩
                rw [hz2, Int.natCast_add]
                simpa using hk6.set 2 (.int .i64 ((z : Int) + (y.pw : Int)))
              have g0 := k5'.cell 0
              have g1 := k5'.cell 1
              have g2 := k5'.cell 2
              have g3 := k5'.cell 3
              have g4 := hbl5.cell 2
              obtain ⟨yi, hyi⟩ : ∃ v, y.id = v := ⟨_, rfl⟩
              obtain ⟨yk, hyk⟩ : ∃ v, y.kind = v := ⟨_, rfl⟩
              obtain ⟨yt, hyt⟩ : ∃ v, y.text = v := ⟨_, rfl⟩
              obtain ⟨yp, hyp⟩ : ∃ v, y.pw = v := ⟨_, rfl⟩
              unfold ndc at g0 g1 g2 g3 hW5
              unfold ndv at HWI
              simp only [List.getElem?_toArray, List.getElem?_cons_zero, List.getElem?_cons_succ] at g0 g1 g2 g3 g4
              rw [hyi] at g0 d0 HWI hW5
              rw [hyk] at g1 d1 HWI hW5
              rw [hyt] at g2 d2 HWI hW5
              rw [hyp] at HWI HNX hzy
              have m3 : IntKind.i64.wrap ((z : Int) + (yp : Int)) = (z : Int) + (yp : Int) := by simp [IntKind.wrap, IntKind.signed, IntKind.bits]; omega
              have HW5 := Lib.hid hW5
              clear hjx hb2 hku hcl hy hz' hz2 hW5 b5 k5' hbw hbl5 hyi hyk hyt hyp hsub hkcnt hpk hpl hko'
              go_wp2_with fail
              rw [HW5.out]
              go_region_law (first | (go_simp; go_at_call 34; refine HWI.out.mono ?_; rintro e w6 ⟨rfl, b6⟩; obtain ⟨hk6, hn6⟩ := HNX.out w6 b6; have x2 := hk6.cell 2; have xf := hk6.frozen 2; have HN6 := Lib.hid hn6; simp only [List.getElem?_toArray, List.getElem?_cons_zero, List.getElem?_cons_succ] at x2; clear b6 hk6 hn6))
              all_goals
                go_wp2
                go_roundw
                case rel => exact ⟨j + 1, by go_num, by omega, HN6⟩
                case measure => simp [intOf]; omega
            · have hjn2 : ¬ ((j : Int) < (K : Int)) := by omega
              obtain rfl : j = K := by omega
              obtain ⟨hb6, ho6⟩ := HJ.out
              have v0 := hb6.cell 0
              have vf := hb6.frozen 0
              simp only [List.getElem?_toArray, List.getElem?_cons_zero] at v0
              obtain ⟨hK, hgn⟩ := HSN2.out
              have HNX : Hid (FiS ad t zs w r (i + 1) (.slice (some ⟨pb, po, none⟩) n pc) x.kids[j] (o + pws (x.kids.take j)) (wr.setCell ⟨r, 0, none⟩ (.pointer (some ⟨kb, ko + j * 4, none⟩)))) := by
                refine ⟨hgn, ?_, ho6.setCell (p := ⟨r, 0, none⟩) (Nat.le_refl _) _⟩
                rw [HADK.out]
                simpa using hb6.set 0 (.pointer (some ⟨kb, ko + j * 4, none⟩))
              obtain ⟨X, hX⟩ : ∃ X, x.kids[j] = X := ⟨_, rfl⟩
              obtain ⟨O, hO⟩ : ∃ O, o + pws (x.kids.take j) = O := ⟨_, rfl⟩
              rw [hX, hO] at HNX
              have HX := Lib.hid hX
              clear hb6 ho6 hgn hX hO
              go_wp2
              go_roundw
              case rel => exact ⟨i + 1, X, O, by go_num, by omega, HNX⟩
              case measure => simp [intOf]; omega
        · have k2 : (m : Int) ≤ k := by omega
          have HE := Lib.hid (HNONE.out (by omega))
          go_wp2_with fail
          have z0 := HB2.out.cell 0
          have z1 := HB2.out.cell 1
          have z2 := HB2.out.cell 2
          simp only [List.getElem?_toArray, List.getElem?_cons_zero, List.getElem?_cons_succ] at z0 z1 z2
          refine bodyPost_ret (v := .tuple #[.agg #[.pointer none, .slice none 0 0, .int .i64 0], .bool false]) (by simp [results, Try.results56, go_sem, z0, z1, z2]) rfl HE.out
    · have hin2 : ¬ ((i : Int) < (n : Int)) := by omega
      obtain rfl : i = n := by omega
      have hall : zs.take i = zs := List.take_of_length_le (Nat.le_of_eq HN.out)
      have hget := HS.out.get
      rw [hall] at had hget
      have hfin : FindP ad t zs w (.returned (.tuple #[.agg #[.pointer (some ⟨b, f, none⟩), .slice pa i pc, .int .i64 (o : Int)], .bool true])) (((wr.setCell ⟨r, 0, none⟩ (.pointer (some ⟨b, f, none⟩))).setCell ⟨r, 1, none⟩ (.slice pa i pc)).setCell ⟨r, 2, none⟩ (.int .i64 (o : Int))) := by
        refine ⟨?_, .inl ⟨x, o, pa, i, pc, hget, by rw [had]⟩⟩
        rw [HR.out]
        exact ((HS.out.o.setCell (p := ⟨r, 0, none⟩) (Nat.le_refl _) _).setCell (p := ⟨r, 1, none⟩) (Nat.le_refl _) _).setCell (p := ⟨r, 2, none⟩) (Nat.le_refl _) _
      have hblk2 : Blk (((wr.setCell ⟨r, 0, none⟩ (.pointer (some ⟨b, f, none⟩))).setCell ⟨r, 1, none⟩ (.slice pa i pc)).setCell ⟨r, 2, none⟩ (.int .i64 (o : Int))) r 84 #[.pointer (some ⟨b, f, none⟩), .slice pa i pc, .int .i64 (o : Int)] := by
        simpa using ((hblk.set 0 (.pointer (some ⟨b, f, none⟩))).set 1 (.slice pa i pc)).set 2 (.int .i64 (o : Int))
      have HE := Lib.hid hfin; have HB2 := Lib.hid hblk2
      clear hall hget had hfin hblk2 hTx hkv hads hcell hblk hi
      go_wp2_with fail
      have z0 := HB2.out.cell 0
      have z1 := HB2.out.cell 1
      have z2 := HB2.out.cell 2
      simp only [List.getElem?_toArray, List.getElem?_cons_zero, List.getElem?_cons_succ] at z0 z1 z2
      refine bodyPost_ret (v := .tuple #[.agg #[.pointer (some ⟨b, f, none⟩), .slice pa i pc, .int .i64 (o : Int)], .bool true]) (by simp [results, Try.results56, go_sem, z0, z1, z2]) rfl HE.out

end Go.Proofs.Ytfecajeenmnoeaa
