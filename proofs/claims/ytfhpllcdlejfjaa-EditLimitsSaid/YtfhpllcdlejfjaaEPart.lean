/- The contract of the iterator that parts returns. Conditions: a valid list of at most 64 edits for a text of at most 10000000 bytes. -/
import Derived.Test.YtfhpllcdlejfjaaEPc
import Derived.Test.YtfhpllcdlejfjaaGiv
import Derived.Deep.RegionHeld3
namespace Go.Proofs.Ytfhpllcdlejfjaa
open Go.RowKit Go.Shelf
set_option linter.unusedVariables false
attribute [local go_sem] Oper.semAt_some

set_option maxRecDepth 100000 in
set_option maxHeartbeats 1000000 in
theorem part_giv (s : ByteArray) (bl bs : Nat) (a : Option Addr) (cap : Nat) (es : List Er) (w : World) (hs : s.size ≤ 10000000) (hv : vErr (s.size : Int) es = 0) (hfit : ∀ e ∈ es, e.x.size ≤ 100000)
    (hbl : Boxed w bl 22 (.slice a es.length cap)) (hbs : Boxed w bs 9 (.string s)) (hS : ES w.heap.size w a cap es) :
    Giv Try.prog 67 #[.pointer (some ⟨bl, 0, none⟩), .pointer (some ⟨bs, 0, none⟩)] (fun k => #[(pg (prl s 0 0 es) k).val]) (2 * es.length + 1) (fun k => k = bs ∨ 0 < es.length ∧ ∃ off, a = some ⟨k, off, none⟩) w := by
  intro l J T₀ W hW hR hB hO hY h0
  obtain ⟨n, hn⟩ : ∃ n, es.length = n := ⟨_, rfl⟩
  obtain ⟨hlim, hvld, hbd⟩ := vErr_ok hv
  have hbl0 : Boxed W bl 22 (.slice a es.length cap) := (hW.block bl hbl.lt).trans hbl
  have hbl1 := hbl0.cell
  dsimp only at hY hR
  have hbs1 : Boxed W bs 9 (.string s) := (hW.block bs hbs.lt).trans hbs
  have hlbs := hbs1.lt
  have hsz := hW.size
  have HV0 : Hid (vE (s.size : Int) ((0 : Nat) : Int) (es.drop 0) = 0) := by
    have := hv
    unfold vErr at this
    rw [if_neg (by omega)] at this
    exact this
  have HP0s : Hid (prl s 0 0 (es.drop 0) = (prl s 0 0 es).drop (2 * 0)) := rfl
  obtain ⟨b, off, hab, hcell⟩ := (hS.on hW).cells.core
  rw [hn] at hbl1 hab hcell hlim hY hR ⊢
  have HN := Lib.hid hn; have HAB := Lib.hid hab; have HC := Lib.hid hcell; have HR := Lib.hid hR; have HB := Lib.hid hB; have HO := Lib.hid hO; have HY := Lib.hid hY; have HD := Lib.hid hbd; have HF := Lib.hid hfit; have HBS := Lib.hid hbs1
  have hcap := hS.le
  rw [hn] at hcap
  have HX : Hid (hbs1.lt = hbs1.lt) := rfl
  clear hv hvld hab hcell hR hB hO hY hbd hfit hS hbl hbs hbs1 hbl0 hn HX
  refine callsIn_of_wp Try.func67 rfl trivial ?_ rfl
  simp only [Try.ntmps67, List.size_toArray, List.length_cons, List.length_nil, Nat.reduceAdd, Nat.reduceSub, Array.replicate_succ, Array.replicate_zero, List.push_toArray, List.append_toArray, List.nil_append, List.cons_append]
  gi_wp2
  gi_loopw [4, 5, 12] (fun u v i wr => ∃ (k f q : Nat) (T : Nat → Prop), k ≤ n ∧ u = .int .i64 (f : Int) ∧ v = .int .i64 (q : Int) ∧ i = .int .i64 (k : Int) ∧ f ≤ s.size ∧ q ≤ f + 100000 * k ∧
      Hid (prl s f q (es.drop k) = (prl s 0 0 es).drop (2 * k)) ∧ Hid (vE (s.size : Int) (f : Int) (es.drop k) = 0) ∧ Hid (J (2 * k) T wr) ∧ Hid (Rnd T₀ T W wr)) (fun _ _ i _ => n - (intOf i).toNat)
  case atStart => exact ⟨0, 0, 0, T₀, by omega, rfl, rfl, rfl, by omega, by omega, HP0s, HV0, h0, Rnd.refl _ _⟩
  case round =>
    obtain ⟨k, f, q, T, hk, rfl, rfl, rfl, hf, hq, HP, HV, HJ, HRn⟩ := hrel
    by_cases hlt : k < n
    · obtain ⟨ha, hbB⟩ := HAB.out.resolve_left (by omega)
      subst ha
      have hkl : k < es.length := by rw [HN.out]; exact hlt
      have hstep := HV.out
      have hpp := HP.out
      rw [eg_drop hkl] at hstep hpp
      obtain ⟨hd0, hd1, hd2⟩ := HD.out _ (eg_mem hkl)
      have hxl := HF.out _ (eg_mem hkl)
      obtain ⟨x, hx⟩ : ∃ x : Nat, (eg es k).f = (x : Int) := ⟨(eg es k).f.toNat, by omega⟩
      obtain ⟨y, hy⟩ : ∃ y : Nat, (eg es k).t = (y : Int) := ⟨(eg es k).t.toNat, by omega⟩
      obtain ⟨z, hz⟩ : ∃ z, (eg es k).x = z := ⟨_, rfl⟩
      simp only [vE] at hstep
      simp only [prl] at hpp
      rw [hx, hy, hz] at hpp
      rw [hx, hy] at hstep
      rw [hx] at hd0 hd1
      rw [hy] at hd1 hd2
      simp only [Int.toNat_natCast] at hpp
      rw [hz] at hxl
      rw [if_neg (by omega)] at hstep
      by_cases hfx : (x : Int) < (f : Int)
      · rw [if_pos hfx] at hstep; omega
      rw [if_neg hfx] at hstep
      have hxy : x ≤ y := by omega
      have hys : y ≤ s.size := by omega
      have hfx2 : f ≤ x := by omega
      have hp1 := pg_drop hpp.symm
      have hp2 := pg_drop (drop_up hpp.symm)
      have HPn : Hid (prl s y (q + (x - f) + z.size) (es.drop (k + 1)) = (prl s 0 0 es).drop (2 * (k + 1))) := (drop_up (drop_up hpp.symm)).symm
      have HVn : Hid (vE (s.size : Int) (y : Int) (es.drop (k + 1)) = 0) := hstep
      have hwb : wr.heap[b]? = W.heap[b]? := HRn.out.block b hbB (HR.out b (.inr ⟨by omega, off, rfl⟩))
      have hwbs : wr.heap[bs]? = W.heap[bs]? := HRn.out.block bs hlbs (HR.out bs (.inl rfl))
      obtain ⟨c0, c1, c2⟩ := HC.out k hlt wr hwb
      rw [hx] at c0
      rw [hy] at c1
      rw [hz] at c2
      have hcs : Boxed wr bs 9 (.string s) := hwbs.trans HBS.out
      have cs0 := ((hcs.alloc (.cells #[.int .i64 (x : Int), .int .i64 (y : Int), .string z] 32)).alloc (.cells #[.int .i64 0, .int .i64 0, .int .i64 0, .string ⟨#[]⟩, .bool false] 74)).cell
      have cs1 := (hcs.alloc (.cells #[.int .i64 (x : Int), .int .i64 (y : Int), .string z] 32)).cell
      have hkk : (k : Int) < (n : Int) := by omega
      have hBr : W.heap.size ≤ wr.heap.size := HRn.out.size
      have h1 := Lib.hid hp1; have h2 := Lib.hid hp2; have h3 := Lib.hid hwb; have h4 := Lib.hid hwbs
      clear hstep hpp hp1 hp2 hwb hwbs hx hy hz hcs
      gi_wp2
      gi_region
      obtain ⟨p0, hp0⟩ : ∃ p, wr.heap.size = p := ⟨_, rfl⟩
      obtain ⟨x1, hx1⟩ : ∃ r, s.extract f x = r := ⟨_, rfl⟩
      have hx1s : x1.size = x - f := by rw [← hx1, ByteArray.size_extract]; omega
      obtain ⟨W2, hW2⟩ : ∃ W2, ((wr.alloc (.cells #[.int .i64 (x : Int), .int .i64 (y : Int), .string z] 32)).alloc (.cells #[.int .i64 (f : Int), .int .i64 (x : Int), .int .i64 (q : Int), .string x1, .bool true] 74)).drew = W2 := ⟨_, rfl⟩
      rw [hx1, hW2, hp0]
      rw [hp0] at hBr
      have bE : Blk W2 p0 32 #[.int .i64 (x : Int), .int .i64 (y : Int), .string z] := by
        rw [← hW2, ← hp0]; exact (Blk.new wr _ _).alloc _
      have bP : Blk W2 (p0 + 1) 74 #[.int .i64 (f : Int), .int .i64 (x : Int), .int .i64 (q : Int), .string x1, .bool true] := by
        rw [← hW2, ← hp0]
        have := Blk.new (wr.alloc (.cells #[.int .i64 (x : Int), .int .i64 (y : Int), .string z] 32)) 74 #[.int .i64 (f : Int), .int .i64 (x : Int), .int .i64 (q : Int), .string x1, .bool true]
        rw [World.size_alloc] at this
        exact this
      have s2 : W2.heap.size = p0 + 2 := by rw [← hW2, ← hp0]; show (World.alloc (World.alloc wr _) _).heap.size = _; simp
      have b2 : Below p0 wr W2 := by rw [← hW2, ← hp0]; exact (((Below.refl _ _).alloc (Nat.le_refl _) _).alloc (by simp) _).drew
      have C := Lib.hid (fun W => end_any ⟨f, x, q, x1, true⟩ W (by show -9223372036854775808 ≤ (q : Int) + (x1.size : Int); omega) (by show (q : Int) + (x1.size : Int) ≤ 9223372036854775807; omega))
      simp only [Pc.val] at C
      obtain ⟨S, hSd⟩ : ∃ S : World → Prop, (fun w' => w'.cell? ⟨p0, 0, none⟩ = some (.int .i64 (x : Int)) ∧ w'.cell? ⟨p0, 1, none⟩ = some (.int .i64 (y : Int)) ∧ w'.cell? ⟨p0, 2, none⟩ = some (.string z) ∧ w'.cell? ⟨p0 + 1, 0, none⟩ = some (.int .i64 (f : Int)) ∧ w'.cell? ⟨p0 + 1, 1, none⟩ = some (.int .i64 (x : Int)) ∧ w'.cell? ⟨p0 + 1, 2, none⟩ = some (.int .i64 (q : Int)) ∧ w'.cell? ⟨p0 + 1, 3, none⟩ = some (.string x1) ∧ w'.cell? ⟨p0 + 1, 4, none⟩ = some (.bool true) ∧ p0 + 2 ≤ w'.heap.size) = S := ⟨_, rfl⟩
      have hSe : ∀ w', S w' ↔ (w'.cell? ⟨p0, 0, none⟩ = some (.int .i64 (x : Int)) ∧ w'.cell? ⟨p0, 1, none⟩ = some (.int .i64 (y : Int)) ∧ w'.cell? ⟨p0, 2, none⟩ = some (.string z) ∧ w'.cell? ⟨p0 + 1, 0, none⟩ = some (.int .i64 (f : Int)) ∧ w'.cell? ⟨p0 + 1, 1, none⟩ = some (.int .i64 (x : Int)) ∧ w'.cell? ⟨p0 + 1, 2, none⟩ = some (.int .i64 (q : Int)) ∧ w'.cell? ⟨p0 + 1, 3, none⟩ = some (.string x1) ∧ w'.cell? ⟨p0 + 1, 4, none⟩ = some (.bool true) ∧ p0 + 2 ≤ w'.heap.size) := fun w' => by rw [← hSd]
      have s0 : S W2.drew := by
        rw [hSe]
        exact ⟨by simpa using bE.cell 0, by simpa using bE.cell 1, by simpa using bE.cell 2, by simpa using bP.cell 0, by simpa using bP.cell 1, by simpa using bP.cell 2, by simpa using bP.cell 3, by simpa using bP.cell 4, by show p0 + 2 ≤ W2.heap.size; omega⟩
      have KC : ∀ w1 w', S w1 → Below w1.heap.size w1 w' → S w' := by
        intro w1 w' h hb
        rw [hSe] at h ⊢
        obtain ⟨g0, g1, g2, g3, g4, g5, g6, g7, g8⟩ := h
        have hh : ∀ b i, b < p0 + 2 → w'.cell? ⟨b, i, none⟩ = w1.cell? ⟨b, i, none⟩ := fun b i hb2 => hb.cell (p := ⟨b, i, none⟩) (by show b < w1.heap.size; omega)
        refine ⟨(hh _ _ (by omega)).trans g0, (hh _ _ (by omega)).trans g1, (hh _ _ (by omega)).trans g2, (hh _ _ (by omega)).trans g3, (hh _ _ (by omega)).trans g4, (hh _ _ (by omega)).trans g5, (hh _ _ (by omega)).trans g6, (hh _ _ (by omega)).trans g7, by have := hb.size; omega⟩
      have KA : ∀ w1 o, S w1 → S (w1.alloc o) := fun w1 o h => KC _ _ h ((Below.refl _ _).alloc (Nat.le_refl _) _)
      have KS : ∀ w1 B v0 v1 v2 v3 v4, S w1 → p0 + 2 ≤ B → S (((((w1.setCell ⟨B, 0, none⟩ v0).setCell ⟨B, 1, none⟩ v1).setCell ⟨B, 2, none⟩ v2).setCell ⟨B, 3, none⟩ v3).setCell ⟨B, 4, none⟩ v4) := by
        intro w1 B v0 v1 v2 v3 v4 h hB
        have hb : Below (p0 + 2) w1 (((((w1.setCell ⟨B, 0, none⟩ v0).setCell ⟨B, 1, none⟩ v1).setCell ⟨B, 2, none⟩ v2).setCell ⟨B, 3, none⟩ v3).setCell ⟨B, 4, none⟩ v4) :=
          (((((Below.refl _ _).setCell (p := ⟨B, 0, none⟩) hB _).setCell (p := ⟨B, 1, none⟩) hB _).setCell (p := ⟨B, 2, none⟩) hB _).setCell (p := ⟨B, 3, none⟩) hB _).setCell (p := ⟨B, 4, none⟩) hB _
        rw [hSe] at h ⊢
        obtain ⟨g0, g1, g2, g3, g4, g5, g6, g7, g8⟩ := h
        have hh : ∀ b i, b < p0 + 2 → World.cell? (((((w1.setCell ⟨B, 0, none⟩ v0).setCell ⟨B, 1, none⟩ v1).setCell ⟨B, 2, none⟩ v2).setCell ⟨B, 3, none⟩ v3).setCell ⟨B, 4, none⟩ v4) ⟨b, i, none⟩ = w1.cell? ⟨b, i, none⟩ := fun b i hb2 => hb.cell (p := ⟨b, i, none⟩) hb2
        refine ⟨(hh _ _ (by omega)).trans g0, (hh _ _ (by omega)).trans g1, (hh _ _ (by omega)).trans g2, (hh _ _ (by omega)).trans g3, (hh _ _ (by omega)).trans g4, (hh _ _ (by omega)).trans g5, (hh _ _ (by omega)).trans g6, (hh _ _ (by omega)).trans g7, by have := hb.size; omega⟩
      have HKS := Lib.hid KS
      clear KS
      have HB2s : p0 + 2 ≤ W2.heap.size := by omega
      obtain ⟨k0, k1, k2, k3, k4, k5, k6, k7, _⟩ := (hSe _).1 s0
      have HK := Lib.hid KC; have HKA := Lib.hid KA; have HSE := Lib.hid hSe; have HE := Lib.hid bE; have HPp := Lib.hid bP; have HS2 := Lib.hid s2; have HB2 := Lib.hid b2; have HX1 := Lib.hid hx1; have HXS := Lib.hid hx1s; have HP0 := Lib.hid hp0; have S0 := Lib.hid s0
      clear KC KA hSe hSd bE bP s2 b2 hx1 hx1s hp0 hW2 cs0 cs1 c0 c1 c2 s0
      have KZ : ∀ wa, Below (W2.drew.alloc (.cells #[.int .i64 0, .int .i64 0, .int .i64 0, .string ⟨#[]⟩, .bool false] 74)).heap.size (W2.drew.alloc (.cells #[.int .i64 0, .int .i64 0, .int .i64 0, .string ⟨#[]⟩, .bool false] 74)) wa → Blk wa W2.heap.size 74 #[.int .i64 0, .int .i64 0, .int .i64 0, .string ⟨#[]⟩, .bool false] := by
        intro wa hb
        refine Blk.same ?_ (hb.block _ (by rw [World.size_alloc]; exact Nat.lt_succ_self _))
        exact Blk.new W2.drew _ _
      have S1 : Hid (S (W2.alloc (.cells #[.int .i64 0, .int .i64 0, .int .i64 0, .string ⟨#[]⟩, .bool false] 74)).drew) := HKA.out W2.drew _ S0.out
      have HKZ := Lib.hid KZ
      clear KZ
      have hmx : Try.prog.follows .mixedOrders = true := by kernel_rfl
      gi_wp2
      refine wpIn_wide.2 ?_
      go_region_held3 (fun w' => w'.cell? ⟨p0, 0, none⟩ = some (.int .i64 (x : Int)) ∧ w'.cell? ⟨p0, 1, none⟩ = some (.int .i64 (y : Int)) ∧ w'.cell? ⟨p0, 2, none⟩ = some (.string z) ∧ w'.cell? ⟨p0 + 1, 0, none⟩ = some (.int .i64 (f : Int)) ∧ w'.cell? ⟨p0 + 1, 1, none⟩ = some (.int .i64 (x : Int)) ∧ w'.cell? ⟨p0 + 1, 2, none⟩ = some (.int .i64 (q : Int)) ∧ w'.cell? ⟨p0 + 1, 3, none⟩ = some (.string x1) ∧ w'.cell? ⟨p0 + 1, 4, none⟩ = some (.bool true) ∧ p0 + 2 ≤ w'.heap.size) (first | with_reducible exact (HSE.out _).1 S0.out | with_reducible exact (HSE.out _).1 sA | with_reducible exact (HSE.out _).1 (HKA.out _ _ sA) | with_reducible exact (HSE.out _).1 (HKA.out _ _ S0.out) | with_reducible exact (HSE.out _).1 (HKS.out _ _ _ _ _ _ _ sA HB2s) | with_reducible exact (HSE.out _).1 (HKS.out _ _ _ _ _ _ _ (HKA.out _ _ sA) (((HSE.out _).1 sA).2.2.2.2.2.2.2.2)) | with_reducible exact (HSE.out _).1 S1.out)
        (first | (go_at_call 47; refine (C.out _).mono ?_; rintro e wA ⟨rfl, bA⟩; have zA : Blk wA W2.heap.size 74 #[.int .i64 0, .int .i64 0, .int .i64 0, .string ⟨#[]⟩, .bool false] := (HKZ.out _ bA); have sA := HK.out _ _ (HKA.out _ _ S0.out) bA; have z0 := zA.cell 0; have z1 := zA.cell 1; have z2 := zA.cell 2; have z3 := zA.cell 3; have z4 := zA.cell 4; have y0 := zA.frozen 0; have y1 := zA.frozen 1; have y2 := zA.frozen 2; have y3 := zA.frozen 3; have y4 := zA.frozen 4; simp only [List.getElem?_toArray, List.getElem?_cons_zero, List.getElem?_cons_succ] at z0 z1 z2 z3 z4)
               | (go_at_call 47; refine (C.out _).mono ?_; rintro e wA ⟨rfl, bA⟩; have sA := HK.out _ _ S0.out bA))
      all_goals
        first
        | (have b1 := ((((zA.set 0 (.int .i64 (x : Int))).set 1 (.int .i64 (y : Int))).set 2 (.int .i64 ((q : Int) + (x1.size : Int)))).set 3 (.string z)).set 4 (.bool false)
           have bA2 : Below (p0 + 2) W2 wA := (((Below.refl _ W2).drew.alloc HB2s _)).trans (bA.mono (Nat.le_trans HB2s (by show W2.heap.size ≤ (World.alloc W2 _).heap.size; rw [World.size_alloc]; exact Nat.le_succ _)))
           have F0 := And.intro b1 (And.intro (HKS.out wA W2.heap.size (.int .i64 (x : Int)) (.int .i64 (y : Int)) (.int .i64 ((q : Int) + (x1.size : Int))) (.string z) (.bool false) sA HB2s) (And.intro (((((bA2.setCell (p := ⟨W2.heap.size, 0, none⟩) HB2s (.int .i64 (x : Int))).setCell (p := ⟨W2.heap.size, 1, none⟩) HB2s (.int .i64 (y : Int))).setCell (p := ⟨W2.heap.size, 2, none⟩) HB2s (.int .i64 ((q : Int) + (x1.size : Int)))).setCell (p := ⟨W2.heap.size, 3, none⟩) HB2s (.string z)).setCell (p := ⟨W2.heap.size, 4, none⟩) HB2s (.bool false)) HB2s))
           obtain ⟨W3, hW3⟩ : ∃ W3, (((((wA.setCell ⟨W2.heap.size, 0, none⟩ (.int .i64 (x : Int))).setCell ⟨W2.heap.size, 1, none⟩ (.int .i64 (y : Int))).setCell ⟨W2.heap.size, 2, none⟩ (.int .i64 ((q : Int) + (x1.size : Int)))).setCell ⟨W2.heap.size, 3, none⟩ (.string z)).setCell ⟨W2.heap.size, 4, none⟩ (.bool false)) = W3 := ⟨_, rfl⟩
           obtain ⟨B3, hB3⟩ : ∃ B3, W2.heap.size = B3 := ⟨_, rfl⟩
           rw [hW3, hB3] at F0
           rw [hW3, hB3]
           have F3 : Hid (Blk W3 B3 74 #[.int .i64 (x : Int), .int .i64 (y : Int), .int .i64 ((q : Int) + (x1.size : Int)), .string z, .bool false] ∧ S W3 ∧ Below (p0 + 2) W2 W3 ∧ p0 + 2 ≤ B3) := F0
           clear F0 b1 hW3 hB3 z0 z1 z2 z3 z4 y0 y1 y2 y3 y4 zA)
        | (have bA2 : Below (p0 + 2) W2 wA := (Below.refl _ W2).drew.trans (bA.mono (by show p0 + 2 ≤ W2.heap.size; omega))
           have hA := bA2.size
           have F0 := And.intro (Blk.new wA 74 #[.int .i64 (x : Int), .int .i64 (y : Int), .int .i64 ((q : Int) + (x1.size : Int)), .string z, .bool false]) (And.intro (HKA.out wA (.cells #[.int .i64 (x : Int), .int .i64 (y : Int), .int .i64 ((q : Int) + (x1.size : Int)), .string z, .bool false] 74) sA) (And.intro (bA2.alloc (by omega) (.cells #[.int .i64 (x : Int), .int .i64 (y : Int), .int .i64 ((q : Int) + (x1.size : Int)), .string z, .bool false] 74)) (show p0 + 2 ≤ wA.heap.size by omega)))
           obtain ⟨W3, hW3⟩ : ∃ W3, wA.alloc (.cells #[.int .i64 (x : Int), .int .i64 (y : Int), .int .i64 ((q : Int) + (x1.size : Int)), .string z, .bool false] 74) = W3 := ⟨_, rfl⟩
           obtain ⟨B3, hB3⟩ : ∃ B3, wA.heap.size = B3 := ⟨_, rfl⟩
           rw [hW3, hB3] at F0
           rw [hW3, hB3]
           have F3 : Hid (Blk W3 B3 74 #[.int .i64 (x : Int), .int .i64 (y : Int), .int .i64 ((q : Int) + (x1.size : Int)), .string z, .bool false] ∧ S W3 ∧ Below (p0 + 2) W2 W3 ∧ p0 + 2 ≤ B3) := F0
           clear F0 hW3 hB3 hA)
        clear HKS HKZ S1 bA2 bA sA k0 k1 k2 k3 k4 k5 k6 k7
        obtain ⟨bB, bS, b3, hB3⟩ := F3.out
        obtain ⟨g0, g1, g2, g3, g4, g5, g6, g7, g8⟩ := (HSE.out _).1 bS
        have hb3 : Below p0 wr W3 := HB2.out.trans (b3.mono (by omega))
        have hTl : ∀ j, T j → j < p0 := fun j hj => by rw [← HP0.out]; exact HB.out _ _ _ HJ.out j hj
        have hJ3 : J (2 * k) T W3 := HO.out _ _ _ _ HJ.out (Oth.of_below (by rw [HP0.out]; exact hb3))
        have hY1 := HY.out (2 * k) T W3 (by omega) (by have := hb3.size; have := HP0.out; omega) hJ3
        rw [h1.out, HX1.out] at hY1
        obtain ⟨fn, tmps, assign, body, hy, hR1⟩ := hY1
        simp only [Pc.val] at hy
        have HR1 := Lib.hid hR1
        have HB3 := Lib.hid hb3; have HTl := Lib.hid hTl; have HbB := Lib.hid bB; have HbS := Lib.hid bS
        clear hR1 hb3 hTl hJ3 bB bS b3
        gi_wp2
        refine ⟨rfl, HR1.out.mono ?_⟩
        rintro e W4 ⟨rfl, T4, hJ4, hr4⟩
        have hp0l : p0 < W3.heap.size := by have := HbB.out.lt; omega
        have hT3 : ∀ j, p0 ≤ j → ¬ T j := fun j hj h => by have := HTl.out j h; omega
        have hb4 : Blk W4 B3 74 #[.int .i64 (x : Int), .int .i64 (y : Int), .int .i64 ((q : Int) + (x1.size : Int)), .string z, .bool false] := HbB.out.same (hr4.block B3 HbB.out.lt (hT3 _ (by omega)))
        have hpp4 : W4.heap[p0]? = W3.heap[p0]? := hr4.block p0 hp0l (hT3 _ (Nat.le_refl _))
        have m0 := hb4.cell 0; have m1 := hb4.cell 1; have m2 := hb4.cell 2; have m3 := hb4.cell 3; have m4 := hb4.cell 4
        simp only [List.getElem?_toArray, List.getElem?_cons_zero, List.getElem?_cons_succ] at m0 m1 m2 m3 m4
        have hT4 : ∀ j, p0 ≤ j → j < W3.heap.size → ¬ T4 j := fun j h1 h2 h => (hr4.grew j h).elim (hT3 j h1) (fun e => by omega)
        have hrn4 : Rnd T₀ T4 W W4 := (HRn.out.trans (Rnd.of_below (by rw [HP0.out]; exact HB3.out))).trans hr4
        have hY2 := HY.out (2 * k + 1) T4 W4 (by omega) hrn4.size hJ4
        rw [h2.out] at hY2
        obtain ⟨fn2, tmps2, assign2, body2, hy2, hR2⟩ := hY2
        have hq1 : (q : Int) + ((x : Int) - (f : Int)) = (q : Int) + (x1.size : Int) := by rw [HXS.out]; omega
        simp only [Pc.val, hq1] at hy2
        have HR2 := Lib.hid hR2
        have HRn4 := Lib.hid hrn4; have Hb4 := Lib.hid hb4; have Hpp4 := Lib.hid hpp4; have HT4 := Lib.hid hT4; have HT3 := Lib.hid hT3
        have hW3s := hr4.size
        clear hR2 hrn4 hb4 hpp4 hT4 hT3 hJ4 hr4 hy HR1 g0 g1 g2 g3 g4 g5 g6 g7
        gi_wp2
        refine ⟨rfl, HR2.out.mono ?_⟩
        rintro e W5 ⟨rfl, T5, hJ5, hr5⟩
        have hb5 : Blk W5 B3 74 #[.int .i64 (x : Int), .int .i64 (y : Int), .int .i64 ((q : Int) + (x1.size : Int)), .string z, .bool false] := Hb4.out.same (hr5.block B3 Hb4.out.lt (HT4.out _ (by omega) HbB.out.lt))
        have hpp5 : W5.heap[p0]? = W3.heap[p0]? := (hr5.block p0 (by omega) (HT4.out _ (Nat.le_refl _) hp0l)).trans Hpp4.out
        have hrn5 : Rnd T₀ T5 W W5 := HRn4.out.trans hr5
        clear m0 m1 m2 m3 m4
        have KF : ∀ w', Below W5.heap.size W5 w' → w'.cell? ⟨p0, 1, none⟩ = some (.int .i64 (y : Int)) ∧ w'.cell? ⟨B3, 0, none⟩ = some (.int .i64 (x : Int)) ∧ w'.cell? ⟨B3, 1, none⟩ = some (.int .i64 (y : Int)) ∧ w'.cell? ⟨B3, 2, none⟩ = some (.int .i64 ((q : Int) + (x1.size : Int))) ∧ w'.cell? ⟨B3, 3, none⟩ = some (.string z) ∧ w'.cell? ⟨B3, 4, none⟩ = some (.bool false) := by
          intro w' hb
          have e2 := hb5.same (hb.block B3 hb5.lt)
          have e1 : W5.heap[p0]? = W3.heap[p0]? := hpp5
          have hlp : p0 < W5.heap.size := by have := hr5.size; omega
          have e3 : w'.cell? ⟨p0, 1, none⟩ = some (.int .i64 (y : Int)) := by
            rw [hb.cell (p := ⟨p0, 1, none⟩) hlp, World.cell?_of_block (w := W3) (w' := W5) (a := ⟨p0, 1, none⟩) e1]
            exact ((HSE.out _).1 HbS.out).2.1
          have m0 := e2.cell 0; have m1 := e2.cell 1; have m2 := e2.cell 2; have m3 := e2.cell 3; have m4 := e2.cell 4
          simp only [List.getElem?_toArray, List.getElem?_cons_zero, List.getElem?_cons_succ] at m0 m1 m2 m3 m4
          exact ⟨e3, m0, m1, m2, m3, m4⟩
        obtain ⟨m9, m0, m1, m2, m3, m4⟩ := KF W5 (Below.refl _ _)
        have C2 := Lib.hid (fun W => end_any ⟨x, y, (q : Int) + (x1.size : Int), z, false⟩ W (by show -9223372036854775808 ≤ (q : Int) + (x1.size : Int) + (z.size : Int); rw [HXS.out]; omega) (by show (q : Int) + (x1.size : Int) + (z.size : Int) ≤ 9223372036854775807; rw [HXS.out]; omega))
        simp only [Pc.val] at C2
        have HRn5 := Lib.hid hrn5; have HKF := Lib.hid KF; have HJ5 := Lib.hid hJ5
        have hrz := hr5.size
        clear KF hb5 hpp5 hrn5 hr5 hJ5 hy2 HR2
        gi_wp2
        refine wpIn_wide.2 ?_
        go_region_held3 (fun w' => w'.cell? ⟨p0, 1, none⟩ = some (.int .i64 (y : Int)) ∧ w'.cell? ⟨B3, 0, none⟩ = some (.int .i64 (x : Int)) ∧ w'.cell? ⟨B3, 1, none⟩ = some (.int .i64 (y : Int)) ∧ w'.cell? ⟨B3, 2, none⟩ = some (.int .i64 ((q : Int) + (x1.size : Int))) ∧ w'.cell? ⟨B3, 3, none⟩ = some (.string z) ∧ w'.cell? ⟨B3, 4, none⟩ = some (.bool false)) (first | with_reducible exact sE | exact HKF.out _ (Below.refl W5.heap.size W5).drew)
          (first | (go_at_call 47; refine (C2.out _).mono ?_; rintro e wE ⟨rfl, bE⟩; have sE := HKF.out _ ((Below.refl _ W5).drew.trans bE)))
        all_goals
          have hbe : Below W5.heap.size W5 wE := (Below.refl _ W5).drew.trans bE
          have HJe : Hid (J (2 * (k + 1)) T5 wE) := HO.out _ _ _ _ HJ5.out (Oth.of_below hbe)
          have HRe : Hid (Rnd T₀ T5 W wE) := HRn5.out.trans (Rnd.of_below hbe)
          have hqe : (q : Int) + (x1.size : Int) + (z.size : Int) = ((q + (x - f) + z.size : Nat) : Int) := by rw [HXS.out]; omega
          have hqb : q + (x - f) + z.size ≤ y + 100000 * (k + 1) := by omega
          have HQE := Lib.hid hqe
          clear hbe bE sE hqe m9 m0 m1 m2 m3 m4
          gi_wp2
          go_roundw
          case rel => exact ⟨k + 1, y, q + (x - f) + z.size, T5, by omega, rfl, by rw [HQE.out], by go_num, hys, hqb, HPn, HVn, HJe, HRe⟩
          case measure => simp [intOf]; omega
    · obtain rfl : n = k := by omega
      have hpl : (prl s 0 0 es).drop (2 * n) = [⟨(f : Int), (s.size : Int), (q : Int), s.extract f s.size, true⟩] := by
        rw [← HP.out, List.drop_eq_nil_of_le (by rw [HN.out]; exact Nat.le_refl _)]; rfl
      have hp1 := pg_drop hpl
      have hwbs : wr.heap[bs]? = W.heap[bs]? := HRn.out.block bs hlbs (HR.out bs (.inl rfl))
      have hcs : Boxed wr bs 9 (.string s) := hwbs.trans HBS.out
      have cs := hcs.cell
      have hY1 := HY.out (2 * n) T wr.drew (by omega) HRn.out.size (HO.out _ _ _ _ HJ.out (Oth.of_below (Below.refl _ _).drew))
      rw [hp1] at hY1
      obtain ⟨fn, tmps, assign, body, hy, hR1⟩ := hY1
      simp only [Pc.val] at hy
      have HR1 := Lib.hid hR1
      have hmx : Try.prog.follows .mixedOrders = true := by kernel_rfl
      clear hpl hp1 hwbs hcs hR1
      gi_wp2
      gi_region_with_o (first | (refine ⟨rfl, HR1.out.mono ?_⟩; rintro e W4 ⟨rfl, T4, hJ4, hr4⟩))
      all_goals
        gi_wp2
        go_end0
        exact ⟨⟨_, rfl⟩, T4, hJ4⟩

end Go.Proofs.Ytfhpllcdlejfjaa
