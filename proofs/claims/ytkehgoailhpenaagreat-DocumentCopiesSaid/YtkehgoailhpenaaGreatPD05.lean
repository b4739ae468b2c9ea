/- Texts of one claim, put together: EPc, EPart, EBld, EApp, ECk, ECm, ECo, EIv, EKb, EIp, EDiff. Each part says what it proves and under which conditions. -/
import Derived.Test.YtkehgoailhpenaaGreatPD04
import Derived.Deep.RegionHeld3
import Derived.Lib.Builder
import Derived.Lib.AppendStr
import Derived.Lib.UnsafeStr
import Derived.Laws.Externs
import Derived.Shelf.RegionOpenPlain
import Derived.BigRegion
import Derived.Lib.MinMax
import Derived.Maps.AppendAt

/- The parts of a new text, and the contracts of end and parts. It has no conditions. -/
namespace Go.Proofs.YtkehgoailhpenaaGreat
open Go.RowKit Go.Shelf
set_option linter.unusedVariables false

/-- A part of a new text. -/
structure Pc where
  f : Int
  t : Int
  q : Int
  x : ByteArray
  k : Bool
def Pc.val (p : Pc) : Value := .agg #[.int .i64 p.f, .int .i64 p.t, .int .i64 p.q, .string p.x, .bool p.k]
def dP : Pc := ⟨0, 0, 0, ⟨#[]⟩, false⟩
def Pc.cells (p : Pc) : Array Value := #[.int .i64 p.f, .int .i64 p.t, .int .i64 p.q, .string p.x, .bool p.k]
/-- The parts of the new text, from offset f of the old one and q of the new one on. -/
def prl (s : ByteArray) (f q : Nat) : List Er → List Pc
  | [] => [⟨f, s.size, q, s.extract f s.size, true⟩]
  | e :: l => ⟨f, e.f, q, s.extract f e.f.toNat, true⟩ :: ⟨e.f, e.t, (q : Int) + (e.f - f), e.x, false⟩ :: prl s e.t.toNat (q + (e.f.toNat - f) + e.x.size) l
theorem prl_len (s : ByteArray) : ∀ (l : List Er) (f q : Nat), (prl s f q l).length = 2 * l.length + 1 := by
  intro l
  induction l with
  | nil => intro f q; rfl
  | cons e l ih => intro f q; simp only [prl, List.length_cons, ih]; omega
def pg (l : List Pc) (k : Nat) : Pc := l[k]?.getD dP
theorem pg_drop {l m : List Pc} {j : Nat} {p : Pc} (h : l.drop j = p :: m) : pg l j = p := by
  have : (l.drop j)[0]? = some p := by rw [h]; rfl
  rw [List.getElem?_drop, Nat.add_zero] at this
  simp [pg, this]
theorem drop_up {α : Type} {l m : List α} {j : Nat} {p : α} (h : l.drop j = p :: m) : l.drop (j + 1) = m := by
  rw [← List.drop_drop, h]; rfl

set_option maxRecDepth 100000 in
theorem end_any (p : Pc) (w : World) (h1 : -9223372036854775808 ≤ p.q + p.x.size) (h2 : p.q + p.x.size ≤ 9223372036854775807) :
    Calls Tryz.prog 72 #[p.val] w fun e w' => e = .returned (.int .i64 (p.q + p.x.size)) ∧ Below w.heap.size w w' := by
  obtain ⟨f, t, q, x, k⟩ := p
  simp only [Pc.val] at h1 h2 ⊢
  have H := Lib.hid ((Below.refl w.heap.size w).alloc (Nat.le_refl _) (.cells #[.int .i64 f, .int .i64 t, .int .i64 q, .string x, .bool k] 103))
  go_enter Tryz.func72, Tryz.ntmps72
  go_wp2
  go_ret
  exact ⟨rfl, H.out⟩

theorem parts_any (s : ByteArray) (a : Option Addr) (n cap : Nat) (w : World) :
    Calls Tryz.prog 53 #[.string s, .slice a n cap] w fun e w' =>
      e = .returned (.func (.func 71) #[] #[.pointer (some ⟨w.heap.size + 1, 0, none⟩), .pointer (some ⟨w.heap.size, 0, none⟩)]) ∧ w' = (w.alloc (.cells #[.string s] 9)).alloc (.cells #[.slice a n cap] 38) := by
  go_enter Tryz.func53, Tryz.ntmps53
  go_wp2
  go_ret
  exact ⟨rfl, rfl⟩

end Go.Proofs.YtkehgoailhpenaaGreat

/- The contract of the iterator that parts returns. Conditions: a valid list of at most 64 edits for a text of at most 10000000 bytes. -/
namespace Go.Proofs.YtkehgoailhpenaaGreat
open Go.RowKit Go.Shelf
set_option linter.unusedVariables false
attribute [local go_sem] Oper.semAt_some

set_option maxRecDepth 100000 in
set_option maxHeartbeats 1000000 in
theorem part_giv (s : ByteArray) (bl bs : Nat) (a : Option Addr) (cap : Nat) (es : List Er) (w : World) (hs : s.size ≤ 10000000) (hv : vErr (s.size : Int) es = 0) (hfit : ∀ e ∈ es, e.x.size ≤ 100000)
    (hbl : Boxed w bl 38 (.slice a es.length cap)) (hbs : Boxed w bs 9 (.string s)) (hS : ES w.heap.size w a cap es) :
    Giv Tryz.prog 71 #[.pointer (some ⟨bl, 0, none⟩), .pointer (some ⟨bs, 0, none⟩)] (fun k => #[(pg (prl s 0 0 es) k).val]) (2 * es.length + 1) (fun k => k = bs ∨ 0 < es.length ∧ ∃ off, a = some ⟨k, off, none⟩) w := by
  intro l J T₀ W hW hR hB hO hY h0
  obtain ⟨n, hn⟩ : ∃ n, es.length = n := ⟨_, rfl⟩
  obtain ⟨hlim, hvld, hbd⟩ := vErr_ok hv
  have hbl0 : Boxed W bl 38 (.slice a es.length cap) := (hW.block bl hbl.lt).trans hbl
  have hbl1 := hbl0.cell
  dsimp only at hY hR
  have hbs1 : Boxed W bs 9 (.string s) := (hW.block bs hbs.lt).trans hbs
  have hlbs := hbs1.lt
  have hsz := hW.size
  have HV0 : Hid (vE (s.size : Int) ((0 : Nat) : Int) (es.drop 0) = 0) := by
    have := hv
    unfold vErr at this
    rw [if_neg (by omega)] at this
    exact this
  have HP0s : Hid (prl s 0 0 (es.drop 0) = (prl s 0 0 es).drop (2 * 0)) := rfl
  obtain ⟨b, off, hab, hcell⟩ := (hS.on hW).cells.core
  rw [hn] at hbl1 hab hcell hlim hY hR ⊢
  have HN := Lib.hid hn; have HAB := Lib.hid hab; have HC := Lib.hid hcell; have HR := Lib.hid hR; have HB := Lib.hid hB; have HO := Lib.hid hO; have HY := Lib.hid hY; have HD := Lib.hid hbd; have HF := Lib.hid hfit; have HBS := Lib.hid hbs1
  have hcap := hS.le
  rw [hn] at hcap
  have HX : Hid (hbs1.lt = hbs1.lt) := rfl
  clear hv hvld hab hcell hR hB hO hY hbd hfit hS hbl hbs hbs1 hbl0 hn HX
  refine callsIn_of_wp Tryz.func71 rfl trivial ?_ rfl
  simp only [Tryz.ntmps71, List.size_toArray, List.length_cons, List.length_nil, Nat.reduceAdd, Nat.reduceSub, Array.replicate_succ, Array.replicate_zero, List.push_toArray, List.append_toArray, List.nil_append, List.cons_append]
  gi_wp2
  gi_loopw [4, 5, 12] (fun u v i wr => ∃ (k f q : Nat) (T : Nat → Prop), k ≤ n ∧ u = .int .i64 (f : Int) ∧ v = .int .i64 (q : Int) ∧ i = .int .i64 (k : Int) ∧ f ≤ s.size ∧ q ≤ f + 100000 * k ∧
      Hid (prl s f q (es.drop k) = (prl s 0 0 es).drop (2 * k)) ∧ Hid (vE (s.size : Int) (f : Int) (es.drop k) = 0) ∧ Hid (J (2 * k) T wr) ∧ Hid (Rnd T₀ T W wr)) (fun _ _ i _ => n - (intOf i).toNat)
  case atStart => exact ⟨0, 0, 0, T₀, by omega, rfl, rfl, rfl, by omega, by omega, HP0s, HV0, h0, Rnd.refl _ _⟩
  case round =>
    obtain ⟨k, f, q, T, hk, rfl, rfl, rfl, hf, hq, HP, HV, HJ, HRn⟩ := hrel
    by_cases hlt : k < n
    · obtain ⟨ha, hbB⟩ := HAB.out.resolve_left (by omega)
      subst ha
      have hkl : k < es.length := by rw [HN.out]; exact hlt
      have hstep := HV.out
      have hpp := HP.out
      rw [eg_drop hkl] at hstep hpp
      obtain ⟨hd0, hd1, hd2⟩ := HD.out _ (eg_mem hkl)
      have hxl := HF.out _ (eg_mem hkl)
      obtain ⟨x, hx⟩ : ∃ x : Nat, (eg es k).f = (x : Int) := ⟨(eg es k).f.toNat, by omega⟩
      obtain ⟨y, hy⟩ : ∃ y : Nat, (eg es k).t = (y : Int) := ⟨(eg es k).t.toNat, by omega⟩
      obtain ⟨z, hz⟩ : ∃ z, (eg es k).x = z := ⟨_, rfl⟩
      simp only [vE] at hstep
      simp only [prl] at hpp
      rw [hx, hy, hz] at hpp
      rw [hx, hy] at hstep
      rw [hx] at hd0 hd1
      rw [hy] at hd1 hd2
      simp only [Int.toNat_natCast] at hpp
      rw [hz] at hxl
      rw [if_neg (by omega)] at hstep
      by_cases hfx : (x : Int) < (f : Int)
      · rw [if_pos hfx] at hstep; omega
      rw [if_neg hfx] at hstep
      have hxy : x ≤ y := by omega
      have hys : y ≤ s.size := by omega
      have hfx2 : f ≤ x := by omega
      have hp1 := pg_drop hpp.symm
      have hp2 := pg_drop (drop_up hpp.symm)
      have HPn : Hid (prl s y (q + (x - f) + z.size) (es.drop (k + 1)) = (prl s 0 0 es).drop (2 * (k + 1))) := (drop_up (drop_up hpp.symm)).symm
      have HVn : Hid (vE (s.size : Int) (y : Int) (es.drop (k + 1)) = 0) := hstep
      have hwb : wr.heap[b]? = W.heap[b]? := HRn.out.block b hbB (HR.out b (.inr ⟨by omega, off, rfl⟩))
      have hwbs : wr.heap[bs]? = W.heap[bs]? := HRn.out.block bs hlbs (HR.out bs (.inl rfl))
      obtain ⟨c0, c1, c2⟩ := HC.out k hlt wr hwb
      rw [hx] at c0
      rw [hy] at c1
      rw [hz] at c2
      have hcs : Boxed wr bs 9 (.string s) := hwbs.trans HBS.out
      have cs0 := ((hcs.alloc (.cells #[.int .i64 (x : Int), .int .i64 (y : Int), .string z] 84)).alloc (.cells #[.int .i64 0, .int .i64 0, .int .i64 0, .string ⟨#[]⟩, .bool false] 103)).cell
      have cs1 := (hcs.alloc (.cells #[.int .i64 (x : Int), .int .i64 (y : Int), .string z] 84)).cell
      have hkk : (k : Int) < (n : Int) := by omega
      have hBr : W.heap.size ≤ wr.heap.size := HRn.out.size
      have h1 := Lib.hid hp1; have h2 := Lib.hid hp2; have h3 := Lib.hid hwb; have h4 := Lib.hid hwbs
      clear hstep hpp hp1 hp2 hwb hwbs hx hy hz hcs
      gi_wp2
      gi_region
      obtain ⟨p0, hp0⟩ : ∃ p, wr.heap.size = p := ⟨_, rfl⟩
      obtain ⟨x1, hx1⟩ : ∃ r, s.extract f x = r := ⟨_, rfl⟩
      have hx1s : x1.size = x - f := by rw [← hx1, ByteArray.size_extract]; omega
      obtain ⟨W2, hW2⟩ : ∃ W2, ((wr.alloc (.cells #[.int .i64 (x : Int), .int .i64 (y : Int), .string z] 84)).alloc (.cells #[.int .i64 (f : Int), .int .i64 (x : Int), .int .i64 (q : Int), .string x1, .bool true] 103)).drew = W2 := ⟨_, rfl⟩
      rw [hx1, hW2, hp0]
      rw [hp0] at hBr
      have bE : Blk W2 p0 84 #[.int .i64 (x : Int), .int .i64 (y : Int), .string z] := by
        rw [← hW2, ← hp0]; exact (Blk.new wr _ _).alloc _
      have bP : Blk W2 (p0 + 1) 103 #[.int .i64 (f : Int), .int .i64 (x : Int), .int .i64 (q : Int), .string x1, .bool true] := by
        rw [← hW2, ← hp0]
        have := Blk.new (wr.alloc (.cells #[.int .i64 (x : Int), .int .i64 (y : Int), .string z] 84)) 103 #[.int .i64 (f : Int), .int .i64 (x : Int), .int .i64 (q : Int), .string x1, .bool true]
        rw [World.size_alloc] at this
        exact this
      have s2 : W2.heap.size = p0 + 2 := by rw [← hW2, ← hp0]; show (World.alloc (World.alloc wr _) _).heap.size = _; simp
      have b2 : Below p0 wr W2 := by rw [← hW2, ← hp0]; exact (((Below.refl _ _).alloc (Nat.le_refl _) _).alloc (by simp) _).drew
      have C := Lib.hid (fun W => end_any ⟨f, x, q, x1, true⟩ W (by show -9223372036854775808 ≤ (q : Int) + (x1.size : Int); omega) (by show (q : Int) + (x1.size : Int) ≤ 9223372036854775807; omega))
      simp only [Pc.val] at C
      obtain ⟨S, hSd⟩ : ∃ S : World → Prop, (fun w' => w'.cell? ⟨p0, 0, none⟩ = some (.int .i64 (x : Int)) ∧ w'.cell? ⟨p0, 1, none⟩ = some (.int .i64 (y : Int)) ∧ w'.cell? ⟨p0, 2, none⟩ = some (.string z) ∧ w'.cell? ⟨p0 + 1, 0, none⟩ = some (.int .i64 (f : Int)) ∧ w'.cell? ⟨p0 + 1, 1, none⟩ = some (.int .i64 (x : Int)) ∧ w'.cell? ⟨p0 + 1, 2, none⟩ = some (.int .i64 (q : Int)) ∧ w'.cell? ⟨p0 + 1, 3, none⟩ = some (.string x1) ∧ w'.cell? ⟨p0 + 1, 4, none⟩ = some (.bool true) ∧ p0 + 2 ≤ w'.heap.size) = S := ⟨_, rfl⟩
      have hSe : ∀ w', S w' ↔ (w'.cell? ⟨p0, 0, none⟩ = some (.int .i64 (x : Int)) ∧ w'.cell? ⟨p0, 1, none⟩ = some (.int .i64 (y : Int)) ∧ w'.cell? ⟨p0, 2, none⟩ = some (.string z) ∧ w'.cell? ⟨p0 + 1, 0, none⟩ = some (.int .i64 (f : Int)) ∧ w'.cell? ⟨p0 + 1, 1, none⟩ = some (.int .i64 (x : Int)) ∧ w'.cell? ⟨p0 + 1, 2, none⟩ = some (.int .i64 (q : Int)) ∧ w'.cell? ⟨p0 + 1, 3, none⟩ = some (.string x1) ∧ w'.cell? ⟨p0 + 1, 4, none⟩ = some (.bool true) ∧ p0 + 2 ≤ w'.heap.size) := fun w' => by rw [← hSd]
      have s0 : S W2.drew := by
        rw [hSe]
        exact ⟨by simpa using bE.cell 0, by simpa using bE.cell 1, by simpa using bE.cell 2, by simpa using bP.cell 0, by simpa using bP.cell 1, by simpa using bP.cell 2, by simpa using bP.cell 3, by simpa using bP.cell 4, by show p0 + 2 ≤ W2.heap.size; omega⟩
      have KC : ∀ w1 w', S w1 → Below w1.heap.size w1 w' → S w' := by
        intro w1 w' h hb
        rw [hSe] at h ⊢
        obtain ⟨g0, g1, g2, g3, g4, g5, g6, g7, g8⟩ := h
        have hh : ∀ b i, b < p0 + 2 → w'.cell? ⟨b, i, none⟩ = w1.cell? ⟨b, i, none⟩ := fun b i hb2 => hb.cell (p := ⟨b, i, none⟩) (by show b < w1.heap.size; omega)
        refine ⟨(hh _ _ (by omega)).trans g0, (hh _ _ (by omega)).trans g1, (hh _ _ (by omega)).trans g2, (hh _ _ (by omega)).trans g3, (hh _ _ (by omega)).trans g4, (hh _ _ (by omega)).trans g5, (hh _ _ (by omega)).trans g6, (hh _ _ (by omega)).trans g7, by have := hb.size; omega⟩
      have KA : ∀ w1 o, S w1 → S (w1.alloc o) := fun w1 o h => KC _ _ h ((Below.refl _ _).alloc (Nat.le_refl _) _)
      have KS : ∀ w1 B v0 v1 v2 v3 v4, S w1 → p0 + 2 ≤ B → S (((((w1.setCell ⟨B, 0, none⟩ v0).setCell ⟨B, 1, none⟩ v1).setCell ⟨B, 2, none⟩ v2).setCell ⟨B, 3, none⟩ v3).setCell ⟨B, 4, none⟩ v4) := by
        intro w1 B v0 v1 v2 v3 v4 h hB
        have hb : Below (p0 + 2) w1 (((((w1.setCell ⟨B, 0, none⟩ v0).setCell ⟨B, 1, none⟩ v1).setCell ⟨B, 2, none⟩ v2).setCell ⟨B, 3, none⟩ v3).setCell ⟨B, 4, none⟩ v4) :=
          (((((Below.refl _ _).setCell (p := ⟨B, 0, none⟩) hB _).setCell (p := ⟨B, 1, none⟩) hB _).setCell (p := ⟨B, 2, none⟩) hB _).setCell (p := ⟨B, 3, none⟩) hB _).setCell (p := ⟨B, 4, none⟩) hB _
        rw [hSe] at h ⊢
        obtain ⟨g0, g1, g2, g3, g4, g5, g6, g7, g8⟩ := h
        have hh : ∀ b i, b < p0 + 2 → World.cell? (((((w1.setCell ⟨B, 0, none⟩ v0).setCell ⟨B, 1, none⟩ v1).setCell ⟨B, 2, none⟩ v2).setCell ⟨B, 3, none⟩ v3).setCell ⟨B, 4, none⟩ v4) ⟨b, i, none⟩ = w1.cell? ⟨b, i, none⟩ := fun b i hb2 => hb.cell (p := ⟨b, i, none⟩) hb2
        refine ⟨(hh _ _ (by omega)).trans g0, (hh _ _ (by omega)).trans g1, (hh _ _ (by omega)).trans g2, (hh _ _ (by omega)).trans g3, (hh _ _ (by omega)).trans g4, (hh _ _ (by omega)).trans g5, (hh _ _ (by omega)).trans g6, (hh _ _ (by omega)).trans g7, by have := hb.size; omega⟩
      have HKS := Lib.hid KS
      clear KS
      have HB2s : p0 + 2 ≤ W2.heap.size := by omega
      obtain ⟨k0, k1, k2, k3, k4, k5, k6, k7, _⟩ := (hSe _).1 s0
      have HK := Lib.hid KC; have HKA := Lib.hid KA; have HSE := Lib.hid hSe; have HE := Lib.hid bE; have HPp := Lib.hid bP; have HS2 := Lib.hid s2; have HB2 := Lib.hid b2; have HX1 := Lib.hid hx1; have HXS := Lib.hid hx1s; have HP0 := Lib.hid hp0; have S0 := Lib.hid s0
      clear KC KA hSe hSd bE bP s2 b2 hx1 hx1s hp0 hW2 cs0 cs1 c0 c1 c2 s0
      have KZ : ∀ wa, Below (W2.drew.alloc (.cells #[.int .i64 0, .int .i64 0, .int .i64 0, .string ⟨#[]⟩, .bool false] 103)).heap.size (W2.drew.alloc (.cells #[.int .i64 0, .int .i64 0, .int .i64 0, .string ⟨#[]⟩, .bool false] 103)) wa → Blk wa W2.heap.size 103 #[.int .i64 0, .int .i64 0, .int .i64 0, .string ⟨#[]⟩, .bool false] := by
        intro wa hb
        refine Blk.same ?_ (hb.block _ (by rw [World.size_alloc]; exact Nat.lt_succ_self _))
        exact Blk.new W2.drew _ _
      have S1 : Hid (S (W2.alloc (.cells #[.int .i64 0, .int .i64 0, .int .i64 0, .string ⟨#[]⟩, .bool false] 103)).drew) := HKA.out W2.drew _ S0.out
      have HKZ := Lib.hid KZ
      clear KZ
      have hmx : Tryz.prog.follows .mixedOrders = true := by kernel_rfl
      gi_wp2
      refine wpIn_wide.2 ?_
      go_region_held3 (fun w' => w'.cell? ⟨p0, 0, none⟩ = some (.int .i64 (x : Int)) ∧ w'.cell? ⟨p0, 1, none⟩ = some (.int .i64 (y : Int)) ∧ w'.cell? ⟨p0, 2, none⟩ = some (.string z) ∧ w'.cell? ⟨p0 + 1, 0, none⟩ = some (.int .i64 (f : Int)) ∧ w'.cell? ⟨p0 + 1, 1, none⟩ = some (.int .i64 (x : Int)) ∧ w'.cell? ⟨p0 + 1, 2, none⟩ = some (.int .i64 (q : Int)) ∧ w'.cell? ⟨p0 + 1, 3, none⟩ = some (.string x1) ∧ w'.cell? ⟨p0 + 1, 4, none⟩ = some (.bool true) ∧ p0 + 2 ≤ w'.heap.size) (first | with_reducible exact (HSE.out _).1 S0.out | with_reducible exact (HSE.out _).1 sA | with_reducible exact (HSE.out _).1 (HKA.out _ _ sA) | with_reducible exact (HSE.out _).1 (HKA.out _ _ S0.out) | with_reducible exact (HSE.out _).1 (HKS.out _ _ _ _ _ _ _ sA HB2s) | with_reducible exact (HSE.out _).1 (HKS.out _ _ _ _ _ _ _ (HKA.out _ _ sA) (((HSE.out _).1 sA).2.2.2.2.2.2.2.2)) | with_reducible exact (HSE.out _).1 S1.out)
        (first | (go_at_call 72; refine (C.out _).mono ?_; rintro e wA ⟨rfl, bA⟩; have zA : Blk wA W2.heap.size 103 #[.int .i64 0, .int .i64 0, .int .i64 0, .string ⟨#[]⟩, .bool false] := (HKZ.out _ bA); have sA := HK.out _ _ (HKA.out _ _ S0.out) bA; have z0 := zA.cell 0; have z1 := zA.cell 1; have z2 := zA.cell 2; have z3 := zA.cell 3; have z4 := zA.cell 4; have y0 := zA.frozen 0; have y1 := zA.frozen 1; have y2 := zA.frozen 2; have y3 := zA.frozen 3; have y4 := zA.frozen 4; simp only [List.getElem?_toArray, List.getElem?_cons_zero, List.getElem?_cons_succ] at z0 z1 z2 z3 z4)
               | (go_at_call 72; refine (C.out _).mono ?_; rintro e wA ⟨rfl, bA⟩; have sA := HK.out _ _ S0.out bA))
      all_goals
        first
        | (have b1 := ((((zA.set 0 (.int .i64 (x : Int))).set 1 (.int .i64 (y : Int))).set 2 (.int .i64 ((q : Int) + (x1.size : Int)))).set 3 (.string z)).set 4 (.bool false)
           have bA2 : Below (p0 + 2) W2 wA := (((Below.refl _ W2).drew.alloc HB2s _)).trans (bA.mono (Nat.le_trans HB2s (by show W2.heap.size ≤ (World.alloc W2 _).heap.size; rw [World.size_alloc]; exact Nat.le_succ _)))
           have F0 := And.intro b1 (And.intro (HKS.out wA W2.heap.size (.int .i64 (x : Int)) (.int .i64 (y : Int)) (.int .i64 ((q : Int) + (x1.size : Int))) (.string z) (.bool false) sA HB2s) (And.intro (((((bA2.setCell (p := ⟨W2.heap.size, 0, none⟩) HB2s (.int .i64 (x : Int))).setCell (p := ⟨W2.heap.size, 1, none⟩) HB2s (.int .i64 (y : Int))).setCell (p := ⟨W2.heap.size, 2, none⟩) HB2s (.int .i64 ((q : Int) + (x1.size : Int)))).setCell (p := ⟨W2.heap.size, 3, none⟩) HB2s (.string z)).setCell (p := ⟨W2.heap.size, 4, none⟩) HB2s (.bool false)) HB2s))
           obtain ⟨W3, hW3⟩ : ∃ W3, (((((wA.setCell ⟨W2.heap.size, 0, none⟩ (.int .i64 (x : Int))).setCell ⟨W2.heap.size, 1, none⟩ (.int .i64 (y : Int))).setCell ⟨W2.heap.size, 2, none⟩ (.int .i64 ((q : Int) + (x1.size : Int)))).setCell ⟨W2.heap.size, 3, none⟩ (.string z)).setCell ⟨W2.heap.size, 4, none⟩ (.bool false)) = W3 := ⟨_, rfl⟩
           obtain ⟨B3, hB3⟩ : ∃ B3, W2.heap.size = B3 := ⟨_, rfl⟩
           rw [hW3, hB3] at F0
           rw [hW3, hB3]
           have F3 : Hid (Blk W3 B3 103 #[.int .i64 (x : Int), .int .i64 (y : Int), .int .i64 ((q : Int) + (x1.size : Int)), .string z, .bool false] ∧ S W3 ∧ Below (p0 + 2) W2 W3 ∧ p0 + 2 ≤ B3) := F0
           clear F0 b1 hW3 hB3 z0 z1 z2 z3 z4 y0 y1 y2 y3 y4 zA)
        | (have bA2 : Below (p0 + 2) W2 wA := (Below.refl _ W2).drew.trans (bA.mono (by show p0 + 2 ≤ W2.heap.size; omega))
           have hA := bA2.size
           have F0 := And.intro (Blk.new wA 103 #[.int .i64 (x : Int), .int .i64 (y : Int), .int .i64 ((q : Int) + (x1.size : Int)), .string z, .bool false]) (And.intro (HKA.out wA (.cells #[.int .i64 (x : Int), .int .i64 (y : Int), .int .i64 ((q : Int) + (x1.size : Int)), .string z, .bool false] 103) sA) (And.intro (bA2.alloc (by omega) (.cells #[.int .i64 (x : Int), .int .i64 (y : Int), .int .i64 ((q : Int) + (x1.size : Int)), .string z, .bool false] 103)) (show p0 + 2 ≤ wA.heap.size by omega)))
           obtain ⟨W3, hW3⟩ : ∃ W3, wA.alloc (.cells #[.int .i64 (x : Int), .int .i64 (y : Int), .int .i64 ((q : Int) + (x1.size : Int)), .string z, .bool false] 103) = W3 := ⟨_, rfl⟩
           obtain ⟨B3, hB3⟩ : ∃ B3, wA.heap.size = B3 := ⟨_, rfl⟩
           rw [hW3, hB3] at F0
           rw [hW3, hB3]
           have F3 : Hid (Blk W3 B3 103 #[.int .i64 (x : Int), .int .i64 (y : Int), .int .i64 ((q : Int) + (x1.size : Int)), .string z, .bool false] ∧ S W3 ∧ Below (p0 + 2) W2 W3 ∧ p0 + 2 ≤ B3) := F0
           clear F0 hW3 hB3 hA)
        clear HKS HKZ S1 bA2 bA sA k0 k1 k2 k3 k4 k5 k6 k7
        obtain ⟨bB, bS, b3, hB3⟩ := F3.out
        obtain ⟨g0, g1, g2, g3, g4, g5, g6, g7, g8⟩ := (HSE.out _).1 bS
        have hb3 : Below p0 wr W3 := HB2.out.trans (b3.mono (by omega))
        have hTl : ∀ j, T j → j < p0 := fun j hj => by rw [← HP0.out]; exact HB.out _ _ _ HJ.out j hj
        have hJ3 : J (2 * k) T W3 := HO.out _ _ _ _ HJ.out (Oth.of_below (by rw [HP0.out]; exact hb3))
        have hY1 := HY.out (2 * k) T W3 (by omega) (by have := hb3.size; have := HP0.out; omega) hJ3
        rw [h1.out, HX1.out] at hY1
        obtain ⟨fn, tmps, assign, body, hy, hR1⟩ := hY1
        simp only [Pc.val] at hy
        have HR1 := Lib.hid hR1
        have HB3 := Lib.hid hb3; have HTl := Lib.hid hTl; have HbB := Lib.hid bB; have HbS := Lib.hid bS
        clear hR1 hb3 hTl hJ3 bB bS b3
        gi_wp2
        refine ⟨rfl, HR1.out.mono ?_⟩
        rintro e W4 ⟨rfl, T4, hJ4, hr4⟩
        have hp0l : p0 < W3.heap.size := by have := HbB.out.lt; omega
        have hT3 : ∀ j, p0 ≤ j → ¬ T j := fun j hj h => by have := HTl.out j h; omega
        have hb4 : Blk W4 B3 103 #[.int .i64 (x : Int), .int .i64 (y : Int), .int .i64 ((q : Int) + (x1.size : Int)), .string z, .bool false] := HbB.out.same (hr4.block B3 HbB.out.lt (hT3 _ (by omega)))
        have hpp4 : W4.heap[p0]? = W3.heap[p0]? := hr4.block p0 hp0l (hT3 _ (Nat.le_refl _))
        have m0 := hb4.cell 0; have m1 := hb4.cell 1; have m2 := hb4.cell 2; have m3 := hb4.cell 3; have m4 := hb4.cell 4
        simp only [List.getElem?_toArray, List.getElem?_cons_zero, List.getElem?_cons_succ] at m0 m1 m2 m3 m4
        have hT4 : ∀ j, p0 ≤ j → j < W3.heap.size → ¬ T4 j := fun j h1 h2 h => (hr4.grew j h).elim (hT3 j h1) (fun e => by omega)
        have hrn4 : Rnd T₀ T4 W W4 := (HRn.out.trans (Rnd.of_below (by rw [HP0.out]; exact HB3.out))).trans hr4
        have hY2 := HY.out (2 * k + 1) T4 W4 (by omega) hrn4.size hJ4
        rw [h2.out] at hY2
        obtain ⟨fn2, tmps2, assign2, body2, hy2, hR2⟩ := hY2
        have hq1 : (q : Int) + ((x : Int) - (f : Int)) = (q : Int) + (x1.size : Int) := by rw [HXS.out]; omega
        simp only [Pc.val, hq1] at hy2
        have HR2 := Lib.hid hR2
        have HRn4 := Lib.hid hrn4; have Hb4 := Lib.hid hb4; have Hpp4 := Lib.hid hpp4; have HT4 := Lib.hid hT4; have HT3 := Lib.hid hT3
        have hW3s := hr4.size
        clear hR2 hrn4 hb4 hpp4 hT4 hT3 hJ4 hr4 hy HR1 g0 g1 g2 g3 g4 g5 g6 g7
        gi_wp2
        refine ⟨rfl, HR2.out.mono ?_⟩
        rintro e W5 ⟨rfl, T5, hJ5, hr5⟩
        have hb5 : Blk W5 B3 103 #[.int .i64 (x : Int), .int .i64 (y : Int), .int .i64 ((q : Int) + (x1.size : Int)), .string z, .bool false] := Hb4.out.same (hr5.block B3 Hb4.out.lt (HT4.out _ (by omega) HbB.out.lt))
        have hpp5 : W5.heap[p0]? = W3.heap[p0]? := (hr5.block p0 (by omega) (HT4.out _ (Nat.le_refl _) hp0l)).trans Hpp4.out
        have hrn5 : Rnd T₀ T5 W W5 := HRn4.out.trans hr5
        clear m0 m1 m2 m3 m4
        have KF : ∀ w', Below W5.heap.size W5 w' → w'.cell? ⟨p0, 1, none⟩ = some (.int .i64 (y : Int)) ∧ w'.cell? ⟨B3, 0, none⟩ = some (.int .i64 (x : Int)) ∧ w'.cell? ⟨B3, 1, none⟩ = some (.int .i64 (y : Int)) ∧ w'.cell? ⟨B3, 2, none⟩ = some (.int .i64 ((q : Int) + (x1.size : Int))) ∧ w'.cell? ⟨B3, 3, none⟩ = some (.string z) ∧ w'.cell? ⟨B3, 4, none⟩ = some (.bool false) := by
          intro w' hb
          have e2 := hb5.same (hb.block B3 hb5.lt)
          have e1 : W5.heap[p0]? = W3.heap[p0]? := hpp5
          have hlp : p0 < W5.heap.size := by have := hr5.size; omega
          have e3 : w'.cell? ⟨p0, 1, none⟩ = some (.int .i64 (y : Int)) := by
            rw [hb.cell (p := ⟨p0, 1, none⟩) hlp, World.cell?_of_block (w := W3) (w' := W5) (a := ⟨p0, 1, none⟩) e1]
            exact ((HSE.out _).1 HbS.out).2.1
          have m0 := e2.cell 0; have m1 := e2.cell 1; have m2 := e2.cell 2; have m3 := e2.cell 3; have m4 := e2.cell 4
          simp only [List.getElem?_toArray, List.getElem?_cons_zero, List.getElem?_cons_succ] at m0 m1 m2 m3 m4
          exact ⟨e3, m0, m1, m2, m3, m4⟩
        obtain ⟨m9, m0, m1, m2, m3, m4⟩ := KF W5 (Below.refl _ _)
        have C2 := Lib.hid (fun W => end_any ⟨x, y, (q : Int) + (x1.size : Int), z, false⟩ W (by show -9223372036854775808 ≤ (q : Int) + (x1.size : Int) + (z.size : Int); rw [HXS.out]; omega) (by show (q : Int) + (x1.size : Int) + (z.size : Int) ≤ 9223372036854775807; rw [HXS.out]; omega))
        simp only [Pc.val] at C2
        have HRn5 := Lib.hid hrn5; have HKF := Lib.hid KF; have HJ5 := Lib.hid hJ5
        have hrz := hr5.size
        clear KF hb5 hpp5 hrn5 hr5 hJ5 hy2 HR2
        gi_wp2
        refine wpIn_wide.2 ?_
        go_region_held3 (fun w' => w'.cell? ⟨p0, 1, none⟩ = some (.int .i64 (y : Int)) ∧ w'.cell? ⟨B3, 0, none⟩ = some (.int .i64 (x : Int)) ∧ w'.cell? ⟨B3, 1, none⟩ = some (.int .i64 (y : Int)) ∧ w'.cell? ⟨B3, 2, none⟩ = some (.int .i64 ((q : Int) + (x1.size : Int))) ∧ w'.cell? ⟨B3, 3, none⟩ = some (.string z) ∧ w'.cell? ⟨B3, 4, none⟩ = some (.bool false)) (first | with_reducible exact sE | exact HKF.out _ (Below.refl W5.heap.size W5).drew)
          (first | (go_at_call 72; refine (C2.out _).mono ?_; rintro e wE ⟨rfl, bE⟩; have sE := HKF.out _ ((Below.refl _ W5).drew.trans bE)))
        all_goals
          have hbe : Below W5.heap.size W5 wE := (Below.refl _ W5).drew.trans bE
          have HJe : Hid (J (2 * (k + 1)) T5 wE) := HO.out _ _ _ _ HJ5.out (Oth.of_below hbe)
          have HRe : Hid (Rnd T₀ T5 W wE) := HRn5.out.trans (Rnd.of_below hbe)
          have hqe : (q : Int) + (x1.size : Int) + (z.size : Int) = ((q + (x - f) + z.size : Nat) : Int) := by rw [HXS.out]; omega
          have hqb : q + (x - f) + z.size ≤ y + 100000 * (k + 1) := by omega
          have HQE := Lib.hid hqe
          clear hbe bE sE hqe m9 m0 m1 m2 m3 m4
          gi_wp2
          go_roundw
          case rel => exact ⟨k + 1, y, q + (x - f) + z.size, T5, by omega, rfl, by rw [HQE.out], by go_num, hys, hqb, HPn, HVn, HJe, HRe⟩
          case measure => simp [intOf]; omega
    · obtain rfl : n = k := by omega
      have hpl : (prl s 0 0 es).drop (2 * n) = [⟨(f : Int), (s.size : Int), (q : Int), s.extract f s.size, true⟩] := by
        rw [← HP.out, List.drop_eq_nil_of_le (by rw [HN.out]; exact Nat.le_refl _)]; rfl
      have hp1 := pg_drop hpl
      have hwbs : wr.heap[bs]? = W.heap[bs]? := HRn.out.block bs hlbs (HR.out bs (.inl rfl))
      have hcs : Boxed wr bs 9 (.string s) := hwbs.trans HBS.out
      have cs := hcs.cell
      have hY1 := HY.out (2 * n) T wr.drew (by omega) HRn.out.size (HO.out _ _ _ _ HJ.out (Oth.of_below (Below.refl _ _).drew))
      rw [hp1] at hY1
      obtain ⟨fn, tmps, assign, body, hy, hR1⟩ := hY1
      simp only [Pc.val] at hy
      have HR1 := Lib.hid hR1
      have hmx : Tryz.prog.follows .mixedOrders = true := by kernel_rfl
      clear hpl hp1 hwbs hcs hR1
      gi_wp2
      gi_region_with_o (first | (refine ⟨rfl, HR1.out.mono ?_⟩; rintro e W4 ⟨rfl, T4, hJ4, hr4⟩))
      all_goals
        gi_wp2
        go_end0
        exact ⟨⟨_, rfl⟩, T4, hJ4⟩

end Go.Proofs.YtkehgoailhpenaaGreat

/- The contracts of strings.Builder's WriteString and String. Conditions: fewer than 2^46 bytes. -/
namespace Go.Proofs.YtkehgoailhpenaaGreat
open Go.RowKit Go.Shelf
set_option linter.unusedVariables false

theorem str_cells (s : ByteArray) : Lib.strCells s = (sb s).map (Value.int .u8) := by
  simp [Lib.strCells, sb, List.map_map, Function.comp_def]

/-- Appending a string's bytes to an owned row: where the row then lies. -/
theorem append_str_at {P : Program} (w : World) (base : Nat) (t u ty e : TypeId) (i : TypeInfo) (ht : P.underlying t = some (.slice e)) (hu : P.underlying u = some .string) (hi : P.info? e = some i) (hz : i.zero = some (.int .u8 0))
    (hsize : i.size = 1) (hby : i.bytes = 1) (v : Value) (n : Nat) (xs : List Value) (hown : w.ownsRow base e 1 v n xs) (s : ByteArray)
    (h63 : n + s.size ≤ maxLen) (hbytes : n + s.size ≤ 140737488355328) (hbase : base ≤ w.heap.size) :
    ∃ v' w', (Builtin.append_ #[t, u] ty #[v, .string s]).run P w = .ok v' w' ∧ w'.ownsRow base e 1 v' (n + s.size) (xs ++ Lib.strCells s) ∧ w.grownBy w' v.ownBlock ∧
      (∀ g, v'.ownBlock = some g → v.ownBlock = some g ∨ w.heap.size ≤ g) ∧ (v' = .slice none 0 0 ↔ v = .slice none 0 0 ∧ s.size = 0) := by
  obtain ⟨v', w', hr, h2, h3, h4⟩ := Lib.run_append_own_string (P := P) w base t u ty e i ht hu hi hz hsize hby v n xs hown s h63 hbytes hbase
  refine ⟨v', w', hr, h2, h3, fun g hg => ?_, h4⟩
  have hxl : xs.length = n := by simpa using hown.1
  rcases hown.2 with ⟨rfl, rfl⟩ | ⟨g0, cap, cur, rfl, hbg, hg0, hnc, hcm, hcs, htake⟩
  · have hx : xs = [] := List.eq_nil_of_length_eq_zero hxl
    subst hx
    obtain ⟨v2, w2, hr2, k2, _⟩ := Lib.run_append_own_string (P := P) w w.heap.size t u ty e i ht hu hi hz hsize hby (.slice none 0 0) 0 [] (World.ownsRow_nil _ _ _ _) s h63 hbytes (Nat.le_refl _)
    rw [hr] at hr2
    cases hr2
    exact .inr (k2.lt g hg).1
  · by_cases hroom : n + s.size ≤ cap
    · have hcs' : cur.size = cap := by simpa using hcs
      have hr2 := Lib.run_append_room_string (P := P) w t u ty e i ht hu hi hsize g0 n cap cur hg0 s hroom (by omega)
      rw [hr] at hr2
      cases hr2
      exact .inl hg
    · have holds : ∀ j u, xs[j]? = some u → w.cell? ((⟨g0, 0, none⟩ : Addr).add j) = some u := hown.cells (g := g0) rfl
      have hr2 := Lib.run_append_grow_string (P := P) w t u ty e i (.int .u8 0) ht hu hi hz ⟨g0, 0, none⟩ n cap xs (by rw [hsize]; simpa using hxl) holds s (by omega) (by simp only [maxLen] at h63; omega) (by rw [hby]; exact growslice_fits (by omega) (by omega))
      rw [hr] at hr2
      cases hr2
      simp only [Value.ownBlock, Option.some.injEq] at hg
      exact .inr (by omega)
theorem wpList_append_str_at {P : Program} {w : World} {ops : Array Oper} {rest : List Oper} {o : Oper} {a : Act} {Q : Exit → Act → World → Prop} (hgd : o.guard = none) (sl x : Operand) (t u : TypeId)
    (ho : o.op = .call { callee := .builtin .append, args := #[sl, x], argTypes := #[t, u] })
    (base : Nat) (e : TypeId) (i : TypeInfo) (ht : P.underlying t = some (.slice e)) (hu : P.underlying u = some .string) (hi : P.info? e = some i) (hz : i.zero = some (.int .u8 0))
    (hsize : i.size = 1) (hby : i.bytes = 1) (v : Value) (n : Nat) (xs : List Value) (hs : a.eval sl = v) (hown : w.ownsRow base e 1 v n xs) (s : ByteArray) (hx : a.eval x = .string s)
    (h63 : n + s.size ≤ maxLen) (hbytes : n + s.size ≤ 140737488355328) (hbase : base ≤ w.heap.size)
    (h : ∀ v' w', w'.ownsRow base e 1 v' (n + s.size) (xs ++ Lib.strCells s) → w.grownBy w' v.ownBlock → (∀ g, v'.ownBlock = some g → v.ownBlock = some g ∨ w.heap.size ≤ g) → (v' = .slice none 0 0 ↔ v = .slice none 0 0 ∧ s.size = 0) → wpList P ops Q rest (a.put o.dst v') w') : wpList P ops Q (o :: rest) a w := by
  refine wpList_plain hgd fun K hK => ?_
  obtain ⟨v', w', hr, h2, h3, h4, h5⟩ := append_str_at (P := P) w base t u o.type e i ht hu hi hz hsize hby v n xs hown s h63 hbytes hbase
  unfold Oper.wp execOp
  simp only [ho, resolve, invoke, builtin, Sem.run_bind, Sem.run_pure, Result.andThen_ok, List.map_toArray, List.map_cons, List.map_nil, hs, hx, hr]
  exact hK _ _ (h v' w' h2 h3 h4 h5)

/-- The block b holds a builder with these bytes; T: the blocks that its methods may turn. -/
def Bl (b : Nat) (T : Nat → Prop) (Z : List Int) (w : World) : Prop :=
  ∃ p v, Blk w b 98 #[p, v] ∧ w.ownsRow (b + 1) 5 1 v Z.length (Z.map (Value.int .u8)) ∧ (p = .pointer none ∨ p = .pointer (some ⟨b, 0, none⟩)) ∧ (∀ j, T j ↔ (j = b ∨ v.ownBlock = some j)) ∧ (Z = [] → v = .slice none 0 0)
theorem Bl.lt {b : Nat} {T : Nat → Prop} {Z : List Int} {w : World} (h : Bl b T Z w) : ∀ j, T j → j < w.heap.size := by
  obtain ⟨p, v, hb, ho, _, hT, _⟩ := h
  intro j hj
  rcases (hT j).1 hj with rfl | h
  · exact hb.lt
  · exact (ho.lt j h).2
theorem Bl.at_ {b : Nat} {T : Nat → Prop} {Z : List Int} {w : World} (h : Bl b T Z w) : T b := by
  obtain ⟨p, v, hb, ho, _, hT, _⟩ := h
  exact (hT b).2 (.inl rfl)
theorem Bl.ge {b : Nat} {T : Nat → Prop} {Z : List Int} {w : World} (h : Bl b T Z w) : ∀ j, T j → b ≤ j := by
  obtain ⟨p, v, hb, ho, _, hT, _⟩ := h
  intro j hj
  rcases (hT j).1 hj with rfl | h
  · exact Nat.le_refl _
  · have := (ho.lt j h).1; omega
theorem Bl.keep {b : Nat} {T : Nat → Prop} {Z : List Int} {w w' : World} (h : Bl b T Z w) (hb : ∀ j, T j → w'.heap[j]? = w.heap[j]?) : Bl b T Z w' := by
  obtain ⟨p, v, hk, ho, hp, hT, hz⟩ := h
  exact ⟨p, v, hk.same (hb b ((hT b).2 (.inl rfl))), own_same ho (fun g hg => hb g ((hT g).2 (.inr hg))), hp, hT, hz⟩
theorem Bl.oth {b n : Nat} {T : Nat → Prop} {Z : List Int} {w w' : World} (h : Bl b T Z w) (ho : Oth T n w w') : Bl b T Z w' := h.keep (fun j hj => ho.block j (h.lt j hj) (.inr hj))

theorem infoBu : (Tryz.prog.info? 98).map (fun i => i.size) = some 2 := by kernel_rfl

set_option maxRecDepth 100000 in
set_option maxHeartbeats 1000000 in
theorem copy_used (b : Nat) (w : World) (h0 : w.cell? ⟨b, 0, none⟩ = some (.pointer (some ⟨b, 0, none⟩))) :
    Calls Tryz.prog 73 #[.pointer (some ⟨b, 0, none⟩)] w fun e w' => e = .returned (.tuple #[]) ∧ w' = w := by
  obtain ⟨j, hj, _⟩ := Option.map_eq_some_iff.1 infoBu
  go_enter Tryz.func73, Tryz.ntmps73
  go_wp2
  rw [Lib.run_neq_ptr_same w _ Tryz.underlying95 hj]
  go_wp2
  go_end0
  exact ⟨rfl, rfl⟩

set_option maxRecDepth 100000 in
set_option maxHeartbeats 1000000 in
theorem copy_fresh (b : Nat) (w : World) (h0 : w.cell? ⟨b, 0, none⟩ = some (.pointer none)) (hsh : w.shape? b = some (98, 2)) (hfz : w.frozen? ⟨b, 0, none⟩ = false) :
    Calls Tryz.prog 73 #[.pointer (some ⟨b, 0, none⟩)] w fun e w' => e = .returned (.tuple #[]) ∧ w' = w.setCell ⟨b, 0, none⟩ (.pointer (some ⟨b, 0, none⟩)) := by
  obtain ⟨j, hj, hjs⟩ := Option.map_eq_some_iff.1 infoBu
  go_enter Tryz.func73, Tryz.ntmps73
  go_wp2
  rw [Lib.run_to_unsafe w ⟨b, 0, none⟩ Tryz.underlying95 Tryz.underlying138 hj (by rw [hjs]; decide) hsh (Nat.zero_lt_succ 1)]
  simp only [Result.andThen]
  rw [Oper.upon_value]
  go_wp2
  rw [run_callFunc_extern Tryz.func87 (by kernel_rfl) (by kernel_rfl) (by kernel_rfl) (e := Extern.AbiNoEscape.same) (by kernel_rfl)]
  rw [Lib.run_noEscape]
  simp only [Result.andThen]
  rw [Oper.upon_value]
  go_wp2
  rw [Lib.run_from_unsafe w ⟨b, 0, none⟩ Tryz.underlying138 Tryz.underlying95 hj hsh (by kernel_rfl)]
  simp only [Result.andThen]
  rw [Oper.upon_value]
  go_wp2
  go_end0
  exact ⟨rfl, rfl⟩


set_option maxRecDepth 100000 in
set_option maxHeartbeats 1000000 in
theorem copy_any (b : Nat) (T : Nat → Prop) (Z : List Int) (w : World) (h : Bl b T Z w) :
    Calls Tryz.prog 73 #[.pointer (some ⟨b, 0, none⟩)] w fun e w' => e = .returned (.tuple #[]) ∧ (∃ v, Blk w' b 98 #[.pointer (some ⟨b, 0, none⟩), v] ∧ w'.ownsRow (b + 1) 5 1 v Z.length (Z.map (Value.int .u8)) ∧ (∀ j, T j ↔ (j = b ∨ v.ownBlock = some j)) ∧ (Z = [] → v = .slice none 0 0)) ∧ Below b w w' ∧ Rnd T T w w' := by
  obtain ⟨p, v, hb, ho, hp, hT, hz⟩ := h
  have hbT : T b := (hT b).2 (.inl rfl)
  rcases hp with rfl | rfl
  · have c0 : w.cell? ⟨b, 0, none⟩ = some (.pointer none) := by simpa using hb.cell 0
    refine (copy_fresh b w c0 (by unfold Blk at hb; simp [World.shape?, hb]) (hb.frozen 0)).mono ?_
    rintro e w' ⟨rfl, rfl⟩
    have hb' := hb.set 0 (.pointer (some ⟨b, 0, none⟩))
    refine ⟨rfl, ⟨v, by simpa using hb', own_same ho (fun g hg => Below.heap_setCell w _ _ g (fun e => by have := (ho.lt g hg).1; simp at e; omega)), hT, hz⟩, (Below.refl b w).setCell (p := ⟨b, 0, none⟩) (Nat.le_refl _) _, ?_⟩
    exact ⟨by simp [World.setCell], fun k _ hk => Below.heap_setCell w _ _ k (fun e => hk (by simp at e; exact e ▸ hbT)), fun _ h => .inl h⟩
  · have c0 : w.cell? ⟨b, 0, none⟩ = some (.pointer (some ⟨b, 0, none⟩)) := by simpa using hb.cell 0
    refine (copy_used b w c0).mono ?_
    rintro e w' ⟨rfl, rfl⟩
    exact ⟨rfl, ⟨v, hb, ho, hT, hz⟩, Below.refl _ _, Rnd.refl _ _⟩

theorem infoU8 : (Tryz.prog.info? 5).map (fun i => (i.zero, i.size, i.bytes)) = some (some (.int .u8 0), 1, 1) := by kernel_rfl

set_option maxRecDepth 100000 in
set_option maxHeartbeats 1000000 in
/-- WriteString. -/
theorem write_any (b : Nat) (T : Nat → Prop) (Z : List Int) (s : ByteArray) (w : World) (h : Bl b T Z w) (hl : Z.length + s.size ≤ 70000000000) :
    Calls Tryz.prog 54 #[.pointer (some ⟨b, 0, none⟩), .string s] w fun e w' => (∃ r, e = .returned (.tuple #[.int .i64 s.size, r])) ∧ (∃ T', Bl b T' (Z ++ sb s) w' ∧ Rnd T T' w w') ∧ Below b w w' := by
  obtain ⟨i0, hi, hz0, hz1, hz2⟩ := info_parts infoU8
  have C := Lib.hid (copy_any b T Z w h)
  have hTl := Lib.hid h.lt
  clear h
  go_enter Tryz.func54, Tryz.ntmps54
  go_wp2_with fail
  refine C.out.mono ?_
  rintro e w1 ⟨rfl, ⟨v, hb1, ho1, hT1, hz⟩, hB1, hR1⟩
  have HZ := Lib.hid hz
  have c0 : w1.cell? ⟨b, 0, none⟩ = some (.pointer (some ⟨b, 0, none⟩)) := by simpa using hb1.cell 0
  have c1 : w1.cell? ⟨b, 1, none⟩ = some v := by simpa using hb1.cell 1
  have HB1 := Lib.hid hb1; have HT1 := Lib.hid hT1; have HBw := Lib.hid hB1; have HR1 := Lib.hid hR1; have HO1 := Lib.hid ho1
  have hlb : b + 1 ≤ w1.heap.size := hb1.lt
  clear hb1 hT1 hB1 hR1 ho1 C hz
  go_wp2_with (at_builtin; refine wpList_append_str_at rfl _ _ 96 9 rfl (b + 1) 5 i0 Tryz.underlying96 Tryz.underlying9 hi hz0 hz1 hz2 _ _ _ rfl HO1.out s rfl ?c3 ?c4 ?c5 ?_)
  case c3 => unfold maxLen; omega
  case c4 => omega
  case c5 => exact hlb
  intro v' w2 hown' hgrow hat hnil
  have hb2 : Blk w2 b 98 #[.pointer (some ⟨b, 0, none⟩), v] := HB1.out.same (hgrow.block b (by omega) (fun e => by have := (HO1.out.lt b e.symm).1; omega))
  have d0 : w2.cell? ⟨b, 0, none⟩ = some (.pointer (some ⟨b, 0, none⟩)) := by simpa using hb2.cell 0
  have d1 : w2.cell? ⟨b, 1, none⟩ = some v := by simpa using hb2.cell 1
  have f1 : w2.frozen? ⟨b, 1, none⟩ = false := hb2.frozen 1
  obtain ⟨ao, cp, rfl⟩ := own_slice hown'
  have HB2 := Lib.hid hb2; have HO := Lib.hid hown'; have HG := Lib.hid hgrow; have HAT := Lib.hid hat; have HNL := Lib.hid hnil
  clear hb2 hown' hgrow hat hnil c0 c1
  go_wp2
  go_ret2
  refine ⟨⟨_, rfl⟩, ⟨fun j => j = b ∨ (Value.slice ao (Z.length + s.size) cp).ownBlock = some j, ⟨_, _, by simpa using HB2.out.set 1 (.slice ao (Z.length + s.size) cp), ?_, .inr rfl, fun j => Iff.rfl, fun hz0 => HNL.out.2 ⟨HZ.out (List.append_eq_nil_iff.1 hz0).1, by rw [← bs_sb s, (List.append_eq_nil_iff.1 hz0).2]; rfl⟩⟩, ?_⟩, ?_⟩
  · have h1 := own_same (C := w2.setCell ⟨b, 1, none⟩ (.slice ao (Z.length + s.size) cp)) HO.out (fun g hg => Below.heap_setCell w2 _ _ g (fun e => by have := (HO.out.lt g hg).1; simp at e; omega))
    rw [List.length_append, sb_len, List.map_append, ← str_cells]
    exact h1
  · refine ⟨by have := HR1.out.size; have := HG.out.size; simp [World.setCell]; omega, fun k hk hkT => ?_, fun k hk => ?_⟩
    · rw [Below.heap_setCell w2 _ _ k (fun e => hkT (by simp at e; exact (HT1.out k).2 (.inl e))), HG.out.block k (by have := HR1.out.size; omega) (fun e => hkT ((HT1.out k).2 (.inr e.symm)))]
      exact HR1.out.block k hk hkT
    · rcases hk with rfl | hk
      · exact .inl ((HT1.out k).2 (.inl rfl))
      · rcases HAT.out k hk with h | h
        · exact .inl ((HT1.out k).2 (.inr h))
        · exact .inr (by have := HR1.out.size; omega)
  · exact (HBw.out.grown HG.out (by omega) (fun k hk => by have := (HO1.out.lt k hk).1; omega)).setCell (p := ⟨b, 1, none⟩) (Nat.le_refl _) _

theorem cellsU8 : Tryz.prog.cellsOf 5 = 1 := by kernel_rfl

theorem rnd_freeze {T : Nat → Prop} (w : World) (g n : Nat) (hT : T g) : Rnd T T w (w.drew.freeze ⟨g, 0, none⟩ n) := by
  unfold World.freeze
  split
  · exact Rnd.of_below (Below.refl _ _).drew
  · refine ⟨by simp, fun k _ hk => ?_, fun _ h => .inl h⟩
    simp only [Array.getElem?_modify]
    rw [if_neg (fun e => hk (by rw [← e]; exact hT))]
    rfl

set_option maxRecDepth 100000 in
set_option maxHeartbeats 2000000 in
/-- String. -/
theorem string_any (b : Nat) (T : Nat → Prop) (Z : List Int) (w : World) (h : Bl b T Z w) (hz : Byt Z) (hl : Z.length ≤ 70000000000) :
    Calls Tryz.prog 55 #[.pointer (some ⟨b, 0, none⟩)] w fun e w' => e = .returned (.string (bs Z)) ∧ Below b w w' ∧ Rnd T T w w' := by
  obtain ⟨p, v, hb, ho, hp, hT, hnil⟩ := h
  have hmx : Tryz.prog.follows .mixedOrders = true := by kernel_rfl
  by_cases h0 : Z = []
  · have hv := hnil h0
    subst hv h0
    have c1 : w.cell? ⟨b, 1, none⟩ = some (.slice none 0 0) := by simpa using hb.cell 1
    have HF := Lib.hid (And.intro ((Below.refl b w).drew) (Rnd.of_below (T := T) (Below.refl w.heap.size w).drew))
    have hSD : (Builtin.unsafeSliceData_ #[96] 122 #[.slice none 0 0]).run Tryz.prog w.drew = .ok (.pointer none) w.drew := rfl
    have hUS := Lib.run_unsafeString_none (P := Tryz.prog) w.drew 122 3 9 none
    clear ho hT hnil hb hp hz
    go_enter Tryz.func55, Tryz.ntmps55
    go_wp2
    go_region_o
    all_goals (go_wp2; go_ret; exact ⟨rfl, HF.out⟩)
  · obtain ⟨l, hle⟩ : ∃ l, Z.map (fun c => UInt8.ofNat c.toNat) = l := ⟨_, rfl⟩
    have hll : l.length = Z.length := by rw [← hle]; simp
    have hl0 : l ≠ [] := fun e => h0 (by have : Z.length = 0 := by rw [← hll, e]; rfl
                                         exact List.eq_nil_of_length_eq_zero this)
    have hl1 : l.length ≠ 0 := by simpa using hl0
    obtain ⟨g, cap, cur, rfl, hbg, hg, hnc, hcm, hcs, htake⟩ : ∃ g cap cur, v = .slice (some ⟨g, 0, none⟩) Z.length cap ∧ b + 1 ≤ g ∧ w.heap[g]? = some (.cells cur 5 (0, 0)) ∧ Z.length ≤ cap ∧ cap ≤ maxLen ∧ cur.size = cap * 1 ∧ True := by
      rcases ho.2 with ⟨_, hz⟩ | ⟨g, cap, cur, hv, r1, r2, r3, r4, r5, _⟩
      · exact absurd (List.eq_nil_of_length_eq_zero hz) h0
      · exact ⟨g, cap, cur, hv, r1, r2, r3, r4, r5, trivial⟩
    have c1 : w.cell? ⟨b, 1, none⟩ = some (.slice (some ⟨g, 0, none⟩) l.length cap) := by rw [hll]; simpa using hb.cell 1
    have hSD : (Builtin.unsafeSliceData_ #[96] 122 #[.slice (some ⟨g, 0, none⟩) l.length cap]).run Tryz.prog w.drew = .ok (.pointer (some ⟨g, 0, none⟩)) w.drew :=
      Lib.run_unsafeSliceData_row _ _ _ _ _ _ (by omega)
    have hUS : (Builtin.unsafeString_ #[122, 3] 9 #[.pointer (some ⟨g, 0, none⟩), .int .i64 l.length]).run Tryz.prog w.drew = .ok (.string ⟨l.toArray⟩) (w.drew.freeze ⟨g, 0, none⟩ l.length) := by
      refine Lib.run_unsafeString_row w.drew 122 3 9 5 Tryz.underlying122 cellsU8 g cur.size (by have hg' : w.drew.heap[g]? = some (.cells cur 5 (0, 0)) := hg; simp [World.shape?, hg']) l hl0 (by omega) (by unfold maxLen at hcm; omega) ?_
      intro j x hx
      have hj : j < Z.length := by rw [← hll]; exact (List.getElem?_eq_some_iff.1 hx).1
      have := ho.cells (g := g) rfl j (.int .u8 x.toNat) (by
        rw [← hle, List.getElem?_map] at hx
        rw [List.getElem?_map]
        rw [List.getElem?_eq_getElem hj] at hx ⊢
        simp only [Option.map_some, Option.some.injEq] at hx ⊢
        have hb := hz _ (List.getElem_mem hj)
        rw [← hx]
        simp only [UInt8.toNat_ofNat']
        congr 1
        omega)
      exact this
    have hbs : bs Z = ⟨l.toArray⟩ := by unfold bs; rw [hle]
    rw [hbs]
    have HF := Lib.hid (And.intro (Lib.below_freeze (Below.drew (Below.refl b w)) (p := ⟨g, 0, none⟩) (by show b ≤ g; omega) l.length) (rnd_freeze (T := T) w g l.length ((hT g).2 (.inr rfl))))
    rw [hll] at hSD hUS HF c1
    clear ho hT hnil hb hp hz hbs hg hle hcs htake hll hl0 hl1
    go_enter Tryz.func55, Tryz.ntmps55
    go_wp2
    go_region_o
    all_goals (go_wp2; go_ret; exact ⟨rfl, HF.out⟩)

end Go.Proofs.YtkehgoailhpenaaGreat

/- The contract of the program's Apply. Conditions: texts of at most 10000000 bytes, lists of at most 1000 edits. -/
namespace Go.Proofs.YtkehgoailhpenaaGreat
open Go.RowKit Go.Shelf
set_option linter.unusedVariables false
attribute [local go_sem] Oper.semAt_some

/-- The bytes of parts. -/
def ptx (l : List Pc) : List Int := l.flatMap fun p => sb p.x
theorem ptx_byt (l : List Pc) : Byt (ptx l) := by
  intro c hc
  obtain ⟨p, _, h⟩ := List.mem_flatMap.1 hc
  exact sb_byt _ c h
theorem ptx_take {l : List Pc} {k : Nat} (h : k < l.length) : ptx (l.take (k + 1)) = ptx (l.take k) ++ sb (pg l k).x := by
  unfold ptx pg
  rw [List.take_add_one, List.getElem?_eq_getElem h, List.flatMap_append]
  simp
theorem ptx_prl (s : ByteArray) : ∀ (es : List Er) (f q : Nat), (∀ e ∈ es, 0 ≤ e.f) → ptx (prl s f q es) = appl (sb s) f (ees es) := by
  intro es
  induction es with
  | nil =>
    intro f q _
    simp only [prl, ptx, List.flatMap_cons, List.flatMap_nil, List.append_nil, ees, List.map_nil, appl]
    rw [sb_cut, List.take_of_length_le (by rw [List.length_drop, sb_len]; exact Nat.le_refl _)]
  | cons e es ih =>
    intro f q h
    simp only [prl, ptx, List.flatMap_cons]
    rw [show List.flatMap (fun p => sb p.x) (prl s e.t.toNat (q + (e.f.toNat - f) + e.x.size) es) = appl (sb s) e.t.toNat (ees es) from ih _ _ (fun x hx => h x (by simp [hx]))]
    rw [sb_cut, ees_cons]
    rfl
theorem ptx_len {s : ByteArray} : ∀ {es : List Er} {f q : Nat}, (∀ e ∈ es, e.x.size ≤ 100000) → ∀ l, l <+: prl s f q es → (ptx l).length ≤ (es.length + 1) * (s.size + 100000) := by
  intro es
  induction es with
  | nil =>
    intro f q _ l hl
    have h1 : (ptx l).length ≤ (ptx (prl s f q [])).length := by
      obtain ⟨r, hr⟩ := hl
      rw [← hr]; simp [ptx]
    have h2 : (ptx (prl s f q [])).length ≤ s.size := by simp [ptx, prl, sb_len]
    simp only [List.length_nil]; omega
  | cons e es ih =>
    intro f q h l hl
    have hx := h e (by simp)
    obtain ⟨r, hr⟩ := hl
    have h0 : (ptx l).length ≤ (ptx (prl s f q (e :: es))).length := by rw [← hr]; simp [ptx]
    have h1 : (ptx (prl s f q (e :: es))).length ≤ s.size + 100000 + (ptx (prl s e.t.toNat (q + (e.f.toNat - f) + e.x.size) es)).length := by
      simp [ptx, prl, sb_len]; omega
    have h2 := ih (f := e.t.toNat) (q := q + (e.f.toNat - f) + e.x.size) (fun x hx => h x (by simp [hx])) _ (List.prefix_refl _)
    simp only [List.length_cons]
    rw [Nat.add_mul (es.length + 1) 1]
    omega

set_option maxRecDepth 100000 in
set_option maxHeartbeats 1000000 in
theorem papply_any (s : ByteArray) (a : Option Addr) (cap : Nat) (es : List Er) (w : World) (hs : s.size ≤ 10000000) (hn : es.length ≤ 1000) (hfit : ∀ e ∈ es, e.Fit) (hS : ES w.heap.size w a cap es) :
    Calls Tryz.prog 25 #[.string s, .slice a es.length cap] w fun e w' => e = .returned (.tuple #[.string (apS s es), .int .i64 (vErr (s.size : Int) es)]) ∧ Below w.heap.size w w' := by
  have CV := Lib.hid (pvalid_any s a cap es w hs hn hfit hS)
  have HS := Lib.hid hS; have HF := Lib.hid hfit
  obtain ⟨n, hn'⟩ : ∃ n, es.length = n := ⟨_, rfl⟩
  rw [hn'] at CV hn ⊢
  by_cases hv : vErr (s.size : Int) es = 0
  · have HV := Lib.hid hv
    rw [hv] at CV ⊢
    have HN := Lib.hid hn'
    clear hv hn' hS hfit
    refine (callsIn_wide (n := 0)).1 ?_
    refine callsIn_of_wp_marks Tryz.func25 rfl trivial ?_ rfl
    simp only [Tryz.ntmps25, List.size_toArray, List.length_cons, List.length_nil, Nat.reduceAdd, Nat.reduceSub, Array.replicate_succ, Array.replicate_zero, List.push_toArray, List.append_toArray, List.nil_append, List.cons_append]
    gi_wp2_with (first | (refine ⟨trivial, rfl, ?_⟩; gi_at_call 52; refine (callsIn_wide.2 CV.out).mono ?_; rintro e w1 ⟨rfl, hb1⟩) | (refine ⟨trivial, rfl, ?_⟩; gi_at_call 53; refine (callsIn_wide.2 (parts_any _ _ _ _ _)).mono ?_; rintro e w' ⟨rfl, rfl⟩))
    obtain ⟨b0, hb0⟩ : ∃ b, w1.heap.size = b := ⟨_, rfl⟩
    obtain ⟨W0, hW0⟩ : ∃ W, ((w1.alloc (.cells #[.pointer none, .slice none 0 0] 98)).alloc (.cells #[.string s] 9)).alloc (.cells #[.slice a n cap] 38) = W := ⟨_, rfl⟩
    have hs0 : W0.heap.size = b0 + 3 := by rw [← hW0, ← hb0]; simp
    have hB0 : Below b0 w1 W0 := by rw [← hW0, ← hb0]; exact (((Below.refl _ _).alloc (Nat.le_refl _) _).alloc (by simp) _).alloc (by simp; omega) _
    have bB : Blk W0 b0 98 #[.pointer none, .slice none 0 0] := by rw [← hW0, ← hb0]; exact ((Blk.new _ _ _).alloc _).alloc _
    have bS : Boxed W0 (b0 + 1) 9 (.string s) := by
      rw [← hW0, ← hb0]
      have := Boxed.new (w1.alloc (.cells #[.pointer none, .slice none 0 0] 98)) 9 (.string s)
      rw [World.size_alloc] at this; exact this.alloc _
    have bL : Boxed W0 (b0 + 2) 38 (.slice a n cap) := by
      rw [← hW0, ← hb0]
      have := Boxed.new ((w1.alloc (.cells #[.pointer none, .slice none 0 0] 98)).alloc (.cells #[.string s] 9)) 38 (.slice a n cap)
      rw [World.size_alloc, World.size_alloc] at this; exact this
    rw [hW0, hb0]
    have hwb : w.heap.size ≤ b0 := by rw [← hb0]; exact hb1.size
    have hbw0 : Below w.heap.size w W0 := hb1.trans (hB0.mono hwb)
    have hBl0 : Bl b0 (fun j => j = b0) (ptx ((prl s 0 0 es).take 0)) W0 := ⟨_, _, bB, World.ownsRow_nil _ _ _ _, .inl rfl, fun j => by simp [Value.ownBlock], fun _ => rfl⟩
    obtain ⟨hlim, hvld, hbd⟩ := vErr_ok HV.out
    have hxs : ∀ e ∈ es, e.x.size ≤ 100000 := fun e he => (HF.out e he).x
    have hnl := HN.out
    have hG := part_giv s (b0 + 2) (b0 + 1) a cap es W0 hs HV.out hxs (by rw [hnl]; exact bL) bS ((HS.out.on hbw0))
    have hRa : ∀ k, (k = b0 + 1 ∨ 0 < es.length ∧ ∃ off, a = some ⟨k, off, none⟩) → k ≠ b0 := by
      rintro k (rfl | ⟨hp, off, rfl⟩)
      · omega
      · rcases HS.out.cells with h0 | ⟨g, o, hg, hlt, _⟩
        · omega
        · cases hg; omega
    refine wpIn_giv (gf := 71) (lb := #[.pointer (some ⟨b0 + 1 + 1, 0, none⟩), .pointer (some ⟨b0 + 1, 0, none⟩)]) rfl (enters_of Tryz.func71 (by kernel_rfl) rfl)
      hG (fun _ => rfl)
      (fun k T A => Bl b0 T (ptx ((prl s 0 0 es).take k)) A ∧ Below w.heap.size w A)
      (fun k T A C hi ho => ⟨hi.1.oth ho, hi.2.trans (ho.below (by omega) hi.2.size)⟩)
      (fun k T A hi => hi.1.lt)
      (fun j => j = b0) (fun k hk => ⟨by omega, fun h => hRa k h hk⟩) ⟨hBl0, hbw0⟩
      (fun k B => { tmps := #[.string s, .slice a n cap, undef, undef, .string ⟨#[]⟩, .int .i64 0, .int .i64 0, .pointer (some ⟨b0, 0, none⟩), .pointer (some ⟨B, 0, none⟩), .string s, .slice a n cap, .int .i64 0, .int .i64 0, .bool false, undef,
        .string s, .slice a n cap, .func (.func 71) #[] #[.pointer (some ⟨b0 + 1 + 1, 0, none⟩), .pointer (some ⟨b0 + 1, 0, none⟩)], (pg (prl s 0 0 es) k).val, undef, undef, undef, undef], defers := [] })
      (fun k => (pg (prl s 0 0 es) k).cells) 103 ?assign ?body ?done
    case assign =>
      intro l' k A K hK
      simp only [Pc.val, Pc.cells] at hK ⊢
      gi_wp2
      exact hK
    case body =>
      rintro l' k T B A hk hl hlB hBk hTB hl' hTl ⟨hBl, hBA⟩
      have hkl : k < (prl s 0 0 es).length := by rw [prl_len]; exact hk
      obtain ⟨p, hp⟩ : ∃ p, pg (prl s 0 0 es) k = p := ⟨_, rfl⟩
      simp only [hp] at hBk ⊢
      have c3 : A.cell? ⟨B, 3, none⟩ = some (.string p.x) := by simpa [Pc.cells] using hBk.cell 3
      have hxl : (ptx ((prl s 0 0 es).take k)).length + p.x.size ≤ 70000000000 := by
        have h1 := ptx_len (s := s) (f := 0) (q := 0) hxs _ (List.take_prefix (k + 1) (prl s 0 0 es))
        rw [ptx_take hkl, hp, List.length_append, sb_len] at h1
        have h2 : (es.length + 1) * (s.size + 100000) ≤ 65 * 10100000 := Nat.mul_le_mul (by omega) (by omega)
        omega
      have CW := Lib.hid (write_any b0 T _ p.x A hBl hxl)
      have HBA := Lib.hid hBA; have HP := Lib.hid hp; have HT := Lib.hid (ptx_take hkl)
      clear hBk hBl hBA hxl hp
      gi_wp2_with (refine ⟨trivial, rfl, ?_⟩; gi_at_call 54; refine (CallsIn.inRound l' (callsIn_wide.2 CW.out)).mono ?_; rintro e w' ⟨⟨r, rfl⟩, ⟨T', hb', hr'⟩, hbw⟩)
      refine ⟨T', ⟨?_, HBA.out.trans (hbw.mono hwb)⟩, hr'⟩
      rw [HT.out, HP.out]
      exact hb'
    case done =>
      rintro T A hA ⟨hBl, hBA⟩ hTw hK
      have htx : ptx ((prl s 0 0 es).take (2 * es.length + 1)) = appl (sb s) 0 (ees es) := by
        rw [List.take_of_length_le (by rw [prl_len]; exact Nat.le_refl _)]
        exact ptx_prl s es 0 0 (fun e he => (hbd e he).1)
      have hln : (ptx ((prl s 0 0 es).take (2 * es.length + 1))).length ≤ 70000000000 := by
        have h1 := ptx_len (s := s) (f := 0) (q := 0) hxs _ (List.take_prefix (2 * es.length + 1) (prl s 0 0 es))
        have h2 : (es.length + 1) * (s.size + 100000) ≤ 65 * 10100000 := Nat.mul_le_mul (by omega) (by omega)
        omega
      have CS := string_any b0 T _ A hBl (ptx_byt _) hln
      rw [htx] at CS
      have hap : bs (appl (sb s) 0 (ees es)) = apS s es := by unfold apS; rw [if_pos HV.out]
      rw [hap] at CS
      have CS := Lib.hid CS; have HBA := Lib.hid hBA; have HKK := Lib.hid hK
      clear hBl hBA htx hln hap hK
      gi_wp2_with (refine ⟨trivial, rfl, ?_⟩; gi_at_call 55; refine (callsIn_wide.2 CS.out).mono ?_; rintro e w' ⟨rfl, hbw, hrw⟩)
      have hK2 : w'.heap[W0.heap.size]? = some (.deferred (some [])) := (hrw.block _ (by omega) hTw).trans HKK.out
      have hF : Below w.heap.size w (w'.putObj W0.heap.size (.deferred none)) := (HBA.out.trans (hbw.mono hwb)).trans ⟨rfl, rfl, rfl, by simp, fun k hk => World.putObj_heap_other (by omega)⟩
      rw [hs0] at hK2 hF
      refine ⟨by simp, .inl ⟨_, _, rfl, run_takeDeferred hK2, ?_⟩⟩
      exact ⟨_, results_tmp2 rfl _ _ _, rfl, hF⟩
  · have hap : apS s es = ⟨#[]⟩ := apS_bad hv
    have HV := Lib.hid hv
    have hq : (vErr (s.size : Int) es != 0) = true := by simp [hv]
    generalize vErr (s.size : Int) es = er at CV HV hq hv ⊢
    rw [hap]
    clear hv hn' hS hfit hap
    go_enter Tryz.func25, Tryz.ntmps25
    go_wp2_with fail
    refine CV.out.mono ?_
    rintro e w1 ⟨rfl, hb1⟩
    go_wp2
    go_ret2
    exact ⟨rfl, hb1⟩

end Go.Proofs.YtkehgoailhpenaaGreat

/- The mathematics of the program's Compose: what both lists keep, and the edits around it. It has no conditions. -/
namespace Go.Proofs.YtkehgoailhpenaaGreat
open Go.RowKit Go.Shelf
set_option linter.unusedVariables false

/-- A piece of a text, with its sources. -/
def pcs (S : List Int) (k m : Nat) : List (Int × Option Nat) := (((S.drop k).take m).zipIdx k).map fun z => (z.1, some z.2)
theorem pcs_at {S : List Int} {k m i : Nat} : (pcs S k m)[i]? = if i < m then (S[k + i]?).map (fun c => (c, some (k + i))) else none := by
  unfold pcs
  rw [piece_at, List.getElem?_take]
  split
  · rw [List.getElem?_drop]
  · rfl
theorem pcs_len {S : List Int} {k m : Nat} (h : k + m ≤ S.length) : (pcs S k m).length = m := by
  unfold pcs
  rw [List.length_map, List.length_zipIdx, List.length_take, List.length_drop]
  omega
theorem pcs_zero (S : List Int) (k : Nat) : pcs S k 0 = [] := by simp [pcs]
theorem pcs_slice {S : List Int} {k m i j : Nat} (h : i + j ≤ m) : ((pcs S k m).drop i).take j = pcs S (k + i) j := by
  refine List.ext_getElem? fun a => ?_
  rw [List.getElem?_take, List.getElem?_drop, pcs_at, pcs_at]
  by_cases ha : a < j
  · rw [if_pos ha, if_pos ha, if_pos (by omega), show k + (i + a) = k + i + a by omega]
  · rw [if_neg ha, if_neg ha]
theorem pcs_cons {S : List Int} {k m : Nat} (h : k < S.length) : pcs S k (m + 1) = (S[k], some k) :: pcs S (k + 1) m := by
  unfold pcs
  rw [List.drop_eq_getElem_cons h, List.take_succ_cons, List.zipIdx_cons, List.map_cons]
/-- New bytes alone. -/
def AllNew (z : List (Int × Option Nat)) : Prop := ∀ y ∈ z, y.2 = none
theorem AllNew.tail {y : Int × Option Nat} {z : List (Int × Option Nat)} (h : AllNew (y :: z)) : y.2 = none ∧ AllNew z := ⟨h y (by simp), fun x hx => h x (by simp [hx])⟩
theorem AllNew.append {a b : List (Int × Option Nat)} (h : AllNew a) (k : AllNew b) : AllNew (a ++ b) := fun y hy => (List.mem_append.1 hy).elim (h y) (k y)
theorem AllNew.slice {z : List (Int × Option Nat)} (h : AllNew z) (i j : Nat) : AllNew ((z.drop i).take j) := fun y hy => h y (List.mem_of_mem_drop (List.mem_of_mem_take hy))
theorem all_new (x : List Int) : AllNew (x.map fun c => ((c, none) : Int × Option Nat)) := by
  intro y hy
  obtain ⟨c, _, rfl⟩ := List.mem_map.1 hy
  rfl
theorem canon_new {n a : Nat} {z : List (Int × Option Nat)} : ∀ {N : List (Int × Option Nat)} {x : List Int}, AllNew N → canon n a x (N ++ z) = canon n a (x ++ N.map Prod.fst) z := by
  intro N
  induction N with
  | nil => intro x _; simp
  | cons y N ih =>
    intro x h
    obtain ⟨c, k⟩ := y
    obtain ⟨h1, h2⟩ := h.tail
    simp only at h1
    subst h1
    simp only [List.cons_append, canon]
    rw [ih h2]
    simp
theorem canon_go {S : List Int} {n : Nat} {z : List (Int × Option Nat)} : ∀ {m k : Nat}, k + m ≤ S.length → canon n k [] (pcs S k m ++ z) = canon n (k + m) [] z := by
  intro m
  induction m with
  | zero => intro k _; rw [pcs_zero]; rfl
  | succ m ih =>
    intro k h
    rw [pcs_cons (by omega)]
    simp only [List.cons_append, canon]
    rw [if_neg (by simp), ih (by omega), show k + 1 + m = k + (m + 1) by omega]
theorem canon_piece {S : List Int} {n a k m : Nat} {x : List Int} {z : List (Int × Option Nat)} (hm : 0 < m) (h : k + m ≤ S.length) :
    canon n a x (pcs S k m ++ z) = (if a < k ∨ x ≠ [] then [⟨a, k, x⟩] else []) ++ canon n (k + m) [] z := by
  obtain ⟨m, rfl⟩ : ∃ m', m = m' + 1 := ⟨m - 1, by omega⟩
  rw [pcs_cons (by omega)]
  simp only [List.cons_append, canon]
  rw [canon_go (by omega), show k + 1 + m = k + (m + 1) by omega]
  split <;> rfl

/-- A piece that is kept: it lies at f of the old text and at q of the new one, and has m bytes. -/
structure Kp where
  f : Nat
  m : Nat
  q : Nat
def Kp.pc (s : ByteArray) (p : Kp) : Pc := ⟨p.f, ((p.f + p.m : Nat) : Int), p.q, s.extract p.f (p.f + p.m), true⟩
/-- A text with sources, from index q on: new bytes and pieces in turn. -/
def Dcm (S : List Int) : Nat → List (Int × Option Nat) → List Kp → Prop
  | q, z, [] => AllNew z
  | q, z, p :: K => ∃ N z' : List (Int × Option Nat), z = N ++ (pcs S p.f p.m ++ z') ∧ AllNew N ∧ p.q = q + N.length ∧ 0 < p.m ∧ p.f + p.m ≤ S.length ∧ Dcm S (p.q + p.m) z' K
theorem Dcm.new {S : List Int} {q : Nat} {z N : List (Int × Option Nat)} {K : List Kp} (hN : AllNew N) (h : Dcm S (q + N.length) z K) : Dcm S q (N ++ z) K := by
  cases K with
  | nil => exact hN.append h
  | cons p K =>
    obtain ⟨M, z', h1, h2, h3, h4⟩ := h
    exact ⟨N ++ M, z', by rw [h1, List.append_assoc], hN.append h2, by rw [h3, List.length_append]; omega, h4⟩
theorem Dcm.append {S : List Int} {z' : List (Int × Option Nat)} {K' : List Kp} : ∀ {K : List Kp} {q : Nat} {z : List (Int × Option Nat)}, Dcm S q z K → Dcm S (q + z.length) z' K' → Dcm S q (z ++ z') (K ++ K') := by
  intro K
  induction K with
  | nil => intro q z h h'; exact Dcm.new h h'
  | cons p K ih =>
    intro q z h h'
    obtain ⟨N, y, h1, h2, h3, h4, h5, h6⟩ := h
    refine ⟨N, y ++ z', by rw [h1]; simp, h2, h3, h4, h5, ih h6 ?_⟩
    rw [h1, List.length_append, List.length_append, pcs_len h5] at h'
    rwa [show p.q + p.m + y.length = q + (N.length + (p.m + y.length)) by omega]
/-- Pieces in order, in both texts. -/
def Ordk (n m : Nat) : Nat → Nat → List Kp → Prop
  | f, q, [] => f ≤ n ∧ q ≤ m
  | f, q, p :: K => f ≤ p.f ∧ q ≤ p.q ∧ p.f + p.m ≤ n ∧ p.q + p.m ≤ m ∧ Ordk n m (p.f + p.m) (p.q + p.m) K
theorem src_skip {S : List Int} : ∀ {N : List (Int × Option Nat)} {a : Nat} {z : List (Int × Option Nat)}, AllNew N → Src S a (N ++ z) → Src S a z := by
  intro N
  induction N with
  | nil => intro a z _ h; exact h
  | cons y N ih =>
    intro a z hN h
    obtain ⟨c, k⟩ := y
    obtain ⟨h1, h2⟩ := hN.tail
    simp only at h1
    subst h1
    exact ih h2 h
theorem src_pcs {S : List Int} {z : List (Int × Option Nat)} : ∀ {m k a : Nat}, k + m ≤ S.length → 0 < m → Src S a (pcs S k m ++ z) → a ≤ k ∧ Src S (k + m) z := by
  intro m
  induction m with
  | zero => intro k a _ h; omega
  | succ m ih =>
    intro k a hk _ h
    rw [pcs_cons (by omega)] at h
    obtain ⟨h1, _, h3⟩ := h
    refine ⟨h1, ?_⟩
    by_cases hm : m = 0
    · subst hm; rw [pcs_zero] at h3; exact h3
    · have := (ih (by omega) (by omega) h3).2
      rwa [show k + (m + 1) = k + 1 + m by omega]
theorem dcm_ord {S : List Int} {m : Nat} : ∀ {K : List Kp} {f q : Nat} {z : List (Int × Option Nat)}, Src S f z → Dcm S q z K → q + z.length = m → Ordk S.length m f q K := by
  intro K
  induction K with
  | nil => intro f q z hs _ hm; exact ⟨hs.le, by omega⟩
  | cons p K ih =>
    intro f q z hs hd hm
    obtain ⟨N, y, h1, h2, h3, h4, h5, h6⟩ := hd
    rw [h1] at hs hm
    rw [List.length_append, List.length_append, pcs_len h5] at hm
    obtain ⟨g1, g2⟩ := src_pcs h5 h4 (src_skip h2 hs)
    exact ⟨g1, by omega, h5, by omega, ih g2 h6 (by omega)⟩

/-- One edit for what is between two pieces, if it differs. -/
def gap (s u : ByteArray) (f t q r : Nat) : List Er := if u.extract q r = s.extract f t then [] else [⟨f, t, u.extract q r⟩]
def arl (s u : ByteArray) (f q : Nat) : List Kp → List Er
  | [] => gap s u f s.size q u.size
  | p :: K => gap s u f p.f q p.q ++ arl s u (p.f + p.m) (p.q + p.m) K
theorem gap_ees (s u : ByteArray) (f t q r : Nat) (hf : f ≤ t) (ht : t ≤ s.size) {x : List Int} (hx : ((sb u).drop q).take (r - q) = x) :
    ees (gap s u f t q r) = (if f < t ∨ x ≠ [] then [(⟨f, t, x⟩ : Ee)] else []).filter (Chg (sb s)) := by
  have hu : sb (u.extract q r) = x := by rw [sb_cut, hx]
  have hs : sb (s.extract f t) = ((sb s).drop f).take (t - f) := sb_cut s f t
  unfold gap
  by_cases he : u.extract q r = s.extract f t
  · rw [if_pos he]
    have h1 : ((sb s).drop f).take (t - f) = x := by rw [← hs, ← he, hu]
    split
    · rw [List.filter_cons, if_neg (by unfold Chg; simp [h1])]; rfl
    · rfl
  · rw [if_neg he]
    have h1 : ((sb s).drop f).take (t - f) ≠ x := fun e => he (sb_inj (by rw [hs, hu, e]))
    rw [if_pos ?_]
    · rw [List.filter_cons, if_pos (by unfold Chg; simp [h1])]
      simp only [ees, List.map_cons, List.map_nil, List.filter_nil, Er.ee, hu, Int.toNat_natCast]
    · by_cases hft : f < t
      · exact .inl hft
      · refine .inr fun hx0 => h1 ?_
        rw [hx0, show t - f = 0 by omega, List.take_zero]
theorem ees_append (a b : List Er) : ees (a ++ b) = ees a ++ ees b := by simp [ees]
theorem arl_canon {s u : ByteArray} : ∀ {K : List Kp} {f q : Nat} {z : List (Int × Option Nat)}, z.map Prod.fst = (sb u).drop q → Dcm (sb s) q z K → Ordk s.size u.size f q K → ees (arl s u f q K) = (canon s.size f [] z).filter (Chg (sb s)) := by
  intro K
  induction K with
  | nil =>
    intro f q z hz hd ho
    have hd' : AllNew z := hd
    have h1 : canon s.size f [] z = canon s.size f (z.map Prod.fst) [] := by have := canon_new (n := s.size) (a := f) (x := []) (z := []) hd'; simpa using this
    obtain ⟨o1, o2⟩ := ho
    rw [h1]
    simp only [arl, canon]
    refine gap_ees s u f s.size q u.size o1 (Nat.le_refl _) ?_
    rw [hz, List.take_of_length_le (by rw [List.length_drop, sb_len]; exact Nat.le_refl _)]
  | cons p K ih =>
    intro f q z hz hd ho
    obtain ⟨N, y, h1, h2, h3, h4, h5, h6⟩ := hd
    obtain ⟨o1, o2, o3, o4, o5⟩ := ho
    have hlN : (N.map Prod.fst).length = p.q - q := by rw [List.length_map]; omega
    have hlp : ((pcs (sb s) p.f p.m).map Prod.fst).length = p.m := by rw [List.length_map, pcs_len h5]
    rw [h1, List.map_append, List.map_append] at hz
    have hN : ((sb u).drop q).take (p.q - q) = N.map Prod.fst := by rw [← hz, ← hlN, List.take_left]
    have hy : y.map Prod.fst = (sb u).drop (p.q + p.m) := by
      have : (sb u).drop (p.q + p.m) = ((sb u).drop q).drop ((p.q - q) + p.m) := by rw [List.drop_drop]; congr 1; omega
      rw [this, ← hz, ← List.drop_drop, List.drop_left' hlN, List.drop_left' hlp]
    rw [h1, canon_new h2, canon_piece h4 h5, List.filter_append]
    simp only [arl, List.nil_append]
    rw [ees_append, ih hy h6 o5, gap_ees s u f p.f q p.q o1 (by omega) hN]

end Go.Proofs.YtkehgoailhpenaaGreat

/- The mathematics of the program's Compose: the parts that both lists keep are the pieces of the composition. It has no conditions. -/
namespace Go.Proofs.YtkehgoailhpenaaGreat
open Go.RowKit Go.Shelf
set_option linter.unusedVariables false

/-- What is kept of a part of the first list and of one of the second list. -/
def comm (p1 p2 : Pc) : Pc :=
  if p1.k = true ∧ p2.k = true ∧ max p1.q p2.f < min (p1.q + p1.x.size) p2.t then
    ⟨p1.f + (max p1.q p2.f - p1.q), p1.f + (max p1.q p2.f - p1.q) + min (p1.q + p1.x.size) p2.t - max p1.q p2.f, p2.q + max p1.q p2.f - p2.f,
      p1.x.extract (max p1.q p2.f - p1.q).toNat (max p1.q p2.f - p1.q + min (p1.q + p1.x.size) p2.t - max p1.q p2.f).toNat, true⟩
  else ⟨0, 0, 0, ⟨#[]⟩, false⟩
def seg (S : List Int) (p : Pc) : List (Int × Option Nat) := if p.k then pcs S p.f.toNat (p.t - p.f).toNat else (sb p.x).map fun c => (c, none)
/-- Parts that follow each other, from r on. -/
def Chn (s : ByteArray) : Nat → List Pc → Prop
  | _, [] => True
  | r, p :: P => p.q = r ∧ (p.k = true → ∃ f t : Nat, p.f = f ∧ p.t = t ∧ f ≤ t ∧ t ≤ s.size ∧ p.x = s.extract f t) ∧ Chn s (r + p.x.size) P
theorem cut_size {s : ByteArray} {f t : Nat} (h : f ≤ t) (ht : t ≤ s.size) : (s.extract f t).size = t - f := by rw [ByteArray.size_extract]; omega
theorem cut_cut (s : ByteArray) (f t a b : Nat) (h : f + b ≤ t) : (s.extract f t).extract a b = s.extract (f + a) (f + b) := by
  refine sb_inj ?_
  rw [sb_cut, sb_cut, sb_cut, List.drop_take, List.take_take, List.drop_drop]
  congr 1
  omega
theorem seg_len {s : ByteArray} {r : Nat} {p : Pc} {P : List Pc} (h : Chn s r (p :: P)) : (seg (sb s) p).length = p.x.size := by
  obtain ⟨h1, h2, h3⟩ := h
  unfold seg
  split
  · rename_i hk
    obtain ⟨f, t, e1, e2, e3, e4, e5⟩ := h2 hk
    rw [e1, e2, e5, cut_size e3 e4, Int.toNat_natCast, show ((t : Int) - (f : Int)).toNat = t - f by omega, pcs_len (by rw [sb_len]; omega)]
  · rw [List.length_map, sb_len]
/-- A place within a range. -/
def cl (lo hi r : Nat) : Nat := max lo (min r hi)
theorem kept_one {s : ByteArray} {p1 p2 : Pc} {r lo hi q2 : Nat} (h1 : p1.q = r) (h2 : p1.k = true → ∃ f t : Nat, p1.f = f ∧ p1.t = t ∧ f ≤ t ∧ t ≤ s.size ∧ p1.x = s.extract f t)
    (k2 : p2.k = true) (hf : p2.f = lo) (ht : p2.t = hi) (hq : p2.q = q2) (hlh : lo ≤ hi) :
    ∃ K : List Kp, [comm p1 p2].filter (·.k) = K.map (Kp.pc s) ∧ Dcm (sb s) (q2 + (cl lo hi r - lo)) (((seg (sb s) p1).drop (lo - r)).take (hi - cl lo hi r)) K := by
  by_cases hk : p1.k = true
  · obtain ⟨f, t, e1, e2, e3, e4, e5⟩ := h2 hk
    have hsz : p1.x.size = t - f := by rw [e5, cut_size e3 e4]
    have hseg : seg (sb s) p1 = pcs (sb s) f (t - f) := by
      unfold seg
      rw [if_pos hk, e1, e2, Int.toNat_natCast, show ((t : Int) - (f : Int)).toNat = t - f by omega]
    have hlen := pcs_len (S := sb s) (k := f) (m := t - f) (by rw [sb_len]; omega)
    unfold comm
    rw [h1, hf, ht, hq, hsz]
    by_cases hc : max r lo < min (r + (t - f)) hi
    · have hcl : cl lo hi r = max r lo := by unfold cl; omega
      refine ⟨[⟨f + (max r lo - r), min (r + (t - f)) hi - max r lo, q2 + (max r lo - lo)⟩], ?_, ?_⟩
      · rw [if_pos ⟨hk, k2, by omega⟩]
        simp only [List.filter_cons, List.filter_nil, if_true, List.map_cons, List.map_nil, Kp.pc]
        rw [e1, e5, show ((max (r : Int) (lo : Int)) - (r : Int)).toNat = max r lo - r by omega,
          show ((max (r : Int) (lo : Int)) - (r : Int) + min ((r : Int) + ((t - f : Nat) : Int)) (hi : Int) - max (r : Int) (lo : Int)).toNat = max r lo - r + (min (r + (t - f)) hi - max r lo) by omega, cut_cut _ _ _ _ _ (by omega)]
        congr 2
        · omega
        · omega
        · omega
        · congr 1
          omega
      · rw [hseg, hcl]
        refine ⟨[], [], ?_, (fun y hy => by simp at hy), ?_, ?_, ?_, (fun y hy => by simp at hy)⟩
        · simp only [List.nil_append, List.append_nil]
          refine List.ext_getElem? fun i => ?_
          rw [List.getElem?_take, List.getElem?_drop, pcs_at, pcs_at]
          by_cases hi1 : i < min (r + (t - f)) hi - max r lo
          · rw [if_pos (by omega), if_pos (by omega), if_pos hi1, show f + (lo - r + i) = f + (max r lo - r) + i by omega]
          · rw [if_neg hi1]
            by_cases hi2 : i < hi - max r lo
            · rw [if_pos hi2, if_neg (by omega)]
            · rw [if_neg hi2]
        · simp
        · simp only; omega
        · simp only [sb_len]; omega
    · refine ⟨[], ?_, ?_⟩
      · rw [if_neg (by omega)]
        rfl
      · rw [hseg]
        have hz : (((pcs (sb s) f (t - f)).drop (lo - r)).take (hi - cl lo hi r)).length = 0 := by
          rw [List.length_take, List.length_drop, hlen]
          unfold cl
          omega
        rw [List.eq_nil_of_length_eq_zero hz]
        intro y hy
        simp at hy
  · refine ⟨[], ?_, ?_⟩
    · unfold comm
      rw [if_neg (fun h => hk h.1)]
      rfl
    · have : seg (sb s) p1 = (sb p1.x).map fun c => (c, none) := by unfold seg; rw [if_neg hk]
      rw [this]
      exact (all_new _).slice _ _
/-- Of all parts of the first list, what one part of the second list keeps. -/
theorem kept_in {s : ByteArray} {p2 : Pc} {lo hi q2 : Nat} (k2 : p2.k = true) (hf : p2.f = lo) (ht : p2.t = hi) (hq : p2.q = q2) (hlh : lo ≤ hi) : ∀ {P : List Pc} {r : Nat}, Chn s r P →
    ∃ K : List Kp, (P.map fun p1 => comm p1 p2).filter (·.k) = K.map (Kp.pc s) ∧ Dcm (sb s) (q2 + (cl lo hi r - lo)) (((P.flatMap (seg (sb s))).drop (lo - r)).take (hi - cl lo hi r)) K := by
  intro P
  induction P with
  | nil => intro r _; exact ⟨[], rfl, by simp; intro y hy; simp at hy⟩
  | cons p P ih =>
    intro r h
    have hl := seg_len h
    obtain ⟨h1, h2, h3⟩ := h
    obtain ⟨K1, a1, a2⟩ := kept_one h1 h2 k2 hf ht hq hlh
    obtain ⟨K2, b1, b2⟩ := ih h3
    refine ⟨K1 ++ K2, ?_, ?_⟩
    · rw [List.map_cons, ← List.singleton_append, List.filter_append, a1, b1, List.map_append]
    · rw [List.flatMap_cons, List.drop_append, List.take_append, hl]
      refine a2.append ?_
      rw [List.length_take, List.length_drop, hl]
      have e1 : q2 + (cl lo hi r - lo) + min (hi - cl lo hi r) (p.x.size - (lo - r)) = q2 + (cl lo hi (r + p.x.size) - lo) := by unfold cl; omega
      have e2 : lo - r - p.x.size = lo - (r + p.x.size) := by omega
      have e3 : hi - cl lo hi r - (p.x.size - (lo - r)) = hi - cl lo hi (r + p.x.size) := by unfold cl; omega
      rw [e1, e2, e3]
      exact b2

theorem thru_slice {z1 : List (Int × Option Nat)} {T : List Int} (hz : z1.map Prod.fst = T) (lo m : Nat) : thru z1 (pcs T lo m) = (z1.drop lo).take m := by
  refine List.ext_getElem? fun i => ?_
  unfold thru
  rw [List.getElem?_map, pcs_at, List.getElem?_take]
  split
  · rw [List.getElem?_drop, ← hz, List.getElem?_map]
    cases h : z1[lo + i]? with
    | none => rfl
    | some y => simp [h]
  · rfl
/-- All that both lists keep, in the order of the second one's parts. -/
def kbl (P1 P2 : List Pc) : List Pc := P2.flatMap fun p2 => P1.map fun p1 => comm p1 p2
theorem kept_all {s t : ByteArray} {P1 : List Pc} (h1 : Chn s 0 P1) (hz : (P1.flatMap (seg (sb s))).map Prod.fst = sb t) : ∀ {P2 : List Pc} {q : Nat}, Chn t q P2 →
    ∃ K : List Kp, (kbl P1 P2).filter (·.k) = K.map (Kp.pc s) ∧ Dcm (sb s) q (thru (P1.flatMap (seg (sb s))) (P2.flatMap (seg (sb t)))) K := by
  intro P2
  induction P2 with
  | nil => intro q _; exact ⟨[], rfl, fun y hy => by simp [thru] at hy⟩
  | cons p P ih =>
    intro q h
    have hl := seg_len h
    obtain ⟨g1, g2, g3⟩ := h
    obtain ⟨K2, b1, b2⟩ := ih g3
    have hfil : (kbl P1 (p :: P)).filter (·.k) = (P1.map fun p1 => comm p1 p).filter (·.k) ++ (kbl P1 P).filter (·.k) := by
      unfold kbl
      rw [List.flatMap_cons, List.filter_append]
    have hthr : thru (P1.flatMap (seg (sb s))) ((p :: P).flatMap (seg (sb t))) = thru (P1.flatMap (seg (sb s))) (seg (sb t) p) ++ thru (P1.flatMap (seg (sb s))) (P.flatMap (seg (sb t))) := by
      rw [List.flatMap_cons, thru_append]
    have hln : (thru (P1.flatMap (seg (sb s))) (seg (sb t) p)).length = p.x.size := by unfold thru; rw [List.length_map, hl]
    rw [hfil, hthr, b1]
    suffices hk : ∃ K1 : List Kp, (P1.map fun p1 => comm p1 p).filter (·.k) = K1.map (Kp.pc s) ∧ Dcm (sb s) q (thru (P1.flatMap (seg (sb s))) (seg (sb t) p)) K1 by
      obtain ⟨K1, a1, a2⟩ := hk
      exact ⟨K1 ++ K2, by rw [a1, List.map_append], a2.append (by rw [hln]; exact b2)⟩
    by_cases hk : p.k = true
    · obtain ⟨f, e, e1, e2, e3, e4, e5⟩ := g2 hk
      obtain ⟨K1, a1, a2⟩ := kept_in (s := s) hk e1 e2 g1 e3 h1
      refine ⟨K1, a1, ?_⟩
      have hs : seg (sb t) p = pcs (sb t) f (e - f) := by unfold seg; rw [if_pos hk, e1, e2, Int.toNat_natCast, show ((e : Int) - (f : Int)).toNat = e - f by omega]
      rw [hs, thru_slice hz]
      have c1 : cl f e 0 = f := by unfold cl; omega
      rw [c1, Nat.sub_self, Nat.add_zero, Nat.sub_zero] at a2
      exact a2
    · refine ⟨[], ?_, ?_⟩
      · rw [List.map_nil, List.filter_eq_nil_iff]
        intro c hc
        obtain ⟨p1, _, rfl⟩ := List.mem_map.1 hc
        unfold comm
        rw [if_neg (fun h => hk h.2.1)]
        decide
      · have hs : seg (sb t) p = (sb p.x).map fun c => (c, none) := by unfold seg; rw [if_neg hk]
        rw [hs, thru_none]
        exact all_new _
/-- The parts of a new text are its bytes with their sources, and follow each other. -/
theorem prl_seg {s : ByteArray} : ∀ {es : List Er} {f q : Nat}, Vld s.size f (ees es) → (∀ e ∈ es, 0 ≤ e.f ∧ e.f ≤ e.t ∧ e.t ≤ (s.size : Int)) →
    (prl s f q es).flatMap (seg (sb s)) = srcl (sb s) f (ees es) ∧ Chn s q (prl s f q es) := by
  intro es
  induction es with
  | nil =>
    intro f q h _
    have hf : f ≤ s.size := h
    refine ⟨?_, rfl, (fun _ => ⟨f, s.size, rfl, rfl, hf, Nat.le_refl _, rfl⟩), trivial⟩
    simp only [prl, List.flatMap_cons, List.flatMap_nil, List.append_nil, seg, if_true, ees, List.map_nil, srcl]
    rw [Int.toNat_natCast, show ((s.size : Int) - (f : Int)).toNat = s.size - f by omega]
    unfold pcs
    rw [List.take_of_length_le (by rw [List.length_drop, sb_len]; exact Nat.le_refl _)]
  | cons e es ih =>
    intro f q h hok
    obtain ⟨o1, o2, o3⟩ := hok e (by simp)
    obtain ⟨v1, v2, v3, v4⟩ := h
    simp only [Er.ee] at v1 v2 v3 v4
    obtain ⟨i1, i2⟩ := ih (f := e.t.toNat) (q := q + (e.f.toNat - f) + e.x.size) v4 (fun x hx => hok x (by simp [hx]))
    have hsz : (s.extract f e.f.toNat).size = e.f.toNat - f := cut_size v1 (by omega)
    refine ⟨?_, ?_⟩
    · simp only [prl, List.flatMap_cons, i1, ees_cons, srcl, Er.ee, seg, if_true]
      rw [Int.toNat_natCast, show (e.f - (f : Int)).toNat = e.f.toNat - f by omega]
      rfl
    · simp only [prl]
      refine ⟨rfl, (fun _ => ⟨f, e.f.toNat, rfl, by show e.f = ((e.f.toNat : Nat) : Int); omega, v1, by omega, rfl⟩), ?_, (fun h => by cases h), ?_⟩
      · rw [hsz]; simp only; omega
      · rw [hsz]; exact i2
/-- The pieces that both lists keep, and the edits around them: the composition. -/
theorem kept_comp {s t u : ByteArray} {a b : List Er} (ha : vErr (s.size : Int) a = 0) (hb : vErr (t.size : Int) b = 0) (ht : sb t = appl (sb s) 0 (ees a)) (hu : sb u = appl (sb t) 0 (ees b)) :
    ∃ K : List Kp, (kbl (prl s 0 0 a) (prl t 0 0 b)).filter (·.k) = K.map (Kp.pc s) ∧ Ordk s.size u.size 0 0 K ∧ ees (arl s u 0 0 K) = cmpl (sb s) (ees a) (ees b) := by
  obtain ⟨_, va, oa⟩ := vErr_ok ha
  obtain ⟨_, vb, ob⟩ := vErr_ok hb
  obtain ⟨s1, c1⟩ := prl_seg (q := 0) va oa
  obtain ⟨s2, c2⟩ := prl_seg (q := 0) vb ob
  obtain ⟨K, k1, k2⟩ := kept_all c1 (by rw [s1, srcl_fst, ht]) c2
  rw [s1, s2] at k2
  have va' : Vld (sb s).length 0 (ees a) := by rw [sb_len]; exact va
  have vb' : Vld (sb t).length 0 (ees b) := by rw [sb_len]; exact vb
  have hsrc := thru_src (srcl_src va') (by rw [srcl_fst, ← ht] : _ = sb t) (srcl_src vb')
  have hfst : (thru (srcl (sb s) 0 (ees a)) (srcl (sb t) 0 (ees b))).map Prod.fst = sb u := by rw [thru_fst, srcl_fst, hu]
  have hlen : (thru (srcl (sb s) 0 (ees a)) (srcl (sb t) 0 (ees b))).length = u.size := by rw [← sb_len, ← hfst, List.length_map]
  have ho := dcm_ord hsrc k2 (by rw [Nat.zero_add, hlen])
  rw [sb_len] at ho
  refine ⟨K, k1, ho, ?_⟩
  rw [arl_canon (by rw [hfst, List.drop_zero]) k2 ho]
  unfold cmpl norml
  rw [joinl_of_sep (canon_sep (x := []) (by rw [← ht]; exact hsrc)), sb_len, ht]

end Go.Proofs.YtkehgoailhpenaaGreat

/- The contract of common. Conditions: offsets and sizes of at most 2^40. -/
namespace Go.Proofs.YtkehgoailhpenaaGreat
open Go.RowKit Go.Shelf
set_option linter.unusedVariables false

/-- Five cells, read off a block. -/
theorem cells5 {W : World} {b t : Nat} {v0 v1 v2 v3 v4 : Value} (h : Blk W b t #[v0, v1, v2, v3, v4]) :
    W.cell? ⟨b, 0, none⟩ = some v0 ∧ W.cell? ⟨b, 1, none⟩ = some v1 ∧ W.cell? ⟨b, 2, none⟩ = some v2 ∧ W.cell? ⟨b, 3, none⟩ = some v3 ∧ W.cell? ⟨b, 4, none⟩ = some v4 :=
  ⟨by simpa using h.cell 0, by simpa using h.cell 1, by simpa using h.cell 2, by simpa using h.cell 3, by simpa using h.cell 4⟩

set_option maxRecDepth 100000 in
set_option maxHeartbeats 4000000 in
theorem common_any (p1 p2 : Pc) (w : World) (hf1 : 0 ≤ p1.f ∧ p1.f ≤ 1099511627776) (hq1 : 0 ≤ p1.q ∧ p1.q ≤ 1099511627776) (hx1 : p1.x.size ≤ 1099511627776) (hf2 : 0 ≤ p2.f ∧ p2.f ≤ 1099511627776) (ht2 : 0 ≤ p2.t ∧ p2.t ≤ 1099511627776) (hq2 : 0 ≤ p2.q ∧ p2.q ≤ 1099511627776) :
    Calls Tryz.prog 90 #[p1.val, p2.val] w fun e w' => e = .returned (comm p1 p2).val ∧ Below w.heap.size w w' := by
  have CE := Lib.hid (fun W => end_any p1 W (by omega) (by omega))
  obtain ⟨R, hR⟩ : ∃ R, comm p1 p2 = R := ⟨_, rfl⟩
  obtain ⟨f1, t1, q1, x1, k1⟩ := p1
  obtain ⟨f2, t2, q2, x2, k2⟩ := p2
  simp only [Pc.val] at hf1 hq1 hx1 hf2 ht2 hq2 CE ⊢
  rw [hR]
  unfold comm at hR
  simp only at hR
  obtain ⟨st, hst⟩ : ∃ z, max q1 f2 = z := ⟨_, rfl⟩
  obtain ⟨n1, hn1⟩ : ∃ z : Int, q1 + (x1.size : Int) = z := ⟨_, rfl⟩
  obtain ⟨en, hen⟩ : ∃ z, min n1 t2 = z := ⟨_, rfl⟩
  rw [hst, hn1, hen] at hR
  rw [hn1] at CE
  obtain ⟨B, hB⟩ : ∃ B, w.heap.size = B := ⟨_, rfl⟩
  obtain ⟨W, hW⟩ : ∃ W, ((w.alloc (.cells #[.int .i64 f1, .int .i64 t1, .int .i64 q1, .string x1, .bool k1] 103)).alloc (.cells #[.int .i64 f2, .int .i64 t2, .int .i64 q2, .string x2, .bool k2] 103)).alloc (.cells #[.int .i64 0, .int .i64 0, .int .i64 0, .string ⟨#[]⟩, .bool false] 103) = W := ⟨_, rfl⟩
  have b1 : Blk W B 103 #[.int .i64 f1, .int .i64 t1, .int .i64 q1, .string x1, .bool k1] := by rw [← hW, ← hB]; exact ((Blk.new _ _ _).alloc _).alloc _
  have b2 : Blk W (B + 1) 103 #[.int .i64 f2, .int .i64 t2, .int .i64 q2, .string x2, .bool k2] := by
    rw [← hW, ← hB]
    have := Blk.new (w.alloc (.cells #[.int .i64 f1, .int .i64 t1, .int .i64 q1, .string x1, .bool k1] 103)) 103 #[.int .i64 f2, .int .i64 t2, .int .i64 q2, .string x2, .bool k2]
    rw [World.size_alloc] at this
    exact this.alloc _
  have b3 : Blk W (B + 1 + 1) 103 #[.int .i64 0, .int .i64 0, .int .i64 0, .string ⟨#[]⟩, .bool false] := by
    rw [← hW, ← hB]
    have := Blk.new ((w.alloc (.cells #[.int .i64 f1, .int .i64 t1, .int .i64 q1, .string x1, .bool k1] 103)).alloc (.cells #[.int .i64 f2, .int .i64 t2, .int .i64 q2, .string x2, .bool k2] 103)) 103 #[.int .i64 0, .int .i64 0, .int .i64 0, .string ⟨#[]⟩, .bool false]
    rw [World.size_alloc, World.size_alloc] at this
    exact this
  have HB3 := Lib.hid b3
  have sW : W.heap.size = B + 3 := by rw [← hW, ← hB]; simp
  have bl : Below B w W := by rw [← hW, ← hB]; exact (((Below.refl _ _).alloc (Nat.le_refl _) _).alloc (by simp) _).alloc (by simp; omega) _
  have HS : Hid (∀ V, Below (B + 2) W V → (V.cell? ⟨B, 0, none⟩ = some (.int .i64 f1) ∧ V.cell? ⟨B, 1, none⟩ = some (.int .i64 t1) ∧ V.cell? ⟨B, 2, none⟩ = some (.int .i64 q1) ∧ V.cell? ⟨B, 3, none⟩ = some (.string x1) ∧ V.cell? ⟨B, 4, none⟩ = some (.bool k1)) ∧
      (V.cell? ⟨B + 1, 0, none⟩ = some (.int .i64 f2) ∧ V.cell? ⟨B + 1, 1, none⟩ = some (.int .i64 t2) ∧ V.cell? ⟨B + 1, 2, none⟩ = some (.int .i64 q2) ∧ V.cell? ⟨B + 1, 3, none⟩ = some (.string x2) ∧ V.cell? ⟨B + 1, 4, none⟩ = some (.bool k2))) := fun V hV =>
    ⟨cells5 (b1.same (hV.block B (by omega))), cells5 (b2.same (hV.block (B + 1) (by omega)))⟩
  obtain ⟨⟨c0, c1, c2, c3, c4⟩, d0, d1, d2, d3, d4⟩ := HS.out W (Below.refl _ _)
  have HW := Lib.hid hW; have HB := Lib.hid hB; have HBL := Lib.hid bl
  have g1 : 0 ≤ st ∧ st ≤ 1099511627776 := by omega
  have g2 : 0 ≤ en ∧ en ≤ 1099511627776 := by omega
  have HR := Lib.hid hR
  clear hW hB b1 b2 b3 bl hR
  rw [← HW.out] at c0 c1 c2 c3 c4 d0 d1 d2 d3 d4
  rw [← HB.out] at c0 c1 c2 c3 c4 d0 d1 d2 d3 d4
  go_enter Tryz.func90, Tryz.ntmps90
  go_wp2_with fail
  rw [HW.out, HB.out]
  have hB2 : Below (B + 2) W W.drew := (Below.refl _ _).drew
  have z2 : B + 2 ≤ W.drew.heap.size := by show B + 2 ≤ W.heap.size; omega
  have cA := HS.out W.drew hB2
  go_region_held3 (fun V : World => (V.cell? ⟨B, 0, none⟩ = some (.int .i64 f1) ∧ V.cell? ⟨B, 1, none⟩ = some (.int .i64 t1) ∧ V.cell? ⟨B, 2, none⟩ = some (.int .i64 q1) ∧ V.cell? ⟨B, 3, none⟩ = some (.string x1) ∧ V.cell? ⟨B, 4, none⟩ = some (.bool k1)) ∧
      (V.cell? ⟨B + 1, 0, none⟩ = some (.int .i64 f2) ∧ V.cell? ⟨B + 1, 1, none⟩ = some (.int .i64 t2) ∧ V.cell? ⟨B + 1, 2, none⟩ = some (.int .i64 q2) ∧ V.cell? ⟨B + 1, 3, none⟩ = some (.string x2) ∧ V.cell? ⟨B + 1, 4, none⟩ = some (.bool k2))) (first | exact cA | exact cB)
    (first | (go_at_call 72; refine (CE.out _).mono ?_; rintro e w1 ⟨rfl, b1⟩; have hB1 := hB2.trans (b1.mono z2); have cB := HS.out w1 hB1))
  have b4 := HB3.out.same (b1.block (B + 1 + 1) (by show B + 1 + 1 < W.heap.size; omega))
  have hw1 : Below B w w1 := HBL.out.trans (hB1.mono (by omega))
  have z1 : B + 3 ≤ w1.heap.size := by have := b1.size; have h2 : W.drew.heap.size = W.heap.size := rfl; omega
  obtain ⟨e0, e1, e2, e3, e4⟩ := cells5 b4
  have HCB := Lib.hid cB
  obtain ⟨⟨c0, c1, c2, c3, c4⟩, d0, d1, d2, d3, d4⟩ := cB
  have HW1 := Lib.hid hw1; have HBW := Lib.hid b4
  clear cA b1 hB2 hB1 hw1 b4
  obtain ⟨sk, hsk⟩ : ∃ z, st - q1 = z := ⟨_, rfl⟩
  have HEND : Hid (∀ v0 v1 v2 v3 v4 : Value, Blk (((((w1.setCell ⟨B + 1 + 1, 0, none⟩ v0).setCell ⟨B + 1 + 1, 1, none⟩ v1).setCell ⟨B + 1 + 1, 2, none⟩ v2).setCell ⟨B + 1 + 1, 3, none⟩ v3).setCell ⟨B + 1 + 1, 4, none⟩ v4) (B + 1 + 1) 103 #[v0, v1, v2, v3, v4] ∧ Below w.heap.size w (((((w1.setCell ⟨B + 1 + 1, 0, none⟩ v0).setCell ⟨B + 1 + 1, 1, none⟩ v1).setCell ⟨B + 1 + 1, 2, none⟩ v2).setCell ⟨B + 1 + 1, 3, none⟩ v3).setCell ⟨B + 1 + 1, 4, none⟩ v4)) := by
    intro v0 v1 v2 v3 v4
    refine ⟨by simpa using ((((HBW.out.set 0 v0).set 1 v1).set 2 v2).set 3 v3).set 4 v4, ?_⟩
    rw [HB.out]
    exact ((((HW1.out.setCell (p := ⟨B + 1 + 1, 0, none⟩) (by show B ≤ B + 1 + 1; omega) _).setCell (p := ⟨B + 1 + 1, 1, none⟩) (by show B ≤ B + 1 + 1; omega) _).setCell (p := ⟨B + 1 + 1, 2, none⟩) (by show B ≤ B + 1 + 1; omega) _).setCell (p := ⟨B + 1 + 1, 3, none⟩) (by show B ≤ B + 1 + 1; omega) _).setCell (p := ⟨B + 1 + 1, 4, none⟩) (by show B ≤ B + 1 + 1; omega) _
  by_cases hk : k1 = true ∧ k2 = true ∧ st < en
  · obtain ⟨rfl, rfl, hlt⟩ := hk
    have hge : ¬ en ≤ st := by omega
    have s1 : 0 ≤ sk := by omega
    have s2 : sk + en - st ≤ x1.size := by omega
    have s3 : sk ≤ sk + en - st := by omega
    have hR := HR.out
    rw [if_pos ⟨rfl, rfl, hlt⟩, hsk] at hR
    go_wp2_with fail
    have cS := HCB.out
    have wr : ∀ z : Int, -9223372036854775808 ≤ z → z ≤ 9223372036854775807 → IntKind.i64.wrap z = z := by intro z a b; simp [IntKind.wrap, IntKind.signed, IntKind.bits]; omega
    have w1' := wr sk (by omega) (by omega)
    have w2 := wr (sk + en) (by omega) (by omega)
    have w3 := wr (sk + en - st) (by omega) (by omega)
    have w4 := wr (f1 + sk) (by omega) (by omega)
    have w5 := wr (f1 + sk + en) (by omega) (by omega)
    have w6 := wr (f1 + sk + en - st) (by omega) (by omega)
    have w7 := wr (q2 + st) (by omega) (by omega)
    have w8 := wr (q2 + st - f2) (by omega) (by omega)
    clear wr
    have y0 := HBW.out.frozen 0
    have y1 := HBW.out.frozen 1
    have y2 := HBW.out.frozen 2
    have y3 := HBW.out.frozen 3
    have y4 := HBW.out.frozen 4
    clear cS
    go_region
    go_wp2_with fail
    obtain ⟨k0, hbl⟩ := HEND.out (.int .i64 (f1 + sk)) (.int .i64 (f1 + sk + en - st)) (.int .i64 (q2 + st - f2)) (.string (x1.extract sk.toNat (sk + en - st).toNat)) (.bool true)
    obtain ⟨k0, k1, k2, k3, k4⟩ := cells5 k0
    refine bodyPost_ret (v := R.val) (by simp [results, Tryz.results90, go_sem, k0, k1, k2, k3, k4, ← hR, Pc.val]) rfl ?_
    exact ⟨rfl, hbl.drew⟩
  · have hR := HR.out
    rw [if_neg hk] at hR
    have y0 := HBW.out.frozen 0
    have y1 := HBW.out.frozen 1
    have y2 := HBW.out.frozen 2
    have y3 := HBW.out.frozen 3
    have y4 := HBW.out.frozen 4
    cases k1 with
    | false =>
      go_wp2_with fail
      obtain ⟨k0, hbl⟩ := HEND.out (.int .i64 0) (.int .i64 0) (.int .i64 0) (.string ⟨#[]⟩) (.bool false)
      obtain ⟨k0, k1, k2, k3, k4⟩ := cells5 k0
      refine bodyPost_ret (v := R.val) (by simp [results, Tryz.results90, go_sem, k0, k1, k2, k3, k4, ← hR, Pc.val]) rfl ?_
      exact ⟨rfl, hbl⟩
    | true =>
      cases k2 with
      | false =>
        go_wp2_with fail
        obtain ⟨k0, hbl⟩ := HEND.out (.int .i64 0) (.int .i64 0) (.int .i64 0) (.string ⟨#[]⟩) (.bool false)
        obtain ⟨k0, k1, k2, k3, k4⟩ := cells5 k0
        refine bodyPost_ret (v := R.val) (by simp [results, Tryz.results90, go_sem, k0, k1, k2, k3, k4, ← hR, Pc.val]) rfl ?_
        exact ⟨rfl, hbl⟩
      | true =>
        have hge : en ≤ st := by
          have : ¬ st < en := fun h => hk ⟨rfl, rfl, h⟩
          omega
        go_wp2_with fail
        obtain ⟨k0, hbl⟩ := HEND.out (.int .i64 0) (.int .i64 0) (.int .i64 0) (.string ⟨#[]⟩) (.bool false)
        obtain ⟨k0, k1, k2, k3, k4⟩ := cells5 k0
        refine bodyPost_ret (v := R.val) (by simp [results, Tryz.results90, go_sem, k0, k1, k2, k3, k4, ← hR, Pc.val]) rfl ?_
        exact ⟨rfl, hbl⟩

end Go.Proofs.YtkehgoailhpenaaGreat

/- The contract of the program's Invert. Conditions: texts of at most 10000000 bytes, lists of at most 1000 edits. -/
namespace Go.Proofs.YtkehgoailhpenaaGreat
open Go.RowKit Go.Shelf
set_option linter.unusedVariables false
attribute [local go_sem] Oper.semAt_some

/-- The edits that lead back, of parts. -/
def ivl (s : ByteArray) : List Pc → List Er
  | [] => []
  | p :: l => if p.k then ivl s l else ⟨p.q, p.q + p.x.size, s.extract p.f.toNat p.t.toNat⟩ :: ivl s l
theorem ivl_add (s : ByteArray) : ∀ (a b : List Pc), ivl s (a ++ b) = ivl s a ++ ivl s b := by
  intro a
  induction a with
  | nil => intro b; rfl
  | cons p a ih =>
    intro b
    simp only [List.cons_append, ivl]
    cases p.k
    · rw [if_neg (by simp), if_neg (by simp), ih]; rfl
    · rw [if_pos rfl, if_pos rfl, ih]
theorem pg_take {l : List Pc} {k : Nat} (h : k < l.length) : l.take (k + 1) = l.take k ++ [pg l k] := by
  unfold pg; rw [List.take_add_one, List.getElem?_eq_getElem h]; rfl
theorem ivl_step {s : ByteArray} {l : List Pc} {k : Nat} (h : k < l.length) : ivl s (l.take (k + 1)) = ivl s (l.take k) ++ (if (pg l k).k then [] else [⟨(pg l k).q, (pg l k).q + (pg l k).x.size, s.extract (pg l k).f.toNat (pg l k).t.toNat⟩]) := by
  rw [pg_take h, ivl_add]
  simp only [ivl]
theorem ivl_prl (s : ByteArray) : ∀ (es : List Er) (f q : Nat), (∀ e ∈ es, 0 ≤ e.f ∧ e.f ≤ e.t) → vE (s.size : Int) (f : Int) es = 0 → ivl s (prl s f q es) = ers (invl (sb s) f q (ees es)) := by
  intro es
  induction es with
  | nil => intro f q _ _; rfl
  | cons e es ih =>
    intro f q h hv
    obtain ⟨h0, h1⟩ := h e (by simp)
    simp only [vE] at hv
    split at hv
    · omega
    · split at hv
      · omega
      · rename_i k1 k2
        have ht : ((e.t.toNat : Nat) : Int) = e.t := by omega
        have hi := ih e.t.toNat (q + (e.f.toNat - f) + e.x.size) (fun x hx => h x (by simp [hx])) (by rw [ht]; exact hv)
        simp only [prl, ivl, ees_cons, invl, ers, List.map_cons]
        rw [if_pos trivial, if_neg (by simp), hi]
        simp only [er, Er.ee, ers, sb_len, bs_cut]
        congr 2
        · omega
        · omega
theorem prl_fit {s : ByteArray} : ∀ {es : List Er} {f q c : Nat}, f ≤ s.size → q ≤ f + 100000 * c → vE (s.size : Int) (f : Int) es = 0 → (∀ e ∈ es, e.x.size ≤ 100000) →
    ∀ p ∈ prl s f q es, 0 ≤ p.f ∧ p.f ≤ p.t ∧ p.t ≤ (s.size : Int) ∧ 0 ≤ p.q ∧ p.q ≤ (s.size : Int) + 100000 * ((c : Int) + es.length) ∧ (p.k = false → p.x.size ≤ 100000) := by
  intro es
  induction es with
  | nil =>
    intro f q c hf hq _ _ p hp
    simp only [prl, List.mem_singleton] at hp
    subst hp
    simp only [List.length_nil]
    exact ⟨by omega, by omega, by omega, by omega, by omega, fun h => by cases h⟩
  | cons e es ih =>
    intro f q c hf hq hv hx p hp
    simp only [vE] at hv
    split at hv
    · omega
    · split at hv
      · omega
      · rename_i k1 k2
        have ht : ((e.t.toNat : Nat) : Int) = e.t := by omega
        have hxe := hx e (by simp)
        simp only [prl, List.mem_cons] at hp
        simp only [List.length_cons]
        push_cast
        rcases hp with rfl | rfl | hp
        · exact ⟨by simp only []; omega, by simp only []; omega, by simp only []; omega, by simp only []; omega, by simp only []; omega, fun h => by cases h⟩
        · exact ⟨by simp only []; omega, by simp only []; omega, by simp only []; omega, by simp only []; omega, by simp only []; omega, fun _ => hxe⟩
        · have := ih (f := e.t.toNat) (q := q + (e.f.toNat - f) + e.x.size) (c := c + 1) (by omega) (by omega) (by rw [ht]; exact hv) (fun x h => hx x (by simp [h])) p hp
          push_cast at this
          refine ⟨this.1, this.2.1, this.2.2.1, this.2.2.2.1, by have := this.2.2.2.2.1; omega, this.2.2.2.2.2⟩

/-- The block b holds a slice of edits of the call's own; T: the blocks that appending may turn. -/
def Iv (b lo : Nat) (T : Nat → Prop) (es : List Er) (w : World) : Prop :=
  ∃ v, Blk w b 38 #[v] ∧ w.ownsRow lo 84 3 v es.length (rv es) ∧ v.ownBlock ≠ some b ∧ ∀ j, T j ↔ (j = b ∨ v.ownBlock = some j)
theorem Iv.lt {b lo : Nat} {T : Nat → Prop} {es : List Er} {w : World} (h : Iv b lo T es w) : ∀ j, T j → j < w.heap.size := by
  obtain ⟨v, hb, ho, _, hT⟩ := h
  intro j hj
  rcases (hT j).1 hj with rfl | h
  · exact hb.lt
  · exact (ho.lt j h).2
theorem Iv.ge {b lo : Nat} {T : Nat → Prop} {es : List Er} {w : World} (h : Iv b lo T es w) (hb : lo ≤ b) : ∀ j, T j → lo ≤ j := by
  obtain ⟨v, _, ho, _, hT⟩ := h
  intro j hj
  rcases (hT j).1 hj with rfl | h
  · exact hb
  · exact (ho.lt j h).1
theorem Iv.keep {b lo : Nat} {T : Nat → Prop} {es : List Er} {w w' : World} (h : Iv b lo T es w) (hb : ∀ j, T j → w'.heap[j]? = w.heap[j]?) : Iv b lo T es w' := by
  obtain ⟨v, hk, ho, hn, hT⟩ := h
  exact ⟨v, hk.same (hb b ((hT b).2 (.inl rfl))), own_same ho (fun g hg => hb g ((hT g).2 (.inr hg))), hn, hT⟩
theorem Iv.oth {b lo n : Nat} {T : Nat → Prop} {es : List Er} {w w' : World} (h : Iv b lo T es w) (ho : Oth T n w w') : Iv b lo T es w' := h.keep (fun j hj => ho.block j (h.lt j hj) (.inr hj))
/-- Appending an edit and storing the slice. -/
theorem Iv.step {b lo : Nat} {T : Nat → Prop} {es : List Er} {w w1 w2 : World} {v v' : Value} {e : Er} (hk : Blk w b 38 #[v]) (hn : v.ownBlock ≠ some b) (hT : ∀ j, T j ↔ (j = b ∨ v.ownBlock = some j)) (ho : w.ownsRow lo 84 3 v es.length (rv es))
    (hb1 : Below w.heap.size w w1) (ho2 : w2.ownsRow lo 84 3 v' (es.length + 1) (rv es ++ e.vals)) (hg : w1.grownBy w2 v.ownBlock) (hat : v'.ownBlock = v.ownBlock ∨ v'.ownBlock = some w1.heap.size) :
    ∃ T', Iv b lo T' (es ++ [e]) (w2.setCell ⟨b, 0, none⟩ v') ∧ Rnd T T' w (w2.setCell ⟨b, 0, none⟩ v') := by
  have hbl : b < w.heap.size := hk.lt
  have hs1 := hb1.size
  have hk2 : Blk w2 b 38 #[v] := (hk.same (hb1.block b hbl)).same (hg.block b (by omega) (fun e => hn e.symm))
  have hn' : v'.ownBlock ≠ some b := by
    rcases hat with h | h
    · rw [h]; exact hn
    · rw [h]; intro e; simp at e; omega
  refine ⟨fun j => j = b ∨ v'.ownBlock = some j, ⟨v', by simpa using hk2.set 0 v', ?_, hn', fun j => Iff.rfl⟩, ?_⟩
  · rw [List.length_append, rv_snoc]
    exact own_same ho2 (fun g hg' => Below.heap_setCell w2 _ _ g (fun e => hn' (by simp at e; rw [hg', e])))
  · refine ⟨by simp [World.setCell]; have := hg.size; omega, fun k hk0 hkT => ?_, fun k hk0 => ?_⟩
    · rw [Below.heap_setCell w2 _ _ k (fun e => hkT (by simp at e; exact (hT k).2 (.inl e))), hg.block k (by omega) (fun e => hkT ((hT k).2 (.inr e.symm))), hb1.block k hk0]
    · rcases hk0 with h | h
      · exact .inl ((hT k).2 (.inl h))
      · rcases hat with h1 | h1
        · rw [h1] at h; exact .inl ((hT k).2 (.inr h))
        · rw [h1] at h; simp at h; exact .inr (by omega)

theorem wp_append_at {P : Program} {w : World} {o : Oper} {a : Act} {K : Act → World → Prop} {Q : Exit → Act → World → Prop} (sl x : Operand) (t : TypeId)
    (ho : o.op = .call { callee := .builtin .append, args := #[sl, x], argTypes := #[t, t] })
    (base : Nat) (e : TypeId) (i : TypeInfo) (z : Value) (size bytes : Nat) (ht : P.underlying t = some (.slice e)) (hi : P.info? e = some i) (hz : i.zero = some z)
    (hsize : i.size = size) (hby : i.bytes = bytes) (hzs : z.cells.size = size) (hsz : 0 < size)
    (v : Value) (n : Nat) (xs : List Value) (hs : a.eval sl = v) (hown : w.ownsRow base e size v n xs)
    (ad : Addr) (m c : Nat) (news : List Value) (hx : a.eval x = .slice (some ad) m c) (hl : news.length = m * size) (hnews : ∀ j u, news[j]? = some u → w.cell? (ad.add j) = some u) (h1 : ∀ u ∈ news, u.oneCell' = true)
    (h63 : n + m ≤ maxLen) (hbytes : (n + m) * bytes ≤ 140737488355328) (hbase : base ≤ w.heap.size)
    (h : ∀ v' w', w'.ownsRow base e size v' (n + m) (xs ++ news) → w.grownBy w' v.ownBlock → (v'.ownBlock = v.ownBlock ∨ v'.ownBlock = some w.heap.size) → K (a.put o.dst v') w') :
    o.wp P a w K Q := by
  obtain ⟨v', w', hr, h2, h3, h4, h5⟩ := run_append_own_at (P := P) w base t o.type e i z size bytes ht hi hz hsize hby hzs hsz v n xs hown ad m c news hl hnews h1 h63 hbytes hbase
  unfold Oper.wp execOp
  simp only [ho, resolve, invoke, builtin, Sem.run_bind, Sem.run_pure, Result.andThen_ok, List.map_toArray, List.map_cons, List.map_nil, hs, hx, hr]
  exact h v' w' h2 h3 h5

end Go.Proofs.YtkehgoailhpenaaGreat

/- The contract of keptByBoth's iterator: it yields what both lists keep. Conditions: valid lists, texts of at most 10000000 bytes. -/
namespace Go.Proofs.YtkehgoailhpenaaGreat
open Go.RowKit Go.Shelf
set_option linter.unusedVariables false
attribute [local go_sem] Oper.semAt_some

theorem kept_any (s t : ByteArray) (a b : Option Addr) (n1 c1 n2 c2 : Nat) (w : World) :
    Calls Tryz.prog 76 #[.string s, .slice a n1 c1, .string t, .slice b n2 c2] w fun e w' =>
      e = .returned (.func (.func 89) #[] #[.pointer (some ⟨w.heap.size + 2, 0, none⟩), .pointer (some ⟨w.heap.size + 3, 0, none⟩), .pointer (some ⟨w.heap.size, 0, none⟩), .pointer (some ⟨w.heap.size + 1, 0, none⟩)]) ∧
        w' = (((w.alloc (.cells #[.string s] 9)).alloc (.cells #[.slice a n1 c1] 38)).alloc (.cells #[.string t] 9)).alloc (.cells #[.slice b n2 c2] 38) := by
  go_enter Tryz.func76, Tryz.ntmps76
  go_wp2
  go_ret
  exact ⟨rfl, rfl⟩

/-- All that both lists keep. -/
def KB (s t : ByteArray) (es1 es2 : List Er) : List Pc := (kbl (prl s 0 0 es1) (prl t 0 0 es2)).filter (·.k)
/-- How many of the first m pairs keep something. -/
def cnt (L : List Pc) (m : Nat) : Nat := ((L.take m).filter (·.k)).length
theorem cnt_zero (L : List Pc) : cnt L 0 = 0 := rfl
theorem cnt_all {L : List Pc} {m : Nat} (h : L.length ≤ m) : cnt L m = (L.filter (·.k)).length := by unfold cnt; rw [List.take_of_length_le h]
theorem cnt_succ {L : List Pc} {m : Nat} (h : m < L.length) : cnt L (m + 1) = cnt L m + (if (pg L m).k then 1 else 0) := by
  unfold cnt
  rw [List.take_add_one, List.getElem?_eq_getElem h, Option.toList_some, List.filter_append, List.length_append]
  have hp : pg L m = L[m] := by simp [pg, List.getElem?_eq_getElem h]
  rw [hp]
  cases hk : L[m].k <;> simp [hk]
theorem cnt_get {L : List Pc} {m : Nat} (h : m < L.length) (hk : (pg L m).k = true) : cnt L m < (L.filter (·.k)).length ∧ pg (L.filter (·.k)) (cnt L m) = pg L m := by
  have hp : pg L m = L[m] := by simp [pg, List.getElem?_eq_getElem h]
  rw [hp] at hk ⊢
  have e : L.filter (·.k) = (L.take m).filter (·.k) ++ (L[m] :: (L.drop (m + 1)).filter (·.k)) := by
    conv => lhs; rw [← List.take_append_drop m L, List.drop_eq_getElem_cons h]
    rw [List.filter_append, List.filter_cons, if_pos hk]
  unfold cnt
  rw [e]
  refine ⟨by simp, ?_⟩
  unfold pg
  rw [List.getElem?_append_right (Nat.le_refl _), Nat.sub_self]
  rfl
theorem kbl_len (P1 P2 : List Pc) : (kbl P1 P2).length = P2.length * P1.length := by
  unfold kbl
  induction P2 with
  | nil => simp
  | cons p P ih => rw [List.flatMap_cons, List.length_append, ih, List.length_map, List.length_cons, Nat.succ_mul, Nat.add_comm]
theorem kbl_at {P1 : List Pc} : ∀ {P2 : List Pc} {i j : Nat}, i < P2.length → j < P1.length → pg (kbl P1 P2) (i * P1.length + j) = comm (pg P1 j) (pg P2 i) := by
  intro P2
  induction P2 with
  | nil => intro i j h; simp at h
  | cons p P ih =>
    intro i j hi hj
    have e : kbl P1 (p :: P) = (P1.map fun p1 => comm p1 p) ++ kbl P1 P := rfl
    rw [e]
    unfold pg
    cases i with
    | zero =>
      rw [Nat.zero_mul, Nat.zero_add, List.getElem?_append_left (by rw [List.length_map]; exact hj), List.getElem?_map, List.getElem?_eq_getElem hj]
      rfl
    | succ i =>
      rw [List.getElem?_append_right (by rw [List.length_map, Nat.succ_mul]; omega), List.length_map, show (i + 1) * P1.length + j - P1.length = i * P1.length + j by rw [Nat.succ_mul]; omega]
      have := ih (i := i) (j := j) (by simp at hi; omega) hj
      unfold pg at this
      rw [this]
      rfl
/-- The blocks of a list. -/
def Rl (a : Option Addr) (n k : Nat) : Prop := 0 < n ∧ ∃ off, a = some ⟨k, off, none⟩

theorem prl_ok {s : ByteArray} {es : List Er} (hs : s.size ≤ 10000000) (hv : vErr (s.size : Int) es = 0) (hx : ∀ e ∈ es, e.x.size ≤ 100000) (k : Nat) :
    (0 ≤ (pg (prl s 0 0 es) k).f ∧ (pg (prl s 0 0 es) k).f ≤ 1099511627776) ∧ (0 ≤ (pg (prl s 0 0 es) k).t ∧ (pg (prl s 0 0 es) k).t ≤ 1099511627776) ∧ (0 ≤ (pg (prl s 0 0 es) k).q ∧ (pg (prl s 0 0 es) k).q ≤ 1099511627776) ∧ (pg (prl s 0 0 es) k).x.size ≤ 1099511627776 := by
  obtain ⟨hl, hvl, hok⟩ := vErr_ok hv
  by_cases hk : k < (prl s 0 0 es).length
  · have hm : pg (prl s 0 0 es) k ∈ prl s 0 0 es := by
      unfold pg
      rw [List.getElem?_eq_getElem hk]
      exact List.getElem_mem hk
    have hv0 : vE (s.size : Int) ((0 : Nat) : Int) es = 0 := by
      have := hv
      unfold vErr at this
      rw [if_neg (by omega)] at this
      exact this
    obtain ⟨h1, h2, h3, h4, h5, h6⟩ := prl_fit (f := 0) (q := 0) (c := 0) (Nat.zero_le _) (Nat.zero_le _) hv0 hx _ hm
    obtain ⟨_, hc⟩ := prl_seg (q := 0) hvl hok
    have hx2 : (pg (prl s 0 0 es) k).x.size ≤ 10000000 := by
      cases hkk : (pg (prl s 0 0 es) k).k with
      | false => have := h6 hkk; omega
      | true =>
        have : ∀ {P : List Pc} {r : Nat}, Chn s r P → ∀ p ∈ P, p.k = true → p.x.size ≤ s.size := by
          intro P
          induction P with
          | nil => intro r _ p hp; simp at hp
          | cons c P ih =>
            intro r hcc p hp hkp
            obtain ⟨g1, g2, g3⟩ := hcc
            rcases List.mem_cons.1 hp with rfl | hp
            · obtain ⟨f, t, e1, e2, e3, e4, e5⟩ := g2 hkp
              rw [e5, cut_size e3 e4]; omega
            · exact ih g3 p hp hkp
        have := this hc _ hm hkk
        omega
    omega
  · have : pg (prl s 0 0 es) k = dP := by unfold pg; rw [List.getElem?_eq_none (by omega)]; rfl
    rw [this]
    exact ⟨⟨by decide, by decide⟩, ⟨by decide, by decide⟩, ⟨by decide, by decide⟩, by decide⟩

set_option maxRecDepth 100000 in
set_option maxHeartbeats 4000000 in
theorem kb_giv (s t : ByteArray) (xt xb xs xa : Nat) (a b : Option Addr) (c1 c2 : Nat) (es1 es2 : List Er) (w : World) (hs : s.size ≤ 10000000) (ht : t.size ≤ 10000000)
    (hv1 : vErr (s.size : Int) es1 = 0) (hv2 : vErr (t.size : Int) es2 = 0) (hf1 : ∀ e ∈ es1, e.x.size ≤ 100000) (hf2 : ∀ e ∈ es2, e.x.size ≤ 100000)
    (bt : Boxed w xt 9 (.string t)) (bb : Boxed w xb 38 (.slice b es2.length c2)) (bs : Boxed w xs 9 (.string s)) (ba : Boxed w xa 38 (.slice a es1.length c1))
    (hS1 : ES w.heap.size w a c1 es1) (hS2 : ES w.heap.size w b c2 es2) :
    Giv Tryz.prog 89 #[.pointer (some ⟨xt, 0, none⟩), .pointer (some ⟨xb, 0, none⟩), .pointer (some ⟨xs, 0, none⟩), .pointer (some ⟨xa, 0, none⟩)]
      (fun k => #[(pg (KB s t es1 es2) k).val]) (KB s t es1 es2).length (fun k => k = xs ∨ k = xa ∨ Rl a es1.length k ∨ Rl b es2.length k) w := by
  intro l J T₀ W hW hR hB hO hY h0
  dsimp only at hY hR
  have bt1 : Boxed W xt 9 (.string t) := (hW.block xt bt.lt).trans bt
  have bb1 : Boxed W xb 38 (.slice b es2.length c2) := (hW.block xb bb.lt).trans bb
  have bs1 : Boxed W xs 9 (.string s) := (hW.block xs bs.lt).trans bs
  have ba1 : Boxed W xa 38 (.slice a es1.length c1) := (hW.block xa ba.lt).trans ba
  have cs1 := hS1.on hW
  have cs2 := hS2.on hW
  obtain ⟨b0, hb0⟩ : ∃ b, W.heap.size = b := ⟨_, rfl⟩
  obtain ⟨n1, hn1⟩ : ∃ n, es1.length = n := ⟨_, rfl⟩
  obtain ⟨n2, hn2⟩ : ∃ n, es2.length = n := ⟨_, rfl⟩
  have ct := (bt1.alloc (.cells #[.func (.yield l) #[] #[]] 121)).cell
  have cb := (bb1.alloc (.cells #[.func (.yield l) #[] #[]] 121)).cell
  obtain ⟨W1, hW1⟩ : ∃ V, ((W.alloc (.cells #[.func (.yield l) #[] #[]] 121)).alloc (.cells #[.string t] 9)).alloc (.cells #[.slice b n2 c2] 38) = V := ⟨_, rfl⟩
  have hs1 : W1.heap.size = b0 + 3 := by rw [← hW1, ← hb0]; simp
  have hB1 : Below W.heap.size W W1 := by rw [← hW1]; exact (((Below.refl _ _).alloc (Nat.le_refl _) _).alloc (by simp) _).alloc (by simp; omega) _
  have by1 : Boxed W1 b0 121 (.func (.yield l) #[] #[]) := by rw [← hW1, ← hb0]; exact ((Boxed.new _ _ _).alloc _).alloc _
  have bS : Boxed W1 (b0 + 1) 9 (.string t) := by
    rw [← hW1, ← hb0]
    have := Boxed.new (W.alloc (.cells #[.func (.yield l) #[] #[]] 121)) 9 (.string t)
    rw [World.size_alloc] at this; exact this.alloc _
  have bL : Boxed W1 (b0 + 2) 38 (.slice b n2 c2) := by
    rw [← hW1, ← hb0]
    have := Boxed.new ((W.alloc (.cells #[.func (.yield l) #[] #[]] 121)).alloc (.cells #[.string t] 9)) 38 (.slice b n2 c2)
    rw [World.size_alloc, World.size_alloc] at this; exact this
  rw [hn2] at cb
  have hG := part_giv t (b0 + 2) (b0 + 1) b c2 es2 W1 ht hv2 hf2 (by rw [hn2]; exact bL) bS (cs2.on hB1)
  have hTlt := hB 0 T₀ W h0
  have hJ1 := hO 0 T₀ W W1 h0 (Oth.of_below hB1)
  have hRb : ∀ k, T₀ k → k < W1.heap.size ∧ ¬ (k = b0 + 1 ∨ 0 < es2.length ∧ ∃ off, b = some ⟨k, off, none⟩) := fun k hk => by
    have h1 := hTlt k hk
    refine ⟨by omega, ?_⟩
    rintro (h | h)
    · omega
    · exact hR k (.inr (.inr (.inr h))) hk
  have HR := Lib.hid hR; have HB := Lib.hid hB; have HO := Lib.hid hO; have HY := Lib.hid hY; have HS1 := Lib.hid (cs1.on hB1); have HBS : Hid (Boxed W1 xs 9 (.string s)) := (hB1.block xs bs1.lt).trans bs1
  have HBA : Hid (Boxed W1 xa 38 (.slice a es1.length c1)) := (hB1.block xa ba1.lt).trans ba1
  have HBY := Lib.hid by1; have HG := Lib.hid hG
  have HN1 := Lib.hid hn1; have HN2 := Lib.hid hn2; have HF1 := Lib.hid hf1; have HF2 := Lib.hid hf2; have HV1 := Lib.hid hv1; have HV2 := Lib.hid hv2; have HJ1 := Lib.hid hJ1; have HW1 := Lib.hid hW1; have HB0 := Lib.hid hb0; have HRb := Lib.hid hRb; have HTL := Lib.hid hTlt
  obtain ⟨P1, hP1⟩ : ∃ P, prl s 0 0 es1 = P := ⟨_, rfl⟩
  obtain ⟨P2, hP2⟩ : ∃ P, prl t 0 0 es2 = P := ⟨_, rfl⟩
  have hl1 : P1.length = 2 * n1 + 1 := by rw [← hP1, prl_len, hn1]
  have hl2 : P2.length = 2 * n2 + 1 := by rw [← hP2, prl_len, hn2]
  have ok1 := fun k => prl_ok hs hv1 hf1 k
  have ok2 := fun k => prl_ok ht hv2 hf2 k
  rw [hP1] at ok1
  rw [hP2] at ok2
  obtain ⟨L, hL⟩ : ∃ L, kbl P1 P2 = L := ⟨_, rfl⟩
  have hLL : KB s t es1 es2 = L.filter (·.k) := by unfold KB; rw [hP1, hP2, hL]
  have hLlen : L.length = (2 * n2 + 1) * (2 * n1 + 1) := by rw [← hL, kbl_len, hl1, hl2]
  have hLat : ∀ i j, i < 2 * n2 + 1 → j < 2 * n1 + 1 → pg L (i * (2 * n1 + 1) + j) = comm (pg P1 j) (pg P2 i) := fun i j hi hj => by rw [← hL, ← hl1]; exact kbl_at (by omega) (by omega)
  rw [hLL] at HY ⊢
  have OK1 := Lib.hid ok1; have OK2 := Lib.hid ok2; have HP1 := Lib.hid hP1; have HP2 := Lib.hid hP2; have HLA := Lib.hid hLat; have HLN := Lib.hid hLlen
  clear hR hB hO hY cs1 cs2 bs1 ba1 bt1 bb1 bt bb bs ba hS1 hS2 hn1 hn2 hf1 hf2 hv1 hv2 h0 by1 bS bL hG hTlt hJ1 hRb hW1 hb0 hP1 hP2 ok1 ok2 hL hLL hLat hLlen
  refine callsIn_of_wp_marks Tryz.func89 rfl trivial ?_ rfl
  simp only [Tryz.ntmps89, List.size_toArray, List.length_cons, List.length_nil, Nat.reduceAdd, Nat.reduceSub, Array.replicate_succ, Array.replicate_zero, List.push_toArray, List.append_toArray, List.nil_append, List.cons_append]
  gi_wp2_with (first | (refine ⟨trivial, rfl, ?_⟩; gi_at_call 53; refine (callsIn_wide.2 (parts_any _ _ _ _ _)).mono ?_; rintro e w' ⟨rfl, rfl⟩))
  rw [HW1.out, HB0.out]
  have hmx : Tryz.prog.follows .mixedOrders = true := by kernel_rfl
  have hG := HG.out
  rw [HP2.out, HN2.out] at hG
  have hRb := HRb.out
  rw [HN2.out] at hRb
  have I0 : Rnd T₀ T₀ W1 W1 := Rnd.refl _ _
  refine wpIn_giv (gf := 71) (lb := #[.pointer (some ⟨b0 + 1 + 1, 0, none⟩), .pointer (some ⟨b0 + 1, 0, none⟩)]) rfl (enters_of Tryz.func71 (by kernel_rfl) rfl)
    hG (fun _ => rfl)
    (fun i T A => J (cnt L (i * (2 * n1 + 1))) T A ∧ Rnd T₀ T W1 A)
    (fun i T A C hi ho => ⟨HO.out _ _ _ _ hi.1 (ho.mono hB1.size (fun _ h => h)), ⟨Nat.le_trans hi.2.size ho.size, fun k hk hT => (ho.block k (by have := hi.2.size; omega) (.inl hk)).trans (hi.2.block k hk hT), hi.2.grew⟩⟩)
    (fun i T A hi => HB.out _ _ _ hi.1)
    T₀ hRb ⟨by rw [Nat.zero_mul, cnt_zero]; exact HJ1.out, I0⟩
    (fun k B => { tmps := #[.func (.yield l) #[] #[], .pointer (some ⟨xt, 0, none⟩), .pointer (some ⟨xb, 0, none⟩), .pointer (some ⟨xs, 0, none⟩), .pointer (some ⟨xa, 0, none⟩), .pointer (some ⟨b0, 0, none⟩), .pointer (some ⟨B, 0, none⟩), undef, undef, .string t, .slice b n2 c2,
      .func (.func 71) #[] #[.pointer (some ⟨b0 + 1 + 1, 0, none⟩), .pointer (some ⟨b0 + 1, 0, none⟩)], (pg P2 k).val, undef, undef, undef, undef, undef, undef, undef, undef, undef, undef, undef, undef, undef, undef, undef], defers := [] })
    (fun k => (pg P2 k).cells) 103 ?assign ?body ?done
  case assign =>
    intro l' k A K hK
    simp only [Pc.val, Pc.cells] at hK ⊢
    gi_wp2
    exact hK
  case body =>
    rintro l' i T B A hi hl hlB hBk hTB hl' hTl ⟨hJ, hRn⟩
    have hi2 : i < P2.length := by omega
    obtain ⟨p2, hp2⟩ : ∃ p, pg P2 i = p := ⟨_, rfl⟩
    have o2 := OK2.out i
    rw [hp2] at o2
    have hp2L : ∀ j, j < 2 * n1 + 1 → pg L (i * (2 * n1 + 1) + j) = comm (pg P1 j) p2 := fun j hj => by rw [← hp2]; exact HLA.out i j hi hj
    simp only [hp2] at hBk ⊢
    have hAs := hRn.size
    have hnT : ∀ k, (k = xs ∨ k = xa ∨ Rl a es1.length k ∨ Rl b es2.length k) → ¬ T₀ k := HR.out
    have hTz := HB.out _ _ _ hJ
    have kS : Boxed A xs 9 (.string s) := (hRn.block xs HBS.out.lt (hnT xs (.inl rfl))).trans HBS.out
    have kA : Boxed A xa 38 (.slice a es1.length c1) := (hRn.block xa HBA.out.lt (hnT xa (.inr (.inl rfl)))).trans HBA.out
    have hb0T : ¬ T₀ b0 := fun h => by have := HTL.out b0 h; have := HB0.out; omega
    have kY : Boxed A b0 121 (.func (.yield l) #[] #[]) := (hRn.block b0 HBY.out.lt hb0T).trans HBY.out
    have kE : ES A.heap.size A a c1 es1 := by
      obtain ⟨g1, g2, g3, g4⟩ := HS1.out
      refine ⟨g1, g2, g3, ?_⟩
      rcases g4 with h | ⟨b, off, e1, e2, e3⟩
      · exact .inl h
      · by_cases hz : es1.length = 0
        · exact .inl hz
        · refine .inr ⟨b, off, e1, by omega, fun j hj x hx => ?_⟩
          rw [← e3 j hj x hx]
          exact World.cell?_of_block (a := ⟨b, off + j * 3 + x, none⟩) (hRn.block b e2 (hnT b (.inr (.inr (.inl ⟨by omega, off, e1⟩)))))
    have c0 := kS.cell
    have c1' := kA.cell
    obtain ⟨A2, hA2⟩ : ∃ V, (A.alloc (.cells #[.string s] 9)).alloc (.cells #[.slice a n1 c1] 38) = V := ⟨_, rfl⟩
    have hs2 : A2.heap.size = A.heap.size + 2 := by rw [← hA2]; simp
    have hBA2 : Below A.heap.size A A2 := by rw [← hA2]; exact ((Below.refl _ _).alloc (Nat.le_refl _) _).alloc (by simp) _
    obtain ⟨g, hg⟩ : ∃ g, A.heap.size = g := ⟨_, rfl⟩
    have bS : Boxed A2 g 9 (.string s) := by rw [← hA2, ← hg]; exact (Boxed.new _ _ _).alloc _
    have bL : Boxed A2 (g + 1) 38 (.slice a n1 c1) := by
      rw [← hA2, ← hg]
      have := Boxed.new (A.alloc (.cells #[.string s] 9)) 38 (.slice a n1 c1)
      rw [World.size_alloc] at this; exact this
    rw [HN1.out] at c1'
    have hG1 := part_giv s (g + 1) g a c1 es1 A2 hs HV1.out HF1.out (by rw [HN1.out]; exact bL) bS (kE.on hBA2)
    rw [HP1.out, HN1.out] at hG1
    have hlA : l' < A.heap.size := by obtain ⟨r, hr⟩ := hl'; exact (Array.getElem?_eq_some_iff.1 hr).1
    have hl2' : ∃ r, A2.heap[l']? = some (.loop r) := by obtain ⟨r, hr⟩ := hl'; exact ⟨r, (hBA2.block l' hlA).trans hr⟩
    have hJ2 := HO.out _ _ _ _ hJ (Oth.of_below (hBA2.mono (by omega)) : Oth T W.heap.size A A2)
    have hT2 : ∀ k, T k → k < A2.heap.size ∧ ¬ (k = g ∨ 0 < n1 ∧ ∃ off, a = some ⟨k, off, none⟩) := fun k hk => by
      have h1 := hTz k hk
      refine ⟨by omega, ?_⟩
      rintro (h | ⟨h, off, ho⟩)
      · omega
      · rcases hRn.grew k hk with h2 | h2
        · exact hnT k (.inr (.inr (.inl ⟨by rw [HN1.out]; exact h, off, ho⟩))) h2
        · rcases HS1.out.cells with h3 | ⟨b', off', e1, e2, _⟩
          · have := HN1.out; omega
          · rw [ho] at e1; cases e1; omega
    have hbA2 : Blk A2 B 103 p2.cells := hBk.same (hBA2.block B hBk.lt)
    have HJ2 := Lib.hid hJ2; have HBK := Lib.hid hbA2; have HRN := Lib.hid hRn; have HA2 := Lib.hid hA2; have HGG := Lib.hid hg; have HG1 := Lib.hid hG1; have HL2 := Lib.hid hl2'; have HBA2 := Lib.hid hBA2
    have HKY : Hid (Boxed A2 b0 121 (.func (.yield l) #[] #[])) := (hBA2.block b0 kY.lt).trans kY
    have HP2L := Lib.hid hp2L; have HT2 := Lib.hid hT2; have HTZ := Lib.hid hTz; have HNB := Lib.hid hTB
    have hBlt := hBk.lt
    have zW : W.heap.size ≤ A2.heap.size := by have := hB1.size; omega
    clear hJ hJ2 hBk hRn hA2 hg hG1 hl2' hBA2 bS bL kS kA kY kE hp2 hp2L hT2 hTz hTB hTl hl' hnT
    gi_wp2_with (first | (refine ⟨trivial, rfl, ?_⟩; gi_at_call 53; refine (CallsIn.inRound l' (callsIn_wide.2 (parts_any _ _ _ _ _))).mono ?_; rintro e w' ⟨rfl, rfl⟩))
    rw [HA2.out, HGG.out]
    refine wpIn_givN HL2.out (gf := 71) (lb := #[.pointer (some ⟨g + 1, 0, none⟩), .pointer (some ⟨g, 0, none⟩)]) rfl (enters_of Tryz.func71 (by kernel_rfl) rfl)
      HG1.out (fun _ => rfl)
      (fun j T' A' => J (cnt L (i * (2 * n1 + 1) + j)) T' A' ∧ Rnd T T' A2 A')
      (fun j T' A' C hi ho => ⟨HO.out _ _ _ _ hi.1 (ho.mono (by omega) (fun _ h => h)), ⟨Nat.le_trans hi.2.size ho.size, fun k hk hT => (ho.block k (by have := hi.2.size; omega) (.inl hk)).trans (hi.2.block k hk hT), hi.2.grew⟩⟩)
      (fun j T' A' hi => HB.out _ _ _ hi.1)
      T HT2.out ⟨HJ2.out, Rnd.refl _ _⟩
      (fun k B' => { tmps := #[.func (.yield l) #[] #[], .pointer (some ⟨xt, 0, none⟩), .pointer (some ⟨xb, 0, none⟩), .pointer (some ⟨xs, 0, none⟩), .pointer (some ⟨xa, 0, none⟩), .pointer (some ⟨b0, 0, none⟩), .pointer (some ⟨B, 0, none⟩), .pointer (some ⟨B', 0, none⟩), undef, .string t, .slice b n2 c2,
        .func (.func 71) #[] #[.pointer (some ⟨b0 + 1 + 1, 0, none⟩), .pointer (some ⟨b0 + 1, 0, none⟩)], p2.val, .string s, .slice a n1 c1, .func (.func 71) #[] #[.pointer (some ⟨g + 1, 0, none⟩), .pointer (some ⟨g, 0, none⟩)], (pg P1 k).val, undef, undef, undef, undef, undef, undef, undef, undef, undef, undef, undef], defers := [] })
      (fun k => (pg P1 k).cells) 103 ?assign2 ?body2 ?done2
    case assign2 =>
      intro l2 k A' K hK
      simp only [Pc.val, Pc.cells] at hK ⊢
      gi_wp2
      exact hK
    case body2 =>
      rintro l2 j T' B' A' hj hl3 hlB3 hBk3 hTB3 hl3' hTl3 ⟨hJ3, hRn3⟩
      obtain ⟨p1, hp1⟩ : ∃ p, pg P1 j = p := ⟨_, rfl⟩
      have o1 := OK1.out j
      have hat := HP2L.out j hj
      rw [hp1] at o1 hat
      simp only [hp1] at hBk3 ⊢
      have hz3 := hRn3.size
      have kB : Blk A' B 103 p2.cells := HBK.out.same (hRn3.block B HBK.out.lt HNB.out)
      have kY : Boxed A' b0 121 (.func (.yield l) #[] #[]) := (hRn3.block b0 HKY.out.lt (fun h => (HRN.out.grew b0 h).elim hb0T (fun e => by omega))).trans HKY.out
      have CC := Lib.hid (common_any p1 p2 A' o1.1 o1.2.2.1 o1.2.2.2 o2.1 o2.2.1 o2.2.2.1)
      obtain ⟨R, hR⟩ : ∃ R, comm p1 p2 = R := ⟨_, rfl⟩
      rw [hR] at CC hat
      obtain ⟨f1, t1, q1, x1, k1⟩ := p1
      obtain ⟨f2, t2, q2, x2, k2⟩ := p2
      simp only [Pc.val, Pc.cells] at hBk3 kB CC ⊢
      obtain ⟨u0, u1, u2, u3, u4⟩ := cells5 hBk3
      obtain ⟨v0, v1, v2, v3, v4⟩ := cells5 kB
      have HJ3 := Lib.hid hJ3; have HRN3 := Lib.hid hRn3; have HKY3 := Lib.hid kY
      have hmm : i * (2 * n1 + 1) + j < L.length := by
        rw [HLN.out]
        have : (i + 1) * (2 * n1 + 1) ≤ (2 * n2 + 1) * (2 * n1 + 1) := Nat.mul_le_mul_right _ hi
        rw [Nat.succ_mul] at this
        omega
      have hcs := cnt_succ hmm
      have hcg := fun h => cnt_get hmm h
      rw [hat] at hcs hcg
      have HCS := Lib.hid hcs; have HCG := Lib.hid hcg
      clear hBk3 kB kY hJ3 hRn3 hat hR hp1 o1 o2 hTB3 hTl3 hl3' hcs hcg
      obtain ⟨rf, rt, rq, rx, rk⟩ := R
      have hzA : A'.heap.size ≤ A'.heap.size := Nat.le_refl _
      simp only at CC HCG HCS
      cases rk with
      | false =>
        gi_wp2_with (refine ⟨trivial, rfl, ?_⟩; gi_at_call 90; refine (CallsIn.inRound l2 (callsIn_wide.2 CC.out)).mono ?_; rintro e w5 ⟨rfl, hb5⟩)
        refine ⟨fun _ h => (by cases h), ?_⟩
        have hb6 : Below A'.heap.size A' (w5.alloc (.cells #[.int .i64 rf, .int .i64 rt, .int .i64 rq, .string rx, .bool false] 103)) := hb5.alloc hb5.size _
        have hJ6 := HO.out _ _ _ _ HJ3.out (Oth.of_below hb6 : Oth T' W.heap.size A' _)
        have hr6 : Rnd T' T' A' (w5.alloc (.cells #[.int .i64 rf, .int .i64 rt, .int .i64 rq, .string rx, .bool false] 103)) := Rnd.of_below hb6
        have hcs := HCS.out
        simp only [Bool.false_eq_true, if_false, Nat.add_zero] at hcs
        rw [← hcs] at hJ6
        have HF := Lib.hid (And.intro hJ6 hr6)
        clear hb6 hJ6 hr6 hcs hb5
        gi_wp2
        exact ⟨T', ⟨HF.out.1, HRN3.out.trans HF.out.2⟩, HF.out.2⟩
      | true =>
        obtain ⟨hc1, hc2⟩ := HCG.out rfl
        gi_wp2_with (refine ⟨trivial, rfl, ?_⟩; gi_at_call 90; refine (CallsIn.inRound l2 (callsIn_wide.2 CC.out)).mono ?_; rintro e w5 ⟨rfl, hb5⟩; have hb6 : Below A'.heap.size A' (w5.alloc (.cells #[.int .i64 rf, .int .i64 rt, .int .i64 rq, .string rx, .bool true] 103)) := hb5.alloc hb5.size _; have c9 := Boxed.cell (show Boxed _ b0 121 (.func (.yield l) #[] #[]) from (hb6.block b0 HKY3.out.lt).trans HKY3.out); have hJ6 := HO.out _ _ _ _ HJ3.out (Oth.of_below hb6 : Oth T' W.heap.size A' _); have hY1 := HY.out _ T' _ hc1 (by have := hb6.size; omega) hJ6; rw [hc2] at hY1; obtain ⟨fn, tm, asg, bo, hy, hR1⟩ := hY1; simp only [Pc.val] at hy; have HR1 := Lib.hid hR1; have HB6 := Lib.hid hb6; clear hR1 hb6 hJ6 hb5)
        refine ⟨rfl, HR1.out.mono ?_⟩
        rintro e w6 ⟨rfl, T6, hJ7, hr7⟩
        have hr8 : Rnd T' T6 A' w6 := (Rnd.of_below HB6.out).trans hr7
        have hcs := HCS.out
        simp only [if_true] at hcs
        rw [← hcs] at hJ7
        have HF := Lib.hid (And.intro hJ7 hr8)
        clear hJ7 hr7 hr8 hcs
        gi_wp2
        exact ⟨T6, ⟨HF.out.1, HRN3.out.trans HF.out.2⟩, HF.out.2⟩
    case done2 =>
      rintro T' A' hA' ⟨hJ3, hRn3⟩
      rw [show i * (2 * n1 + 1) + (2 * n1 + 1) = (i + 1) * (2 * n1 + 1) from (Nat.succ_mul i (2 * n1 + 1)).symm] at hJ3
      have HJ3 := Lib.hid hJ3; have HRN3 := Lib.hid hRn3
      clear hJ3 hRn3
      gi_wp2
      have hr : Rnd T T' A A' := (Rnd.of_below HBA2.out).trans HRN3.out
      exact ⟨T', ⟨HJ3.out, HRN.out.trans hr⟩, hr⟩
  case done =>
    rintro T A hA ⟨hJ, hRn⟩ hTw hK
    rw [cnt_all (by rw [HLN.out]; exact Nat.le_refl _)] at hJ
    have HJJ := Lib.hid hJ
    clear hJ
    gi_wp2
    refine ⟨by simp, .inl ⟨_, _, rfl, run_takeDeferred hK, ?_⟩⟩
    refine ⟨_, results_none rfl _ _ _, ⟨_, rfl⟩, T, HO.out _ _ _ _ HJJ.out (Oth.putObj _ hB1.size hTw)⟩

end Go.Proofs.YtkehgoailhpenaaGreat

/- The contract of the program's Invert. Conditions: texts of at most 10000000 bytes, lists of at most 1000 edits. -/
namespace Go.Proofs.YtkehgoailhpenaaGreat
open Go.RowKit Go.Shelf
set_option linter.unusedVariables false
attribute [local go_sem] Oper.semAt_some

/-- The edits that lead back, or none if the edits are not valid. -/
def ivS (s : ByteArray) (es : List Er) : List Er := if vErr (s.size : Int) es = 0 then ers (invl (sb s) 0 0 (ees es)) else []

theorem ivl_len (s : ByteArray) : ∀ l : List Pc, (ivl s l).length ≤ l.length := by
  intro l
  induction l with
  | nil => exact Nat.le_refl _
  | cons p l ih =>
    simp only [ivl]
    split
    · simp only [List.length_cons]; omega
    · simp only [List.length_cons]; omega

end Go.Proofs.YtkehgoailhpenaaGreat

/- The mathematics of Diff: the longest common prefix and suffix determine one edit, which leads from one text to the other. It has no conditions. -/
namespace Go.Proofs.YtkehgoailhpenaaGreat
open Go.RowKit
set_option linter.unusedVariables false

/-- p is the length of the longest common prefix. -/
def Pre (a b : List Int) (p : Nat) : Prop := p ≤ a.length ∧ p ≤ b.length ∧ (∀ i, i < p → a[i]? = b[i]?) ∧ (p = a.length ∨ p = b.length ∨ a[p]? ≠ b[p]?)
/-- q is the length of the longest common suffix behind p. -/
def Suf (a b : List Int) (p q : Nat) : Prop := p + q ≤ a.length ∧ p + q ≤ b.length ∧ (∀ i, i < q → a[a.length - 1 - i]? = b[b.length - 1 - i]?) ∧ (p + q = a.length ∨ p + q = b.length ∨ a[a.length - 1 - q]? ≠ b[b.length - 1 - q]?)
theorem Pre.det {a b : List Int} {p p' : Nat} (h : Pre a b p) (k : Pre a b p') : p = p' := by
  obtain ⟨h1, h2, h3, h4⟩ := h
  obtain ⟨k1, k2, k3, k4⟩ := k
  rcases Nat.lt_trichotomy p p' with g | g | g
  · rcases h4 with h | h | h
    · omega
    · omega
    · exact absurd (k3 p g) h
  · exact g
  · rcases k4 with h | h | h
    · omega
    · omega
    · exact absurd (h3 p' g) h
theorem Suf.det {a b : List Int} {p q q' : Nat} (h : Suf a b p q) (k : Suf a b p q') : q = q' := by
  obtain ⟨h1, h2, h3, h4⟩ := h
  obtain ⟨k1, k2, k3, k4⟩ := k
  rcases Nat.lt_trichotomy q q' with g | g | g
  · rcases h4 with h | h | h
    · omega
    · omega
    · exact absurd (k3 q g) h
  · exact g
  · rcases k4 with h | h | h
    · omega
    · omega
    · exact absurd (h3 q' g) h
/-- The edit of Diff. -/
def dif (a b : List Int) (p q : Nat) : Ee := ⟨p, a.length - q, (b.drop p).take (b.length - q - p)⟩
theorem dif_vld {a b : List Int} {p q : Nat} (hp : Pre a b p) (hq : Suf a b p q) : Vld a.length 0 [dif a b p q] := by
  obtain ⟨k1, k2, _, _⟩ := hq
  exact ⟨Nat.zero_le _, by simp only [dif]; omega, by simp only [dif]; omega, by simp only [dif, Vld]; omega⟩
/-- The edit leads to the second text. -/
theorem dif_appl {a b : List Int} {p q : Nat} (hp : Pre a b p) (hq : Suf a b p q) : appl a 0 [dif a b p q] = b := by
  obtain ⟨h1, h2, h3, _⟩ := hp
  obtain ⟨k1, k2, k3, _⟩ := hq
  have e1 : a.take p = b.take p := by
    apply List.ext_getElem?
    intro i
    rw [List.getElem?_take, List.getElem?_take]
    split
    · exact h3 i (by assumption)
    · rfl
  have e2 : a.drop (a.length - q) = b.drop (b.length - q) := by
    apply List.ext_getElem?
    intro i
    rw [List.getElem?_drop, List.getElem?_drop]
    by_cases hi : i < q
    · have := k3 (q - 1 - i) (by omega)
      rw [show a.length - 1 - (q - 1 - i) = a.length - q + i by omega, show b.length - 1 - (q - 1 - i) = b.length - q + i by omega] at this
      exact this
    · rw [List.getElem?_eq_none (by omega), List.getElem?_eq_none (by omega)]
  simp only [appl, dif, List.drop_zero, Nat.sub_zero]
  rw [e1, e2]
  have e3 : b.drop (b.length - q) = (b.drop p).drop (b.length - q - p) := by rw [List.drop_drop]; congr 1; omega
  rw [e3, List.take_append_drop, List.take_append_drop]
/-- What the edit replaces and its text differ, at the first byte and at the last one where both have one. -/
theorem dif_ends {a b : List Int} {p q : Nat} (hp : Pre a b p) (hq : Suf a b p q) (h0 : p + q < a.length) (h1 : p + q < b.length) : a[p]? ≠ b[p]? ∧ a[a.length - 1 - q]? ≠ b[b.length - 1 - q]? := by
  obtain ⟨_, _, _, h⟩ := hp
  obtain ⟨_, _, _, k⟩ := hq
  constructor
  · rcases h with h | h | h
    · omega
    · omega
    · exact h
  · rcases k with k | k | k
    · omega
    · omega
    · exact k
theorem dif_ne {a b : List Int} {p q : Nat} (hp : Pre a b p) (hq : Suf a b p q) (hab : a ≠ b) : ¬ (p + q = a.length ∧ p + q = b.length) := by
  rintro ⟨e1, e2⟩
  have h := dif_appl hp hq
  simp only [appl, dif, List.drop_zero, Nat.sub_zero] at h
  rw [show b.length - q - p = 0 by omega, List.take_zero, List.nil_append, show a.length - q = p by omega, List.take_append_drop] at h
  exact hab h

end Go.Proofs.YtkehgoailhpenaaGreat
