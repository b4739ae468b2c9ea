/- Texts of one claim, put together: EPc, EPart, EBld, EApp, EDiff, EDf, EBd, EGw, ECk, ECm, ECo. Each part says what it proves and under which conditions. -/
import Derived.Test.YtkehgoailhpenaaGreatPE04
import Derived.Deep.RegionHeld3
import Derived.Lib.Builder
import Derived.Lib.AppendStr
import Derived.Lib.UnsafeStr
import Derived.Laws.Externs
import Derived.Shelf.RegionOpenPlain
import Derived.BigQuiet
import Derived.Deep.QuietTactic
import Derived.Lib.MinMax
import Derived.BigRegion

/- The parts of a new text, and the contracts of end and parts. It has no conditions. -/
namespace Go.Proofs.YtkehgoailhpenaaGreat
open Go.RowKit Go.Shelf
set_option linter.unusedVariables false

/-- A part of a new text. -/
structure Pc where
  f : Int
  t : Int
  q : Int
  x : ByteArray
  k : Bool
def Pc.val (p : Pc) : Value := .agg #[.int .i64 p.f, .int .i64 p.t, .int .i64 p.q, .string p.x, .bool p.k]
def dP : Pc := ⟨0, 0, 0, ⟨#[]⟩, false⟩
def Pc.cells (p : Pc) : Array Value := #[.int .i64 p.f, .int .i64 p.t, .int .i64 p.q, .string p.x, .bool p.k]
/-- The parts of the new text, from offset f of the old one and q of the new one on. -/
def prl (s : ByteArray) (f q : Nat) : List Er → List Pc
  | [] => [⟨f, s.size, q, s.extract f s.size, true⟩]
  | e :: l => ⟨f, e.f, q, s.extract f e.f.toNat, true⟩ :: ⟨e.f, e.t, (q : Int) + (e.f - f), e.x, false⟩ :: prl s e.t.toNat (q + (e.f.toNat - f) + e.x.size) l
theorem prl_len (s : ByteArray) : ∀ (l : List Er) (f q : Nat), (prl s f q l).length = 2 * l.length + 1 := by
  intro l
  induction l with
  | nil => intro f q; rfl
  | cons e l ih => intro f q; simp only [prl, List.length_cons, ih]; omega
def pg (l : List Pc) (k : Nat) : Pc := l[k]?.getD dP
theorem pg_drop {l m : List Pc} {j : Nat} {p : Pc} (h : l.drop j = p :: m) : pg l j = p := by
  have : (l.drop j)[0]? = some p := by rw [h]; rfl
  rw [List.getElem?_drop, Nat.add_zero] at this
  simp [pg, this]
theorem drop_up {α : Type} {l m : List α} {j : Nat} {p : α} (h : l.drop j = p :: m) : l.drop (j + 1) = m := by
  rw [← List.drop_drop, h]; rfl

set_option maxRecDepth 100000 in
theorem end_any (p : Pc) (w : World) (h1 : -9223372036854775808 ≤ p.q + p.x.size) (h2 : p.q + p.x.size ≤ 9223372036854775807) :
    Calls Tryz.prog 72 #[p.val] w fun e w' => e = .returned (.int .i64 (p.q + p.x.size)) ∧ Below w.heap.size w w' := by
  obtain ⟨f, t, q, x, k⟩ := p
  simp only [Pc.val] at h1 h2 ⊢
  have H := Lib.hid ((Below.refl w.heap.size w).alloc (Nat.le_refl _) (.cells #[.int .i64 f, .int .i64 t, .int .i64 q, .string x, .bool k] 103))
  go_enter Tryz.func72, Tryz.ntmps72
  go_wp2
  go_ret
  exact ⟨rfl, H.out⟩

theorem parts_any (s : ByteArray) (a : Option Addr) (n cap : Nat) (w : World) :
    Calls Tryz.prog 53 #[.string s, .slice a n cap] w fun e w' =>
      e = .returned (.func (.func 71) #[] #[.pointer (some ⟨w.heap.size + 1, 0, none⟩), .pointer (some ⟨w.heap.size, 0, none⟩)]) ∧ w' = (w.alloc (.cells #[.string s] 9)).alloc (.cells #[.slice a n cap] 38) := by
  go_enter Tryz.func53, Tryz.ntmps53
  go_wp2
  go_ret
  exact ⟨rfl, rfl⟩

end Go.Proofs.YtkehgoailhpenaaGreat

/- The contract of the iterator that parts returns. Conditions: a valid list of at most 64 edits for a text of at most 10000000 bytes. -/
namespace Go.Proofs.YtkehgoailhpenaaGreat
open Go.RowKit Go.Shelf
set_option linter.unusedVariables false
attribute [local go_sem] Oper.semAt_some

set_option maxRecDepth 100000 in
set_option maxHeartbeats 1000000 in
theorem part_giv (s : ByteArray) (bl bs : Nat) (a : Option Addr) (cap : Nat) (es : List Er) (w : World) (hs : s.size ≤ 10000000) (hv : vErr (s.size : Int) es = 0) (hfit : ∀ e ∈ es, e.x.size ≤ 100000)
    (hbl : Boxed w bl 38 (.slice a es.length cap)) (hbs : Boxed w bs 9 (.string s)) (hS : ES w.heap.size w a cap es) :
    Giv Tryz.prog 71 #[.pointer (some ⟨bl, 0, none⟩), .pointer (some ⟨bs, 0, none⟩)] (fun k => #[(pg (prl s 0 0 es) k).val]) (2 * es.length + 1) (fun k => k = bs ∨ 0 < es.length ∧ ∃ off, a = some ⟨k, off, none⟩) w := by
  intro l J T₀ W hW hR hB hO hY h0
  obtain ⟨n, hn⟩ : ∃ n, es.length = n := ⟨_, rfl⟩
  obtain ⟨hlim, hvld, hbd⟩ := vErr_ok hv
  have hbl0 : Boxed W bl 38 (.slice a es.length cap) := (hW.block bl hbl.lt).trans hbl
  have hbl1 := hbl0.cell
  dsimp only at hY hR
  have hbs1 : Boxed W bs 9 (.string s) := (hW.block bs hbs.lt).trans hbs
  have hlbs := hbs1.lt
  have hsz := hW.size
  have HV0 : Hid (vE (s.size : Int) ((0 : Nat) : Int) (es.drop 0) = 0) := by
    have := hv
    unfold vErr at this
    rw [if_neg (by omega)] at this
    exact this
  have HP0s : Hid (prl s 0 0 (es.drop 0) = (prl s 0 0 es).drop (2 * 0)) := rfl
  obtain ⟨b, off, hab, hcell⟩ := (hS.on hW).cells.core
  rw [hn] at hbl1 hab hcell hlim hY hR ⊢
  have HN := Lib.hid hn; have HAB := Lib.hid hab; have HC := Lib.hid hcell; have HR := Lib.hid hR; have HB := Lib.hid hB; have HO := Lib.hid hO; have HY := Lib.hid hY; have HD := Lib.hid hbd; have HF := Lib.hid hfit; have HBS := Lib.hid hbs1
  have hcap := hS.le
  rw [hn] at hcap
  have HX : Hid (hbs1.lt = hbs1.lt) := rfl
  clear hv hvld hab hcell hR hB hO hY hbd hfit hS hbl hbs hbs1 hbl0 hn HX
  refine callsIn_of_wp Tryz.func71 rfl trivial ?_ rfl
  simp only [Tryz.ntmps71, List.size_toArray, List.length_cons, List.length_nil, Nat.reduceAdd, Nat.reduceSub, Array.replicate_succ, Array.replicate_zero, List.push_toArray, List.append_toArray, List.nil_append, List.cons_append]
  gi_wp2
  gi_loopw [4, 5, 12] (fun u v i wr => ∃ (k f q : Nat) (T : Nat → Prop), k ≤ n ∧ u = .int .i64 (f : Int) ∧ v = .int .i64 (q : Int) ∧ i = .int .i64 (k : Int) ∧ f ≤ s.size ∧ q ≤ f + 100000 * k ∧
      Hid (prl s f q (es.drop k) = (prl s 0 0 es).drop (2 * k)) ∧ Hid (vE (s.size : Int) (f : Int) (es.drop k) = 0) ∧ Hid (J (2 * k) T wr) ∧ Hid (Rnd T₀ T W wr)) (fun _ _ i _ => n - (intOf i).toNat)
  case atStart => exact ⟨0, 0, 0, T₀, by omega, rfl, rfl, rfl, by omega, by omega, HP0s, HV0, h0, Rnd.refl _ _⟩
  case round =>
    obtain ⟨k, f, q, T, hk, rfl, rfl, rfl, hf, hq, HP, HV, HJ, HRn⟩ := hrel
    by_cases hlt : k < n
    · obtain ⟨ha, hbB⟩ := HAB.out.resolve_left (by omega)
      subst ha
      have hkl : k < es.length := by rw [HN.out]; exact hlt
      have hstep := HV.out
      have hpp := HP.out
      rw [eg_drop hkl] at hstep hpp
      obtain ⟨hd0, hd1, hd2⟩ := HD.out _ (eg_mem hkl)
      have hxl := HF.out _ (eg_mem hkl)
      obtain ⟨x, hx⟩ : ∃ x : Nat, (eg es k).f = (x : Int) := ⟨(eg es k).f.toNat, by omega⟩
      obtain ⟨y, hy⟩ : ∃ y : Nat, (eg es k).t = (y : Int) := ⟨(eg es k).t.toNat, by omega⟩
      obtain ⟨z, hz⟩ : ∃ z, (eg es k).x = z := ⟨_, rfl⟩
      simp only [vE] at hstep
      simp only [prl] at hpp
      rw [hx, hy, hz] at hpp
      rw [hx, hy] at hstep
      rw [hx] at hd0 hd1
      rw [hy] at hd1 hd2
      simp only [Int.toNat_natCast] at hpp
      rw [hz] at hxl
      rw [if_neg (by omega)] at hstep
      by_cases hfx : (x : Int) < (f : Int)
      · rw [if_pos hfx] at hstep; omega
      rw [if_neg hfx] at hstep
      have hxy : x ≤ y := by omega
      have hys : y ≤ s.size := by omega
      have hfx2 : f ≤ x := by omega
      have hp1 := pg_drop hpp.symm
      have hp2 := pg_drop (drop_up hpp.symm)
      have HPn : Hid (prl s y (q + (x - f) + z.size) (es.drop (k + 1)) = (prl s 0 0 es).drop (2 * (k + 1))) := (drop_up (drop_up hpp.symm)).symm
      have HVn : Hid (vE (s.size : Int) (y : Int) (es.drop (k + 1)) = 0) := hstep
      have hwb : wr.heap[b]? = W.heap[b]? := HRn.out.block b hbB (HR.out b (.inr ⟨by omega, off, rfl⟩))
      have hwbs : wr.heap[bs]? = W.heap[bs]? := HRn.out.block bs hlbs (HR.out bs (.inl rfl))
      obtain ⟨c0, c1, c2⟩ := HC.out k hlt wr hwb
      rw [hx] at c0
      rw [hy] at c1
      rw [hz] at c2
      have hcs : Boxed wr bs 9 (.string s) := hwbs.trans HBS.out
      have cs0 := ((hcs.alloc (.cells #[.int .i64 (x : Int), .int .i64 (y : Int), .string z] 84)).alloc (.cells #[.int .i64 0, .int .i64 0, .int .i64 0, .string ⟨#[]⟩, .bool false] 103)).cell
      have cs1 := (hcs.alloc (.cells #[.int .i64 (x : Int), .int .i64 (y : Int), .string z] 84)).cell
      have hkk : (k : Int) < (n : Int) := by omega
      have hBr : W.heap.size ≤ wr.heap.size := HRn.out.size
      have h1 := Lib.hid hp1; have h2 := Lib.hid hp2; have h3 := Lib.hid hwb; have h4 := Lib.hid hwbs
      clear hstep hpp hp1 hp2 hwb hwbs hx hy hz hcs
      gi_wp2
      gi_region
      obtain ⟨p0, hp0⟩ : ∃ p, wr.heap.size = p := ⟨_, rfl⟩
      obtain ⟨x1, hx1⟩ : ∃ r, s.extract f x = r := ⟨_, rfl⟩
      have hx1s : x1.size = x - f := by rw [← hx1, ByteArray.size_extract]; omega
      obtain ⟨W2, hW2⟩ : ∃ W2, ((wr.alloc (.cells #[.int .i64 (x : Int), .int .i64 (y : Int), .string z] 84)).alloc (.cells #[.int .i64 (f : Int), .int .i64 (x : Int), .int .i64 (q : Int), .string x1, .bool true] 103)).drew = W2 := ⟨_, rfl⟩
      rw [hx1, hW2, hp0]
      rw [hp0] at hBr
      have bE : Blk W2 p0 84 #[.int .i64 (x : Int), .int .i64 (y : Int), .string z] := by
        rw [← hW2, ← hp0]; exact (Blk.new wr _ _).alloc _
      have bP : Blk W2 (p0 + 1) 103 #[.int .i64 (f : Int), .int .i64 (x : Int), .int .i64 (q : Int), .string x1, .bool true] := by
        rw [← hW2, ← hp0]
        have := Blk.new (wr.alloc (.cells #[.int .i64 (x : Int), .int .i64 (y : Int), .string z] 84)) 103 #[.int .i64 (f : Int), .int .i64 (x : Int), .int .i64 (q : Int), .string x1, .bool true]
        rw [World.size_alloc] at this
        exact this
      have s2 : W2.heap.size = p0 + 2 := by rw [← hW2, ← hp0]; show (World.alloc (World.alloc wr _) _).heap.size = _; simp
      have b2 : Below p0 wr W2 := by rw [← hW2, ← hp0]; exact (((Below.refl _ _).alloc (Nat.le_refl _) _).alloc (by simp) _).drew
      have C := Lib.hid (fun W => end_any ⟨f, x, q, x1, true⟩ W (by show -9223372036854775808 ≤ (q : Int) + (x1.size : Int); omega) (by show (q : Int) + (x1.size : Int) ≤ 9223372036854775807; omega))
      simp only [Pc.val] at C
      obtain ⟨S, hSd⟩ : ∃ S : World → Prop, (fun w' => w'.cell? ⟨p0, 0, none⟩ = some (.int .i64 (x : Int)) ∧ w'.cell? ⟨p0, 1, none⟩ = some (.int .i64 (y : Int)) ∧ w'.cell? ⟨p0, 2, none⟩ = some (.string z) ∧ w'.cell? ⟨p0 + 1, 0, none⟩ = some (.int .i64 (f : Int)) ∧ w'.cell? ⟨p0 + 1, 1, none⟩ = some (.int .i64 (x : Int)) ∧ w'.cell? ⟨p0 + 1, 2, none⟩ = some (.int .i64 (q : Int)) ∧ w'.cell? ⟨p0 + 1, 3, none⟩ = some (.string x1) ∧ w'.cell? ⟨p0 + 1, 4, none⟩ = some (.bool true) ∧ p0 + 2 ≤ w'.heap.size) = S := ⟨_, rfl⟩
      have hSe : ∀ w', S w' ↔ (w'.cell? ⟨p0, 0, none⟩ = some (.int .i64 (x : Int)) ∧ w'.cell? ⟨p0, 1, none⟩ = some (.int .i64 (y : Int)) ∧ w'.cell? ⟨p0, 2, none⟩ = some (.string z) ∧ w'.cell? ⟨p0 + 1, 0, none⟩ = some (.int .i64 (f : Int)) ∧ w'.cell? ⟨p0 + 1, 1, none⟩ = some (.int .i64 (x : Int)) ∧ w'.cell? ⟨p0 + 1, 2, none⟩ = some (.int .i64 (q : Int)) ∧ w'.cell? ⟨p0 + 1, 3, none⟩ = some (.string x1) ∧ w'.cell? ⟨p0 + 1, 4, none⟩ = some (.bool true) ∧ p0 + 2 ≤ w'.heap.size) := fun w' => by rw [← hSd]
      have s0 : S W2.drew := by
        rw [hSe]
        exact ⟨by simpa using bE.cell 0, by simpa using bE.cell 1, by simpa using bE.cell 2, by simpa using bP.cell 0, by simpa using bP.cell 1, by simpa using bP.cell 2, by simpa using bP.cell 3, by simpa using bP.cell 4, by show p0 + 2 ≤ W2.heap.size; omega⟩
      have KC : ∀ w1 w', S w1 → Below w1.heap.size w1 w' → S w' := by
        intro w1 w' h hb
        rw [hSe] at h ⊢
        obtain ⟨g0, g1, g2, g3, g4, g5, g6, g7, g8⟩ := h
        have hh : ∀ b i, b < p0 + 2 → w'.cell? ⟨b, i, none⟩ = w1.cell? ⟨b, i, none⟩ := fun b i hb2 => hb.cell (p := ⟨b, i, none⟩) (by show b < w1.heap.size; omega)
        refine ⟨(hh _ _ (by omega)).trans g0, (hh _ _ (by omega)).trans g1, (hh _ _ (by omega)).trans g2, (hh _ _ (by omega)).trans g3, (hh _ _ (by omega)).trans g4, (hh _ _ (by omega)).trans g5, (hh _ _ (by omega)).trans g6, (hh _ _ (by omega)).trans g7, by have := hb.size; omega⟩
      have KA : ∀ w1 o, S w1 → S (w1.alloc o) := fun w1 o h => KC _ _ h ((Below.refl _ _).alloc (Nat.le_refl _) _)
      have KS : ∀ w1 B v0 v1 v2 v3 v4, S w1 → p0 + 2 ≤ B → S (((((w1.setCell ⟨B, 0, none⟩ v0).setCell ⟨B, 1, none⟩ v1).setCell ⟨B, 2, none⟩ v2).setCell ⟨B, 3, none⟩ v3).setCell ⟨B, 4, none⟩ v4) := by
        intro w1 B v0 v1 v2 v3 v4 h hB
        have hb : Below (p0 + 2) w1 (((((w1.setCell ⟨B, 0, none⟩ v0).setCell ⟨B, 1, none⟩ v1).setCell ⟨B, 2, none⟩ v2).setCell ⟨B, 3, none⟩ v3).setCell ⟨B, 4, none⟩ v4) :=
          (((((Below.refl _ _).setCell (p := ⟨B, 0, none⟩) hB _).setCell (p := ⟨B, 1, none⟩) hB _).setCell (p := ⟨B, 2, none⟩) hB _).setCell (p := ⟨B, 3, none⟩) hB _).setCell (p := ⟨B, 4, none⟩) hB _
        rw [hSe] at h ⊢
        obtain ⟨g0, g1, g2, g3, g4, g5, g6, g7, g8⟩ := h
        have hh : ∀ b i, b < p0 + 2 → World.cell? (((((w1.setCell ⟨B, 0, none⟩ v0).setCell ⟨B, 1, none⟩ v1).setCell ⟨B, 2, none⟩ v2).setCell ⟨B, 3, none⟩ v3).setCell ⟨B, 4, none⟩ v4) ⟨b, i, none⟩ = w1.cell? ⟨b, i, none⟩ := fun b i hb2 => hb.cell (p := ⟨b, i, none⟩) hb2
        refine ⟨(hh _ _ (by omega)).trans g0, (hh _ _ (by omega)).trans g1, (hh _ _ (by omega)).trans g2, (hh _ _ (by omega)).trans g3, (hh _ _ (by omega)).trans g4, (hh _ _ (by omega)).trans g5, (hh _ _ (by omega)).trans g6, (hh _ _ (by omega)).trans g7, by have := hb.size; omega⟩
      have HKS := Lib.hid KS
      clear KS
      have HB2s : p0 + 2 ≤ W2.heap.size := by omega
      obtain ⟨k0, k1, k2, k3, k4, k5, k6, k7, _⟩ := (hSe _).1 s0
      have HK := Lib.hid KC; have HKA := Lib.hid KA; have HSE := Lib.hid hSe; have HE := Lib.hid bE; have HPp := Lib.hid bP; have HS2 := Lib.hid s2; have HB2 := Lib.hid b2; have HX1 := Lib.hid hx1; have HXS := Lib.hid hx1s; have HP0 := Lib.hid hp0; have S0 := Lib.hid s0
      clear KC KA hSe hSd bE bP s2 b2 hx1 hx1s hp0 hW2 cs0 cs1 c0 c1 c2 s0
      have KZ : ∀ wa, Below (W2.drew.alloc (.cells #[.int .i64 0, .int .i64 0, .int .i64 0, .string ⟨#[]⟩, .bool false] 103)).heap.size (W2.drew.alloc (.cells #[.int .i64 0, .int .i64 0, .int .i64 0, .string ⟨#[]⟩, .bool false] 103)) wa → Blk wa W2.heap.size 103 #[.int .i64 0, .int .i64 0, .int .i64 0, .string ⟨#[]⟩, .bool false] := by
        intro wa hb
        refine Blk.same ?_ (hb.block _ (by rw [World.size_alloc]; exact Nat.lt_succ_self _))
        exact Blk.new W2.drew _ _
      have S1 : Hid (S (W2.alloc (.cells #[.int .i64 0, .int .i64 0, .int .i64 0, .string ⟨#[]⟩, .bool false] 103)).drew) := HKA.out W2.drew _ S0.out
      have HKZ := Lib.hid KZ
      clear KZ
      have hmx : Tryz.prog.follows .mixedOrders = true := by kernel_rfl
      gi_wp2
      refine wpIn_wide.2 ?_
      go_region_held3 (fun w' => w'.cell? ⟨p0, 0, none⟩ = some (.int .i64 (x : Int)) ∧ w'.cell? ⟨p0, 1, none⟩ = some (.int .i64 (y : Int)) ∧ w'.cell? ⟨p0, 2, none⟩ = some (.string z) ∧ w'.cell? ⟨p0 + 1, 0, none⟩ = some (.int .i64 (f : Int)) ∧ w'.cell? ⟨p0 + 1, 1, none⟩ = some (.int .i64 (x : Int)) ∧ w'.cell? ⟨p0 + 1, 2, none⟩ = some (.int .i64 (q : Int)) ∧ w'.cell? ⟨p0 + 1, 3, none⟩ = some (.string x1) ∧ w'.cell? ⟨p0 + 1, 4, none⟩ = some (.bool true) ∧ p0 + 2 ≤ w'.heap.size) (first | with_reducible exact (HSE.out _).1 S0.out | with_reducible exact (HSE.out _).1 sA | with_reducible exact (HSE.out _).1 (HKA.out _ _ sA) | with_reducible exact (HSE.out _).1 (HKA.out _ _ S0.out) | with_reducible exact (HSE.out _).1 (HKS.out _ _ _ _ _ _ _ sA HB2s) | with_reducible exact (HSE.out _).1 (HKS.out _ _ _ _ _ _ _ (HKA.out _ _ sA) (((HSE.out _).1 sA).2.2.2.2.2.2.2.2)) | with_reducible exact (HSE.out _).1 S1.out)
        (first | (go_at_call 72; refine (C.out _).mono ?_; rintro e wA ⟨rfl, bA⟩; have zA : Blk wA W2.heap.size 103 #[.int .i64 0, .int .i64 0, .int .i64 0, .string ⟨#[]⟩, .bool false] := (HKZ.out _ bA); have sA := HK.out _ _ (HKA.out _ _ S0.out) bA; have z0 := zA.cell 0; have z1 := zA.cell 1; have z2 := zA.cell 2; have z3 := zA.cell 3; have z4 := zA.cell 4; have y0 := zA.frozen 0; have y1 := zA.frozen 1; have y2 := zA.frozen 2; have y3 := zA.frozen 3; have y4 := zA.frozen 4; simp only [List.getElem?_toArray, List.getElem?_cons_zero, List.getElem?_cons_succ] at z0 z1 z2 z3 z4)
               | (go_at_call 72; refine (C.out _).mono ?_; rintro e wA ⟨rfl, bA⟩; have sA := HK.out _ _ S0.out bA))
      all_goals
        first
        | (have b1 := ((((zA.set 0 (.int .i64 (x : Int))).set 1 (.int .i64 (y : Int))).set 2 (.int .i64 ((q : Int) + (x1.size : Int)))).set 3 (.string z)).set 4 (.bool false)
           have bA2 : Below (p0 + 2) W2 wA := (((Below.refl _ W2).drew.alloc HB2s _)).trans (bA.mono (Nat.le_trans HB2s (by show W2.heap.size ≤ (World.alloc W2 _).heap.size; rw [World.size_alloc]; exact Nat.le_succ _)))
           have F0 := And.intro b1 (And.intro (HKS.out wA W2.heap.size (.int .i64 (x : Int)) (.int .i64 (y : Int)) (.int .i64 ((q : Int) + (x1.size : Int))) (.string z) (.bool false) sA HB2s) (And.intro (((((bA2.setCell (p := ⟨W2.heap.size, 0, none⟩) HB2s (.int .i64 (x : Int))).setCell (p := ⟨W2.heap.size, 1, none⟩) HB2s (.int .i64 (y : Int))).setCell (p := ⟨W2.heap.size, 2, none⟩) HB2s (.int .i64 ((q : Int) + (x1.size : Int)))).setCell (p := ⟨W2.heap.size, 3, none⟩) HB2s (.string z)).setCell (p := ⟨W2.heap.size, 4, none⟩) HB2s (.bool false)) HB2s))
           obtain ⟨W3, hW3⟩ : ∃ W3, (((((wA.setCell ⟨W2.heap.size, 0, none⟩ (.int .i64 (x : Int))).setCell ⟨W2.heap.size, 1, none⟩ (.int .i64 (y : Int))).setCell ⟨W2.heap.size, 2, none⟩ (.int .i64 ((q : Int) + (x1.size : Int)))).setCell ⟨W2.heap.size, 3, none⟩ (.string z)).setCell ⟨W2.heap.size, 4, none⟩ (.bool false)) = W3 := ⟨_, rfl⟩
           obtain ⟨B3, hB3⟩ : ∃ B3, W2.heap.size = B3 := ⟨_, rfl⟩
           rw [hW3, hB3] at F0
           rw [hW3, hB3]
           have F3 : Hid (Blk W3 B3 103 #[.int .i64 (x : Int), .int .i64 (y : Int), .int .i64 ((q : Int) + (x1.size : Int)), .string z, .bool false] ∧ S W3 ∧ Below (p0 + 2) W2 W3 ∧ p0 + 2 ≤ B3) := F0
           clear F0 b1 hW3 hB3 z0 z1 z2 z3 z4 y0 y1 y2 y3 y4 zA)
        | (have bA2 : Below (p0 + 2) W2 wA := (Below.refl _ W2).drew.trans (bA.mono (by show p0 + 2 ≤ W2.heap.size; omega))
           have hA := bA2.size
           have F0 := And.intro (Blk.new wA 103 #[.int .i64 (x : Int), .int .i64 (y : Int), .int .i64 ((q : Int) + (x1.size : Int)), .string z, .bool false]) (And.intro (HKA.out wA (.cells #[.int .i64 (x : Int), .int .i64 (y : Int), .int .i64 ((q : Int) + (x1.size : Int)), .string z, .bool false] 103) sA) (And.intro (bA2.alloc (by omega) (.cells #[.int .i64 (x : Int), .int .i64 (y : Int), .int .i64 ((q : Int) + (x1.size : Int)), .string z, .bool false] 103)) (show p0 + 2 ≤ wA.heap.size by omega)))
           obtain ⟨W3, hW3⟩ : ∃ W3, wA.alloc (.cells #[.int .i64 (x : Int), .int .i64 (y : Int), .int .i64 ((q : Int) + (x1.size : Int)), .string z, .bool false] 103) = W3 := ⟨_, rfl⟩
           obtain ⟨B3, hB3⟩ : ∃ B3, wA.heap.size = B3 := ⟨_, rfl⟩
           rw [hW3, hB3] at F0
           rw [hW3, hB3]
           have F3 : Hid (Blk W3 B3 103 #[.int .i64 (x : Int), .int .i64 (y : Int), .int .i64 ((q : Int) + (x1.size : Int)), .string z, .bool false] ∧ S W3 ∧ Below (p0 + 2) W2 W3 ∧ p0 + 2 ≤ B3) := F0
           clear F0 hW3 hB3 hA)
        clear HKS HKZ S1 bA2 bA sA k0 k1 k2 k3 k4 k5 k6 k7
        obtain ⟨bB, bS, b3, hB3⟩ := F3.out
        obtain ⟨g0, g1, g2, g3, g4, g5, g6, g7, g8⟩ := (HSE.out _).1 bS
        have hb3 : Below p0 wr W3 := HB2.out.trans (b3.mono (by omega))
        have hTl : ∀ j, T j → j < p0 := fun j hj => by rw [← HP0.out]; exact HB.out _ _ _ HJ.out j hj
        have hJ3 : J (2 * k) T W3 := HO.out _ _ _ _ HJ.out (Oth.of_below (by rw [HP0.out]; exact hb3))
        have hY1 := HY.out (2 * k) T W3 (by omega) (by have := hb3.size; have := HP0.out; omega) hJ3
        rw [h1.out, HX1.out] at hY1
        obtain ⟨fn, tmps, assign, body, hy, hR1⟩ := hY1
        simp only [Pc.val] at hy
        have HR1 := Lib.hid hR1
        have HB3 := Lib.hid hb3; have HTl := Lib.hid hTl; have HbB := Lib.hid bB; have HbS := Lib.hid bS
        clear hR1 hb3 hTl hJ3 bB bS b3
        gi_wp2
        refine ⟨rfl, HR1.out.mono ?_⟩
        rintro e W4 ⟨rfl, T4, hJ4, hr4⟩
        have hp0l : p0 < W3.heap.size := by have := HbB.out.lt; omega
        have hT3 : ∀ j, p0 ≤ j → ¬ T j := fun j hj h => by have := HTl.out j h; omega
        have hb4 : Blk W4 B3 103 #[.int .i64 (x : Int), .int .i64 (y : Int), .int .i64 ((q : Int) + (x1.size : Int)), .string z, .bool false] := HbB.out.same (hr4.block B3 HbB.out.lt (hT3 _ (by omega)))
        have hpp4 : W4.heap[p0]? = W3.heap[p0]? := hr4.block p0 hp0l (hT3 _ (Nat.le_refl _))
        have m0 := hb4.cell 0; have m1 := hb4.cell 1; have m2 := hb4.cell 2; have m3 := hb4.cell 3; have m4 := hb4.cell 4
        simp only [List.getElem?_toArray, List.getElem?_cons_zero, List.getElem?_cons_succ] at m0 m1 m2 m3 m4
        have hT4 : ∀ j, p0 ≤ j → j < W3.heap.size → ¬ T4 j := fun j h1 h2 h => (hr4.grew j h).elim (hT3 j h1) (fun e => by omega)
        have hrn4 : Rnd T₀ T4 W W4 := (HRn.out.trans (Rnd.of_below (by rw [HP0.out]; exact HB3.out))).trans hr4
        have hY2 := HY.out (2 * k + 1) T4 W4 (by omega) hrn4.size hJ4
        rw [h2.out] at hY2
        obtain ⟨fn2, tmps2, assign2, body2, hy2, hR2⟩ := hY2
        have hq1 : (q : Int) + ((x : Int) - (f : Int)) = (q : Int) + (x1.size : Int) := by rw [HXS.out]; omega
        simp only [Pc.val, hq1] at hy2
        have HR2 := Lib.hid hR2
        have HRn4 := Lib.hid hrn4; have Hb4 := Lib.hid hb4; have Hpp4 := Lib.hid hpp4; have HT4 := Lib.hid hT4; have HT3 := Lib.hid hT3
        have hW3s := hr4.size
        clear hR2 hrn4 hb4 hpp4 hT4 hT3 hJ4 hr4 hy HR1 g0 g1 g2 g3 g4 g5 g6 g7
        gi_wp2
        refine ⟨rfl, HR2.out.mono ?_⟩
        rintro e W5 ⟨rfl, T5, hJ5, hr5⟩
        have hb5 : Blk W5 B3 103 #[.int .i64 (x : Int), .int .i64 (y : Int), .int .i64 ((q : Int) + (x1.size : Int)), .string z, .bool false] := Hb4.out.same (hr5.block B3 Hb4.out.lt (HT4.out _ (by omega) HbB.out.lt))
        have hpp5 : W5.heap[p0]? = W3.heap[p0]? := (hr5.block p0 (by omega) (HT4.out _ (Nat.le_refl _) hp0l)).trans Hpp4.out
        have hrn5 : Rnd T₀ T5 W W5 := HRn4.out.trans hr5
        clear m0 m1 m2 m3 m4
        have KF : ∀ w', Below W5.heap.size W5 w' → w'.cell? ⟨p0, 1, none⟩ = some (.int .i64 (y : Int)) ∧ w'.cell? ⟨B3, 0, none⟩ = some (.int .i64 (x : Int)) ∧ w'.cell? ⟨B3, 1, none⟩ = some (.int .i64 (y : Int)) ∧ w'.cell? ⟨B3, 2, none⟩ = some (.int .i64 ((q : Int) + (x1.size : Int))) ∧ w'.cell? ⟨B3, 3, none⟩ = some (.string z) ∧ w'.cell? ⟨B3, 4, none⟩ = some (.bool false) := by
          intro w' hb
          have e2 := hb5.same (hb.block B3 hb5.lt)
          have e1 : W5.heap[p0]? = W3.heap[p0]? := hpp5
          have hlp : p0 < W5.heap.size := by have := hr5.size; omega
          have e3 : w'.cell? ⟨p0, 1, none⟩ = some (.int .i64 (y : Int)) := by
            rw [hb.cell (p := ⟨p0, 1, none⟩) hlp, World.cell?_of_block (w := W3) (w' := W5) (a := ⟨p0, 1, none⟩) e1]
            exact ((HSE.out _).1 HbS.out).2.1
          have m0 := e2.cell 0; have m1 := e2.cell 1; have m2 := e2.cell 2; have m3 := e2.cell 3; have m4 := e2.cell 4
          simp only [List.getElem?_toArray, List.getElem?_cons_zero, List.getElem?_cons_succ] at m0 m1 m2 m3 m4
          exact ⟨e3, m0, m1, m2, m3, m4⟩
        obtain ⟨m9, m0, m1, m2, m3, m4⟩ := KF W5 (Below.refl _ _)
        have C2 := Lib.hid (fun W => end_any ⟨x, y, (q : Int) + (x1.size : Int), z, false⟩ W (by show -9223372036854775808 ≤ (q : Int) + (x1.size : Int) + (z.size : Int); rw [HXS.out]; omega) (by show (q : Int) + (x1.size : Int) + (z.size : Int) ≤ 9223372036854775807; rw [HXS.out]; omega))
        simp only [Pc.val] at C2
        have HRn5 := Lib.hid hrn5; have HKF := Lib.hid KF; have HJ5 := Lib.hid hJ5
        have hrz := hr5.size
        clear KF hb5 hpp5 hrn5 hr5 hJ5 hy2 HR2
        gi_wp2
        refine wpIn_wide.2 ?_
        go_region_held3 (fun w' => w'.cell? ⟨p0, 1, none⟩ = some (.int .i64 (y : Int)) ∧ w'.cell? ⟨B3, 0, none⟩ = some (.int .i64 (x : Int)) ∧ w'.cell? ⟨B3, 1, none⟩ = some (.int .i64 (y : Int)) ∧ w'.cell? ⟨B3, 2, none⟩ = some (.int .i64 ((q : Int) + (x1.size : Int))) ∧ w'.cell? ⟨B3, 3, none⟩ = some (.string z) ∧ w'.cell? ⟨B3, 4, none⟩ = some (.bool false)) (first | with_reducible exact sE | exact HKF.out _ (Below.refl W5.heap.size W5).drew)
          (first | (go_at_call 72; refine (C2.out _).mono ?_; rintro e wE ⟨rfl, bE⟩; have sE := HKF.out _ ((Below.refl _ W5).drew.trans bE)))
        all_goals
          have hbe : Below W5.heap.size W5 wE := (Below.refl _ W5).drew.trans bE
          have HJe : Hid (J (2 * (k + 1)) T5 wE) := HO.out _ _ _ _ HJ5.out (Oth.of_below hbe)
          have HRe : Hid (Rnd T₀ T5 W wE) := HRn5.out.trans (Rnd.of_below hbe)
          have hqe : (q : Int) + (x1.size : Int) + (z.size : Int) = ((q + (x - f) + z.size : Nat) : Int) := by rw [HXS.out]; omega
          have hqb : q + (x - f) + z.size ≤ y + 100000 * (k + 1) := by omega
          have HQE := Lib.hid hqe
          clear hbe bE sE hqe m9 m0 m1 m2 m3 m4
          gi_wp2
          go_roundw
          case rel => exact ⟨k + 1, y, q + (x - f) + z.size, T5, by omega, rfl, by rw [HQE.out], by go_num, hys, hqb, HPn, HVn, HJe, HRe⟩
          case measure => simp [intOf]; omega
    · obtain rfl : n = k := by omega
      have hpl : (prl s 0 0 es).drop (2 * n) = [⟨(f : Int), (s.size : Int), (q : Int), s.extract f s.size, true⟩] := by
        rw [← HP.out, List.drop_eq_nil_of_le (by rw [HN.out]; exact Nat.le_refl _)]; rfl
      have hp1 := pg_drop hpl
      have hwbs : wr.heap[bs]? = W.heap[bs]? := HRn.out.block bs hlbs (HR.out bs (.inl rfl))
      have hcs : Boxed wr bs 9 (.string s) := hwbs.trans HBS.out
      have cs := hcs.cell
      have hY1 := HY.out (2 * n) T wr.drew (by omega) HRn.out.size (HO.out _ _ _ _ HJ.out (Oth.of_below (Below.refl _ _).drew))
      rw [hp1] at hY1
      obtain ⟨fn, tmps, assign, body, hy, hR1⟩ := hY1
      simp only [Pc.val] at hy
      have HR1 := Lib.hid hR1
      have hmx : Tryz.prog.follows .mixedOrders = true := by kernel_rfl
      clear hpl hp1 hwbs hcs hR1
      gi_wp2
      gi_region_with_o (first | (refine ⟨rfl, HR1.out.mono ?_⟩; rintro e W4 ⟨rfl, T4, hJ4, hr4⟩))
      all_goals
        gi_wp2
        go_end0
        exact ⟨⟨_, rfl⟩, T4, hJ4⟩

end Go.Proofs.YtkehgoailhpenaaGreat

/- The contracts of strings.Builder's WriteString and String. Conditions: fewer than 2^46 bytes. -/
namespace Go.Proofs.YtkehgoailhpenaaGreat
open Go.RowKit Go.Shelf
set_option linter.unusedVariables false

theorem str_cells (s : ByteArray) : Lib.strCells s = (sb s).map (Value.int .u8) := by
  simp [Lib.strCells, sb, List.map_map, Function.comp_def]

/-- Appending a string's bytes to an owned row: where the row then lies. -/
theorem append_str_at {P : Program} (w : World) (base : Nat) (t u ty e : TypeId) (i : TypeInfo) (ht : P.underlying t = some (.slice e)) (hu : P.underlying u = some .string) (hi : P.info? e = some i) (hz : i.zero = some (.int .u8 0))
    (hsize : i.size = 1) (hby : i.bytes = 1) (v : Value) (n : Nat) (xs : List Value) (hown : w.ownsRow base e 1 v n xs) (s : ByteArray)
    (h63 : n + s.size ≤ maxLen) (hbytes : n + s.size ≤ 140737488355328) (hbase : base ≤ w.heap.size) :
    ∃ v' w', (Builtin.append_ #[t, u] ty #[v, .string s]).run P w = .ok v' w' ∧ w'.ownsRow base e 1 v' (n + s.size) (xs ++ Lib.strCells s) ∧ w.grownBy w' v.ownBlock ∧
      (∀ g, v'.ownBlock = some g → v.ownBlock = some g ∨ w.heap.size ≤ g) ∧ (v' = .slice none 0 0 ↔ v = .slice none 0 0 ∧ s.size = 0) := by
  obtain ⟨v', w', hr, h2, h3, h4⟩ := Lib.run_append_own_string (P := P) w base t u ty e i ht hu hi hz hsize hby v n xs hown s h63 hbytes hbase
  refine ⟨v', w', hr, h2, h3, fun g hg => ?_, h4⟩
  have hxl : xs.length = n := by simpa using hown.1
  rcases hown.2 with ⟨rfl, rfl⟩ | ⟨g0, cap, cur, rfl, hbg, hg0, hnc, hcm, hcs, htake⟩
  · have hx : xs = [] := List.eq_nil_of_length_eq_zero hxl
    subst hx
    obtain ⟨v2, w2, hr2, k2, _⟩ := Lib.run_append_own_string (P := P) w w.heap.size t u ty e i ht hu hi hz hsize hby (.slice none 0 0) 0 [] (World.ownsRow_nil _ _ _ _) s h63 hbytes (Nat.le_refl _)
    rw [hr] at hr2
    cases hr2
    exact .inr (k2.lt g hg).1
  · by_cases hroom : n + s.size ≤ cap
    · have hcs' : cur.size = cap := by simpa using hcs
      have hr2 := Lib.run_append_room_string (P := P) w t u ty e i ht hu hi hsize g0 n cap cur hg0 s hroom (by omega)
      rw [hr] at hr2
      cases hr2
      exact .inl hg
    · have holds : ∀ j u, xs[j]? = some u → w.cell? ((⟨g0, 0, none⟩ : Addr).add j) = some u := hown.cells (g := g0) rfl
      have hr2 := Lib.run_append_grow_string (P := P) w t u ty e i (.int .u8 0) ht hu hi hz ⟨g0, 0, none⟩ n cap xs (by rw [hsize]; simpa using hxl) holds s (by omega) (by simp only [maxLen] at h63; omega) (by rw [hby]; exact growslice_fits (by omega) (by omega))
      rw [hr] at hr2
      cases hr2
      simp only [Value.ownBlock, Option.some.injEq] at hg
      exact .inr (by omega)
theorem wpList_append_str_at {P : Program} {w : World} {ops : Array Oper} {rest : List Oper} {o : Oper} {a : Act} {Q : Exit → Act → World → Prop} (hgd : o.guard = none) (sl x : Operand) (t u : TypeId)
    (ho : o.op = .call { callee := .builtin .append, args := #[sl, x], argTypes := #[t, u] })
    (base : Nat) (e : TypeId) (i : TypeInfo) (ht : P.underlying t = some (.slice e)) (hu : P.underlying u = some .string) (hi : P.info? e = some i) (hz : i.zero = some (.int .u8 0))
    (hsize : i.size = 1) (hby : i.bytes = 1) (v : Value) (n : Nat) (xs : List Value) (hs : a.eval sl = v) (hown : w.ownsRow base e 1 v n xs) (s : ByteArray) (hx : a.eval x = .string s)
    (h63 : n + s.size ≤ maxLen) (hbytes : n + s.size ≤ 140737488355328) (hbase : base ≤ w.heap.size)
    (h : ∀ v' w', w'.ownsRow base e 1 v' (n + s.size) (xs ++ Lib.strCells s) → w.grownBy w' v.ownBlock → (∀ g, v'.ownBlock = some g → v.ownBlock = some g ∨ w.heap.size ≤ g) → (v' = .slice none 0 0 ↔ v = .slice none 0 0 ∧ s.size = 0) → wpList P ops Q rest (a.put o.dst v') w') : wpList P ops Q (o :: rest) a w := by
  refine wpList_plain hgd fun K hK => ?_
  obtain ⟨v', w', hr, h2, h3, h4, h5⟩ := append_str_at (P := P) w base t u o.type e i ht hu hi hz hsize hby v n xs hown s h63 hbytes hbase
  unfold Oper.wp execOp
  simp only [ho, resolve, invoke, builtin, Sem.run_bind, Sem.run_pure, Result.andThen_ok, List.map_toArray, List.map_cons, List.map_nil, hs, hx, hr]
  exact hK _ _ (h v' w' h2 h3 h4 h5)

/-- The block b holds a builder with these bytes; T: the blocks that its methods may turn. -/
def Bl (b : Nat) (T : Nat → Prop) (Z : List Int) (w : World) : Prop :=
  ∃ p v, Blk w b 98 #[p, v] ∧ w.ownsRow (b + 1) 5 1 v Z.length (Z.map (Value.int .u8)) ∧ (p = .pointer none ∨ p = .pointer (some ⟨b, 0, none⟩)) ∧ (∀ j, T j ↔ (j = b ∨ v.ownBlock = some j)) ∧ (Z = [] → v = .slice none 0 0)
theorem Bl.lt {b : Nat} {T : Nat → Prop} {Z : List Int} {w : World} (h : Bl b T Z w) : ∀ j, T j → j < w.heap.size := by
  obtain ⟨p, v, hb, ho, _, hT, _⟩ := h
  intro j hj
  rcases (hT j).1 hj with rfl | h
  · exact hb.lt
  · exact (ho.lt j h).2
theorem Bl.at_ {b : Nat} {T : Nat → Prop} {Z : List Int} {w : World} (h : Bl b T Z w) : T b := by
  obtain ⟨p, v, hb, ho, _, hT, _⟩ := h
  exact (hT b).2 (.inl rfl)
theorem Bl.ge {b : Nat} {T : Nat → Prop} {Z : List Int} {w : World} (h : Bl b T Z w) : ∀ j, T j → b ≤ j := by
  obtain ⟨p, v, hb, ho, _, hT, _⟩ := h
  intro j hj
  rcases (hT j).1 hj with rfl | h
  · exact Nat.le_refl _
  · have := (ho.lt j h).1; omega
theorem Bl.keep {b : Nat} {T : Nat → Prop} {Z : List Int} {w w' : World} (h : Bl b T Z w) (hb : ∀ j, T j → w'.heap[j]? = w.heap[j]?) : Bl b T Z w' := by
  obtain ⟨p, v, hk, ho, hp, hT, hz⟩ := h
  exact ⟨p, v, hk.same (hb b ((hT b).2 (.inl rfl))), own_same ho (fun g hg => hb g ((hT g).2 (.inr hg))), hp, hT, hz⟩
theorem Bl.oth {b n : Nat} {T : Nat → Prop} {Z : List Int} {w w' : World} (h : Bl b T Z w) (ho : Oth T n w w') : Bl b T Z w' := h.keep (fun j hj => ho.block j (h.lt j hj) (.inr hj))

theorem infoBu : (Tryz.prog.info? 98).map (fun i => i.size) = some 2 := by kernel_rfl

set_option maxRecDepth 100000 in
set_option maxHeartbeats 1000000 in
theorem copy_used (b : Nat) (w : World) (h0 : w.cell? ⟨b, 0, none⟩ = some (.pointer (some ⟨b, 0, none⟩))) :
    Calls Tryz.prog 73 #[.pointer (some ⟨b, 0, none⟩)] w fun e w' => e = .returned (.tuple #[]) ∧ w' = w := by
  obtain ⟨j, hj, _⟩ := Option.map_eq_some_iff.1 infoBu
  go_enter Tryz.func73, Tryz.ntmps73
  go_wp2
  rw [Lib.run_neq_ptr_same w _ Tryz.underlying95 hj]
  go_wp2
  go_end0
  exact ⟨rfl, rfl⟩

set_option maxRecDepth 100000 in
set_option maxHeartbeats 1000000 in
theorem copy_fresh (b : Nat) (w : World) (h0 : w.cell? ⟨b, 0, none⟩ = some (.pointer none)) (hsh : w.shape? b = some (98, 2)) (hfz : w.frozen? ⟨b, 0, none⟩ = false) :
    Calls Tryz.prog 73 #[.pointer (some ⟨b, 0, none⟩)] w fun e w' => e = .returned (.tuple #[]) ∧ w' = w.setCell ⟨b, 0, none⟩ (.pointer (some ⟨b, 0, none⟩)) := by
  obtain ⟨j, hj, hjs⟩ := Option.map_eq_some_iff.1 infoBu
  go_enter Tryz.func73, Tryz.ntmps73
  go_wp2
  rw [Lib.run_to_unsafe w ⟨b, 0, none⟩ Tryz.underlying95 Tryz.underlying138 hj (by rw [hjs]; decide) hsh (Nat.zero_lt_succ 1)]
  simp only [Result.andThen]
  rw [Oper.upon_value]
  go_wp2
  rw [run_callFunc_extern Tryz.func87 (by kernel_rfl) (by kernel_rfl) (by kernel_rfl) (e := Extern.AbiNoEscape.same) (by kernel_rfl)]
  rw [Lib.run_noEscape]
  simp only [Result.andThen]
  rw [Oper.upon_value]
  go_wp2
  rw [Lib.run_from_unsafe w ⟨b, 0, none⟩ Tryz.underlying138 Tryz.underlying95 hj hsh (by kernel_rfl)]
  simp only [Result.andThen]
  rw [Oper.upon_value]
  go_wp2
  go_end0
  exact ⟨rfl, rfl⟩


set_option maxRecDepth 100000 in
set_option maxHeartbeats 1000000 in
theorem copy_any (b : Nat) (T : Nat → Prop) (Z : List Int) (w : World) (h : Bl b T Z w) :
    Calls Tryz.prog 73 #[.pointer (some ⟨b, 0, none⟩)] w fun e w' => e = .returned (.tuple #[]) ∧ (∃ v, Blk w' b 98 #[.pointer (some ⟨b, 0, none⟩), v] ∧ w'.ownsRow (b + 1) 5 1 v Z.length (Z.map (Value.int .u8)) ∧ (∀ j, T j ↔ (j = b ∨ v.ownBlock = some j)) ∧ (Z = [] → v = .slice none 0 0)) ∧ Below b w w' ∧ Rnd T T w w' := by
  obtain ⟨p, v, hb, ho, hp, hT, hz⟩ := h
  have hbT : T b := (hT b).2 (.inl rfl)
  rcases hp with rfl | rfl
  · have c0 : w.cell? ⟨b, 0, none⟩ = some (.pointer none) := by simpa using hb.cell 0
    refine (copy_fresh b w c0 (by unfold Blk at hb; simp [World.shape?, hb]) (hb.frozen 0)).mono ?_
    rintro e w' ⟨rfl, rfl⟩
    have hb' := hb.set 0 (.pointer (some ⟨b, 0, none⟩))
    refine ⟨rfl, ⟨v, by simpa using hb', own_same ho (fun g hg => Below.heap_setCell w _ _ g (fun e => by have := (ho.lt g hg).1; simp at e; omega)), hT, hz⟩, (Below.refl b w).setCell (p := ⟨b, 0, none⟩) (Nat.le_refl _) _, ?_⟩
    exact ⟨by simp [World.setCell], fun k _ hk => Below.heap_setCell w _ _ k (fun e => hk (by simp at e; exact e ▸ hbT)), fun _ h => .inl h⟩
  · have c0 : w.cell? ⟨b, 0, none⟩ = some (.pointer (some ⟨b, 0, none⟩)) := by simpa using hb.cell 0
    refine (copy_used b w c0).mono ?_
    rintro e w' ⟨rfl, rfl⟩
    exact ⟨rfl, ⟨v, hb, ho, hT, hz⟩, Below.refl _ _, Rnd.refl _ _⟩

theorem infoU8 : (Tryz.prog.info? 5).map (fun i => (i.zero, i.size, i.bytes)) = some (some (.int .u8 0), 1, 1) := by kernel_rfl

set_option maxRecDepth 100000 in
set_option maxHeartbeats 1000000 in
/-- WriteString. -/
theorem write_any (b : Nat) (T : Nat → Prop) (Z : List Int) (s : ByteArray) (w : World) (h : Bl b T Z w) (hl : Z.length + s.size ≤ 70000000000) :
    Calls Tryz.prog 54 #[.pointer (some ⟨b, 0, none⟩), .string s] w fun e w' => (∃ r, e = .returned (.tuple #[.int .i64 s.size, r])) ∧ (∃ T', Bl b T' (Z ++ sb s) w' ∧ Rnd T T' w w') ∧ Below b w w' := by
  obtain ⟨i0, hi, hz0, hz1, hz2⟩ := info_parts infoU8
  have C := Lib.hid (copy_any b T Z w h)
  have hTl := Lib.hid h.lt
  clear h
  go_enter Tryz.func54, Tryz.ntmps54
  go_wp2_with fail
  refine C.out.mono ?_
  rintro e w1 ⟨rfl, ⟨v, hb1, ho1, hT1, hz⟩, hB1, hR1⟩
  have HZ := Lib.hid hz
  have c0 : w1.cell? ⟨b, 0, none⟩ = some (.pointer (some ⟨b, 0, none⟩)) := by simpa using hb1.cell 0
  have c1 : w1.cell? ⟨b, 1, none⟩ = some v := by simpa using hb1.cell 1
  have HB1 := Lib.hid hb1; have HT1 := Lib.hid hT1; have HBw := Lib.hid hB1; have HR1 := Lib.hid hR1; have HO1 := Lib.hid ho1
  have hlb : b + 1 ≤ w1.heap.size := hb1.lt
  clear hb1 hT1 hB1 hR1 ho1 C hz
  go_wp2_with (at_builtin; refine wpList_append_str_at rfl _ _ 96 9 rfl (b + 1) 5 i0 Tryz.underlying96 Tryz.underlying9 hi hz0 hz1 hz2 _ _ _ rfl HO1.out s rfl ?c3 ?c4 ?c5 ?_)
  case c3 => unfold maxLen; omega
  case c4 => omega
  case c5 => exact hlb
  intro v' w2 hown' hgrow hat hnil
  have hb2 : Blk w2 b 98 #[.pointer (some ⟨b, 0, none⟩), v] := HB1.out.same (hgrow.block b (by omega) (fun e => by have := (HO1.out.lt b e.symm).1; omega))
  have d0 : w2.cell? ⟨b, 0, none⟩ = some (.pointer (some ⟨b, 0, none⟩)) := by simpa using hb2.cell 0
  have d1 : w2.cell? ⟨b, 1, none⟩ = some v := by simpa using hb2.cell 1
  have f1 : w2.frozen? ⟨b, 1, none⟩ = false := hb2.frozen 1
  obtain ⟨ao, cp, rfl⟩ := own_slice hown'
  have HB2 := Lib.hid hb2; have HO := Lib.hid hown'; have HG := Lib.hid hgrow; have HAT := Lib.hid hat; have HNL := Lib.hid hnil
  clear hb2 hown' hgrow hat hnil c0 c1
  go_wp2
  go_ret2
  refine ⟨⟨_, rfl⟩, ⟨fun j => j = b ∨ (Value.slice ao (Z.length + s.size) cp).ownBlock = some j, ⟨_, _, by simpa using HB2.out.set 1 (.slice ao (Z.length + s.size) cp), ?_, .inr rfl, fun j => Iff.rfl, fun hz0 => HNL.out.2 ⟨HZ.out (List.append_eq_nil_iff.1 hz0).1, by rw [← bs_sb s, (List.append_eq_nil_iff.1 hz0).2]; rfl⟩⟩, ?_⟩, ?_⟩
  · have h1 := own_same (C := w2.setCell ⟨b, 1, none⟩ (.slice ao (Z.length + s.size) cp)) HO.out (fun g hg => Below.heap_setCell w2 _ _ g (fun e => by have := (HO.out.lt g hg).1; simp at e; omega))
    rw [List.length_append, sb_len, List.map_append, ← str_cells]
    exact h1
  · refine ⟨by have := HR1.out.size; have := HG.out.size; simp [World.setCell]; omega, fun k hk hkT => ?_, fun k hk => ?_⟩
    · rw [Below.heap_setCell w2 _ _ k (fun e => hkT (by simp at e; exact (HT1.out k).2 (.inl e))), HG.out.block k (by have := HR1.out.size; omega) (fun e => hkT ((HT1.out k).2 (.inr e.symm)))]
      exact HR1.out.block k hk hkT
    · rcases hk with rfl | hk
      · exact .inl ((HT1.out k).2 (.inl rfl))
      · rcases HAT.out k hk with h | h
        · exact .inl ((HT1.out k).2 (.inr h))
        · exact .inr (by have := HR1.out.size; omega)
  · exact (HBw.out.grown HG.out (by omega) (fun k hk => by have := (HO1.out.lt k hk).1; omega)).setCell (p := ⟨b, 1, none⟩) (Nat.le_refl _) _

theorem cellsU8 : Tryz.prog.cellsOf 5 = 1 := by kernel_rfl

theorem rnd_freeze {T : Nat → Prop} (w : World) (g n : Nat) (hT : T g) : Rnd T T w (w.drew.freeze ⟨g, 0, none⟩ n) := by
  unfold World.freeze
  split
  · exact Rnd.of_below (Below.refl _ _).drew
  · refine ⟨by simp, fun k _ hk => ?_, fun _ h => .inl h⟩
    simp only [Array.getElem?_modify]
    rw [if_neg (fun e => hk (by rw [← e]; exact hT))]
    rfl

set_option maxRecDepth 100000 in
set_option maxHeartbeats 2000000 in
/-- String. -/
theorem string_any (b : Nat) (T : Nat → Prop) (Z : List Int) (w : World) (h : Bl b T Z w) (hz : Byt Z) (hl : Z.length ≤ 70000000000) :
    Calls Tryz.prog 55 #[.pointer (some ⟨b, 0, none⟩)] w fun e w' => e = .returned (.string (bs Z)) ∧ Below b w w' ∧ Rnd T T w w' := by
  obtain ⟨p, v, hb, ho, hp, hT, hnil⟩ := h
  have hmx : Tryz.prog.follows .mixedOrders = true := by kernel_rfl
  by_cases h0 : Z = []
  · have hv := hnil h0
    subst hv h0
    have c1 : w.cell? ⟨b, 1, none⟩ = some (.slice none 0 0) := by simpa using hb.cell 1
    have HF := Lib.hid (And.intro ((Below.refl b w).drew) (Rnd.of_below (T := T) (Below.refl w.heap.size w).drew))
    have hSD : (Builtin.unsafeSliceData_ #[96] 122 #[.slice none 0 0]).run Tryz.prog w.drew = .ok (.pointer none) w.drew := rfl
    have hUS := Lib.run_unsafeString_none (P := Tryz.prog) w.drew 122 3 9 none
    clear ho hT hnil hb hp hz
    go_enter Tryz.func55, Tryz.ntmps55
    go_wp2
    go_region_o
    all_goals (go_wp2; go_ret; exact ⟨rfl, HF.out⟩)
  · obtain ⟨l, hle⟩ : ∃ l, Z.map (fun c => UInt8.ofNat c.toNat) = l := ⟨_, rfl⟩
    have hll : l.length = Z.length := by rw [← hle]; simp
    have hl0 : l ≠ [] := fun e => h0 (by have : Z.length = 0 := by rw [← hll, e]; rfl
                                         exact List.eq_nil_of_length_eq_zero this)
    have hl1 : l.length ≠ 0 := by simpa using hl0
    obtain ⟨g, cap, cur, rfl, hbg, hg, hnc, hcm, hcs, htake⟩ : ∃ g cap cur, v = .slice (some ⟨g, 0, none⟩) Z.length cap ∧ b + 1 ≤ g ∧ w.heap[g]? = some (.cells cur 5 (0, 0)) ∧ Z.length ≤ cap ∧ cap ≤ maxLen ∧ cur.size = cap * 1 ∧ True := by
      rcases ho.2 with ⟨_, hz⟩ | ⟨g, cap, cur, hv, r1, r2, r3, r4, r5, _⟩
      · exact absurd (List.eq_nil_of_length_eq_zero hz) h0
      · exact ⟨g, cap, cur, hv, r1, r2, r3, r4, r5, trivial⟩
    have c1 : w.cell? ⟨b, 1, none⟩ = some (.slice (some ⟨g, 0, none⟩) l.length cap) := by rw [hll]; simpa using hb.cell 1
    have hSD : (Builtin.unsafeSliceData_ #[96] 122 #[.slice (some ⟨g, 0, none⟩) l.length cap]).run Tryz.prog w.drew = .ok (.pointer (some ⟨g, 0, none⟩)) w.drew :=
      Lib.run_unsafeSliceData_row _ _ _ _ _ _ (by omega)
    have hUS : (Builtin.unsafeString_ #[122, 3] 9 #[.pointer (some ⟨g, 0, none⟩), .int .i64 l.length]).run Tryz.prog w.drew = .ok (.string ⟨l.toArray⟩) (w.drew.freeze ⟨g, 0, none⟩ l.length) := by
      refine Lib.run_unsafeString_row w.drew 122 3 9 5 Tryz.underlying122 cellsU8 g cur.size (by have hg' : w.drew.heap[g]? = some (.cells cur 5 (0, 0)) := hg; simp [World.shape?, hg']) l hl0 (by omega) (by unfold maxLen at hcm; omega) ?_
      intro j x hx
      have hj : j < Z.length := by rw [← hll]; exact (List.getElem?_eq_some_iff.1 hx).1
      have := ho.cells (g := g) rfl j (.int .u8 x.toNat) (by
        rw [← hle, List.getElem?_map] at hx
        rw [List.getElem?_map]
        rw [List.getElem?_eq_getElem hj] at hx ⊢
        simp only [Option.map_some, Option.some.injEq] at hx ⊢
        have hb := hz _ (List.getElem_mem hj)
        rw [← hx]
        simp only [UInt8.toNat_ofNat']
        congr 1
        omega)
      exact this
    have hbs : bs Z = ⟨l.toArray⟩ := by unfold bs; rw [hle]
    rw [hbs]
    have HF := Lib.hid (And.intro (Lib.below_freeze (Below.drew (Below.refl b w)) (p := ⟨g, 0, none⟩) (by show b ≤ g; omega) l.length) (rnd_freeze (T := T) w g l.length ((hT g).2 (.inr rfl))))
    rw [hll] at hSD hUS HF c1
    clear ho hT hnil hb hp hz hbs hg hle hcs htake hll hl0 hl1
    go_enter Tryz.func55, Tryz.ntmps55
    go_wp2
    go_region_o
    all_goals (go_wp2; go_ret; exact ⟨rfl, HF.out⟩)

end Go.Proofs.YtkehgoailhpenaaGreat

/- The contract of the program's Apply. Conditions: texts of at most 10000000 bytes, lists of at most 1000 edits. -/
namespace Go.Proofs.YtkehgoailhpenaaGreat
open Go.RowKit Go.Shelf
set_option linter.unusedVariables false
attribute [local go_sem] Oper.semAt_some

/-- The bytes of parts. -/
def ptx (l : List Pc) : List Int := l.flatMap fun p => sb p.x
theorem ptx_byt (l : List Pc) : Byt (ptx l) := by
  intro c hc
  obtain ⟨p, _, h⟩ := List.mem_flatMap.1 hc
  exact sb_byt _ c h
theorem ptx_take {l : List Pc} {k : Nat} (h : k < l.length) : ptx (l.take (k + 1)) = ptx (l.take k) ++ sb (pg l k).x := by
  unfold ptx pg
  rw [List.take_add_one, List.getElem?_eq_getElem h, List.flatMap_append]
  simp
theorem ptx_prl (s : ByteArray) : ∀ (es : List Er) (f q : Nat), (∀ e ∈ es, 0 ≤ e.f) → ptx (prl s f q es) = appl (sb s) f (ees es) := by
  intro es
  induction es with
  | nil =>
    intro f q _
    simp only [prl, ptx, List.flatMap_cons, List.flatMap_nil, List.append_nil, ees, List.map_nil, appl]
    rw [sb_cut, List.take_of_length_le (by rw [List.length_drop, sb_len]; exact Nat.le_refl _)]
  | cons e es ih =>
    intro f q h
    simp only [prl, ptx, List.flatMap_cons]
    rw [show List.flatMap (fun p => sb p.x) (prl s e.t.toNat (q + (e.f.toNat - f) + e.x.size) es) = appl (sb s) e.t.toNat (ees es) from ih _ _ (fun x hx => h x (by simp [hx]))]
    rw [sb_cut, ees_cons]
    rfl
theorem ptx_len {s : ByteArray} : ∀ {es : List Er} {f q : Nat}, (∀ e ∈ es, e.x.size ≤ 100000) → ∀ l, l <+: prl s f q es → (ptx l).length ≤ (es.length + 1) * (s.size + 100000) := by
  intro es
  induction es with
  | nil =>
    intro f q _ l hl
    have h1 : (ptx l).length ≤ (ptx (prl s f q [])).length := by
      obtain ⟨r, hr⟩ := hl
      rw [← hr]; simp [ptx]
    have h2 : (ptx (prl s f q [])).length ≤ s.size := by simp [ptx, prl, sb_len]
    simp only [List.length_nil]; omega
  | cons e es ih =>
    intro f q h l hl
    have hx := h e (by simp)
    obtain ⟨r, hr⟩ := hl
    have h0 : (ptx l).length ≤ (ptx (prl s f q (e :: es))).length := by rw [← hr]; simp [ptx]
    have h1 : (ptx (prl s f q (e :: es))).length ≤ s.size + 100000 + (ptx (prl s e.t.toNat (q + (e.f.toNat - f) + e.x.size) es)).length := by
      simp [ptx, prl, sb_len]; omega
    have h2 := ih (f := e.t.toNat) (q := q + (e.f.toNat - f) + e.x.size) (fun x hx => h x (by simp [hx])) _ (List.prefix_refl _)
    simp only [List.length_cons]
    rw [Nat.add_mul (es.length + 1) 1]
    omega

set_option maxRecDepth 100000 in
set_option maxHeartbeats 1000000 in
theorem papply_any (s : ByteArray) (a : Option Addr) (cap : Nat) (es : List Er) (w : World) (hs : s.size ≤ 10000000) (hn : es.length ≤ 1000) (hfit : ∀ e ∈ es, e.Fit) (hS : ES w.heap.size w a cap es) :
    Calls Tryz.prog 25 #[.string s, .slice a es.length cap] w fun e w' => e = .returned (.tuple #[.string (apS s es), .int .i64 (vErr (s.size : Int) es)]) ∧ Below w.heap.size w w' := by
  have CV := Lib.hid (pvalid_any s a cap es w hs hn hfit hS)
  have HS := Lib.hid hS; have HF := Lib.hid hfit
  obtain ⟨n, hn'⟩ : ∃ n, es.length = n := ⟨_, rfl⟩
  rw [hn'] at CV hn ⊢
  by_cases hv : vErr (s.size : Int) es = 0
  · have HV := Lib.hid hv
    rw [hv] at CV ⊢
    have HN := Lib.hid hn'
    clear hv hn' hS hfit
    refine (callsIn_wide (n := 0)).1 ?_
    refine callsIn_of_wp_marks Tryz.func25 rfl trivial ?_ rfl
    simp only [Tryz.ntmps25, List.size_toArray, List.length_cons, List.length_nil, Nat.reduceAdd, Nat.reduceSub, Array.replicate_succ, Array.replicate_zero, List.push_toArray, List.append_toArray, List.nil_append, List.cons_append]
    gi_wp2_with (first | (refine ⟨trivial, rfl, ?_⟩; gi_at_call 52; refine (callsIn_wide.2 CV.out).mono ?_; rintro e w1 ⟨rfl, hb1⟩) | (refine ⟨trivial, rfl, ?_⟩; gi_at_call 53; refine (callsIn_wide.2 (parts_any _ _ _ _ _)).mono ?_; rintro e w' ⟨rfl, rfl⟩))
    obtain ⟨b0, hb0⟩ : ∃ b, w1.heap.size = b := ⟨_, rfl⟩
    obtain ⟨W0, hW0⟩ : ∃ W, ((w1.alloc (.cells #[.pointer none, .slice none 0 0] 98)).alloc (.cells #[.string s] 9)).alloc (.cells #[.slice a n cap] 38) = W := ⟨_, rfl⟩
    have hs0 : W0.heap.size = b0 + 3 := by rw [← hW0, ← hb0]; simp
    have hB0 : Below b0 w1 W0 := by rw [← hW0, ← hb0]; exact (((Below.refl _ _).alloc (Nat.le_refl _) _).alloc (by simp) _).alloc (by simp; omega) _
    have bB : Blk W0 b0 98 #[.pointer none, .slice none 0 0] := by rw [← hW0, ← hb0]; exact ((Blk.new _ _ _).alloc _).alloc _
    have bS : Boxed W0 (b0 + 1) 9 (.string s) := by
      rw [← hW0, ← hb0]
      have := Boxed.new (w1.alloc (.cells #[.pointer none, .slice none 0 0] 98)) 9 (.string s)
      rw [World.size_alloc] at this; exact this.alloc _
    have bL : Boxed W0 (b0 + 2) 38 (.slice a n cap) := by
      rw [← hW0, ← hb0]
      have := Boxed.new ((w1.alloc (.cells #[.pointer none, .slice none 0 0] 98)).alloc (.cells #[.string s] 9)) 38 (.slice a n cap)
      rw [World.size_alloc, World.size_alloc] at this; exact this
    rw [hW0, hb0]
    have hwb : w.heap.size ≤ b0 := by rw [← hb0]; exact hb1.size
    have hbw0 : Below w.heap.size w W0 := hb1.trans (hB0.mono hwb)
    have hBl0 : Bl b0 (fun j => j = b0) (ptx ((prl s 0 0 es).take 0)) W0 := ⟨_, _, bB, World.ownsRow_nil _ _ _ _, .inl rfl, fun j => by simp [Value.ownBlock], fun _ => rfl⟩
    obtain ⟨hlim, hvld, hbd⟩ := vErr_ok HV.out
    have hxs : ∀ e ∈ es, e.x.size ≤ 100000 := fun e he => (HF.out e he).x
    have hnl := HN.out
    have hG := part_giv s (b0 + 2) (b0 + 1) a cap es W0 hs HV.out hxs (by rw [hnl]; exact bL) bS ((HS.out.on hbw0))
    have hRa : ∀ k, (k = b0 + 1 ∨ 0 < es.length ∧ ∃ off, a = some ⟨k, off, none⟩) → k ≠ b0 := by
      rintro k (rfl | ⟨hp, off, rfl⟩)
      · omega
      · rcases HS.out.cells with h0 | ⟨g, o, hg, hlt, _⟩
        · omega
        · cases hg; omega
    refine wpIn_giv (gf := 71) (lb := #[.pointer (some ⟨b0 + 1 + 1, 0, none⟩), .pointer (some ⟨b0 + 1, 0, none⟩)]) rfl (enters_of Tryz.func71 (by kernel_rfl) rfl)
      hG (fun _ => rfl)
      (fun k T A => Bl b0 T (ptx ((prl s 0 0 es).take k)) A ∧ Below w.heap.size w A)
      (fun k T A C hi ho => ⟨hi.1.oth ho, hi.2.trans (ho.below (by omega) hi.2.size)⟩)
      (fun k T A hi => hi.1.lt)
      (fun j => j = b0) (fun k hk => ⟨by omega, fun h => hRa k h hk⟩) ⟨hBl0, hbw0⟩
      (fun k B => { tmps := #[.string s, .slice a n cap, undef, undef, .string ⟨#[]⟩, .int .i64 0, .int .i64 0, .pointer (some ⟨b0, 0, none⟩), .pointer (some ⟨B, 0, none⟩), .string s, .slice a n cap, .int .i64 0, .int .i64 0, .bool false, undef,
        .string s, .slice a n cap, .func (.func 71) #[] #[.pointer (some ⟨b0 + 1 + 1, 0, none⟩), .pointer (some ⟨b0 + 1, 0, none⟩)], (pg (prl s 0 0 es) k).val, undef, undef, undef, undef], defers := [] })
      (fun k => (pg (prl s 0 0 es) k).cells) 103 ?assign ?body ?done
    case assign =>
      intro l' k A K hK
      simp only [Pc.val, Pc.cells] at hK ⊢
      gi_wp2
      exact hK
    case body =>
      rintro l' k T B A hk hl hlB hBk hTB hl' hTl ⟨hBl, hBA⟩
      have hkl : k < (prl s 0 0 es).length := by rw [prl_len]; exact hk
      obtain ⟨p, hp⟩ : ∃ p, pg (prl s 0 0 es) k = p := ⟨_, rfl⟩
      simp only [hp] at hBk ⊢
      have c3 : A.cell? ⟨B, 3, none⟩ = some (.string p.x) := by simpa [Pc.cells] using hBk.cell 3
      have hxl : (ptx ((prl s 0 0 es).take k)).length + p.x.size ≤ 70000000000 := by
        have h1 := ptx_len (s := s) (f := 0) (q := 0) hxs _ (List.take_prefix (k + 1) (prl s 0 0 es))
        rw [ptx_take hkl, hp, List.length_append, sb_len] at h1
        have h2 : (es.length + 1) * (s.size + 100000) ≤ 65 * 10100000 := Nat.mul_le_mul (by omega) (by omega)
        omega
      have CW := Lib.hid (write_any b0 T _ p.x A hBl hxl)
      have HBA := Lib.hid hBA; have HP := Lib.hid hp; have HT := Lib.hid (ptx_take hkl)
      clear hBk hBl hBA hxl hp
      gi_wp2_with (refine ⟨trivial, rfl, ?_⟩; gi_at_call 54; refine (CallsIn.inRound l' (callsIn_wide.2 CW.out)).mono ?_; rintro e w' ⟨⟨r, rfl⟩, ⟨T', hb', hr'⟩, hbw⟩)
      refine ⟨T', ⟨?_, HBA.out.trans (hbw.mono hwb)⟩, hr'⟩
      rw [HT.out, HP.out]
      exact hb'
    case done =>
      rintro T A hA ⟨hBl, hBA⟩ hTw hK
      have htx : ptx ((prl s 0 0 es).take (2 * es.length + 1)) = appl (sb s) 0 (ees es) := by
        rw [List.take_of_length_le (by rw [prl_len]; exact Nat.le_refl _)]
        exact ptx_prl s es 0 0 (fun e he => (hbd e he).1)
      have hln : (ptx ((prl s 0 0 es).take (2 * es.length + 1))).length ≤ 70000000000 := by
        have h1 := ptx_len (s := s) (f := 0) (q := 0) hxs _ (List.take_prefix (2 * es.length + 1) (prl s 0 0 es))
        have h2 : (es.length + 1) * (s.size + 100000) ≤ 65 * 10100000 := Nat.mul_le_mul (by omega) (by omega)
        omega
      have CS := string_any b0 T _ A hBl (ptx_byt _) hln
      rw [htx] at CS
      have hap : bs (appl (sb s) 0 (ees es)) = apS s es := by unfold apS; rw [if_pos HV.out]
      rw [hap] at CS
      have CS := Lib.hid CS; have HBA := Lib.hid hBA; have HKK := Lib.hid hK
      clear hBl hBA htx hln hap hK
      gi_wp2_with (refine ⟨trivial, rfl, ?_⟩; gi_at_call 55; refine (callsIn_wide.2 CS.out).mono ?_; rintro e w' ⟨rfl, hbw, hrw⟩)
      have hK2 : w'.heap[W0.heap.size]? = some (.deferred (some [])) := (hrw.block _ (by omega) hTw).trans HKK.out
      have hF : Below w.heap.size w (w'.putObj W0.heap.size (.deferred none)) := (HBA.out.trans (hbw.mono hwb)).trans ⟨rfl, rfl, rfl, by simp, fun k hk => World.putObj_heap_other (by omega)⟩
      rw [hs0] at hK2 hF
      refine ⟨by simp, .inl ⟨_, _, rfl, run_takeDeferred hK2, ?_⟩⟩
      exact ⟨_, results_tmp2 rfl _ _ _, rfl, hF⟩
  · have hap : apS s es = ⟨#[]⟩ := apS_bad hv
    have HV := Lib.hid hv
    have hq : (vErr (s.size : Int) es != 0) = true := by simp [hv]
    generalize vErr (s.size : Int) es = er at CV HV hq hv ⊢
    rw [hap]
    clear hv hn' hS hfit hap
    go_enter Tryz.func25, Tryz.ntmps25
    go_wp2_with fail
    refine CV.out.mono ?_
    rintro e w1 ⟨rfl, hb1⟩
    go_wp2
    go_ret2
    exact ⟨rfl, hb1⟩

end Go.Proofs.YtkehgoailhpenaaGreat

/- The mathematics of Diff: the longest common prefix and suffix determine one edit, which leads from one text to the other. It has no conditions. -/
namespace Go.Proofs.YtkehgoailhpenaaGreat
open Go.RowKit
set_option linter.unusedVariables false

/-- p is the length of the longest common prefix. -/
def Pre (a b : List Int) (p : Nat) : Prop := p ≤ a.length ∧ p ≤ b.length ∧ (∀ i, i < p → a[i]? = b[i]?) ∧ (p = a.length ∨ p = b.length ∨ a[p]? ≠ b[p]?)
/-- q is the length of the longest common suffix behind p. -/
def Suf (a b : List Int) (p q : Nat) : Prop := p + q ≤ a.length ∧ p + q ≤ b.length ∧ (∀ i, i < q → a[a.length - 1 - i]? = b[b.length - 1 - i]?) ∧ (p + q = a.length ∨ p + q = b.length ∨ a[a.length - 1 - q]? ≠ b[b.length - 1 - q]?)
theorem Pre.det {a b : List Int} {p p' : Nat} (h : Pre a b p) (k : Pre a b p') : p = p' := by
  obtain ⟨h1, h2, h3, h4⟩ := h
  obtain ⟨k1, k2, k3, k4⟩ := k
  rcases Nat.lt_trichotomy p p' with g | g | g
  · rcases h4 with h | h | h
    · omega
    · omega
    · exact absurd (k3 p g) h
  · exact g
  · rcases k4 with h | h | h
    · omega
    · omega
    · exact absurd (h3 p' g) h
theorem Suf.det {a b : List Int} {p q q' : Nat} (h : Suf a b p q) (k : Suf a b p q') : q = q' := by
  obtain ⟨h1, h2, h3, h4⟩ := h
  obtain ⟨k1, k2, k3, k4⟩ := k
  rcases Nat.lt_trichotomy q q' with g | g | g
  · rcases h4 with h | h | h
    · omega
    · omega
    · exact absurd (k3 q g) h
  · exact g
  · rcases k4 with h | h | h
    · omega
    · omega
    · exact absurd (h3 q' g) h
/-- The edit of Diff. -/
def dif (a b : List Int) (p q : Nat) : Ee := ⟨p, a.length - q, (b.drop p).take (b.length - q - p)⟩
theorem dif_vld {a b : List Int} {p q : Nat} (hp : Pre a b p) (hq : Suf a b p q) : Vld a.length 0 [dif a b p q] := by
  obtain ⟨k1, k2, _, _⟩ := hq
  exact ⟨Nat.zero_le _, by simp only [dif]; omega, by simp only [dif]; omega, by simp only [dif, Vld]; omega⟩
/-- The edit leads to the second text. -/
theorem dif_appl {a b : List Int} {p q : Nat} (hp : Pre a b p) (hq : Suf a b p q) : appl a 0 [dif a b p q] = b := by
  obtain ⟨h1, h2, h3, _⟩ := hp
  obtain ⟨k1, k2, k3, _⟩ := hq
  have e1 : a.take p = b.take p := by
    apply List.ext_getElem?
    intro i
    rw [List.getElem?_take, List.getElem?_take]
    split
    · exact h3 i (by assumption)
    · rfl
  have e2 : a.drop (a.length - q) = b.drop (b.length - q) := by
    apply List.ext_getElem?
    intro i
    rw [List.getElem?_drop, List.getElem?_drop]
    by_cases hi : i < q
    · have := k3 (q - 1 - i) (by omega)
      rw [show a.length - 1 - (q - 1 - i) = a.length - q + i by omega, show b.length - 1 - (q - 1 - i) = b.length - q + i by omega] at this
      exact this
    · rw [List.getElem?_eq_none (by omega), List.getElem?_eq_none (by omega)]
  simp only [appl, dif, List.drop_zero, Nat.sub_zero]
  rw [e1, e2]
  have e3 : b.drop (b.length - q) = (b.drop p).drop (b.length - q - p) := by rw [List.drop_drop]; congr 1; omega
  rw [e3, List.take_append_drop, List.take_append_drop]
/-- What the edit replaces and its text differ, at the first byte and at the last one where both have one. -/
theorem dif_ends {a b : List Int} {p q : Nat} (hp : Pre a b p) (hq : Suf a b p q) (h0 : p + q < a.length) (h1 : p + q < b.length) : a[p]? ≠ b[p]? ∧ a[a.length - 1 - q]? ≠ b[b.length - 1 - q]? := by
  obtain ⟨_, _, _, h⟩ := hp
  obtain ⟨_, _, _, k⟩ := hq
  constructor
  · rcases h with h | h | h
    · omega
    · omega
    · exact h
  · rcases k with k | k | k
    · omega
    · omega
    · exact k
theorem dif_ne {a b : List Int} {p q : Nat} (hp : Pre a b p) (hq : Suf a b p q) (hab : a ≠ b) : ¬ (p + q = a.length ∧ p + q = b.length) := by
  rintro ⟨e1, e2⟩
  have h := dif_appl hp hq
  simp only [appl, dif, List.drop_zero, Nat.sub_zero] at h
  rw [show b.length - q - p = 0 by omega, List.take_zero, List.nil_append, show a.length - q = p by omega, List.take_append_drop] at h
  exact hab h

end Go.Proofs.YtkehgoailhpenaaGreat

/- The contracts of Diff, the program's and the reference's. Conditions: texts of at most 1000000 bytes. -/
namespace Go.Proofs.YtkehgoailhpenaaGreat
open Go.RowKit Go.Shelf
set_option linter.unusedVariables false

theorem sb_get (s : ByteArray) (k : Nat) (h : k < s.size) : (sb s)[k]? = some (((s[k]'h).toNat : Nat) : Int) := by
  have h2 : k < s.data.size := h
  unfold sb
  rw [List.getElem?_map, Array.getElem?_toList, Array.getElem?_eq_getElem h2]; rfl
theorem str_eq {a b : ByteArray} (h : a = b) : (a.toList == b.toList) = true := by subst h; simp
theorem toList_inj {a b : ByteArray} (h : a.toList = b.toList) : a = b := by
  rw [ByteArray.toList_eq, ByteArray.toList_eq] at h
  exact ByteArray.ext (Array.toList_inj.1 h)
theorem str_ne {a b : ByteArray} (h : a ≠ b) : (a.toList == b.toList) = false := by
  rw [beq_eq_false_iff_ne]; exact fun e => h (toList_inj e)

set_option maxRecDepth 100000 in
set_option maxHeartbeats 4000000 in
theorem pdiff_any (a b : ByteArray) (w : World) (ha : a.size ≤ 1000000) (hb : b.size ≤ 1000000) (hab : a ≠ b) :
    Calls Tryz.prog 60 #[.string a, .string b] w fun e w' => ∃ p q, Pre (sb a) (sb b) p ∧ Suf (sb a) (sb b) p q ∧ NewE1 w [er (dif (sb a) (sb b) p q)] e w' := by
  have hq0 : (a.toList == b.toList) = false := str_ne hab
  obtain ⟨m, hm⟩ : ∃ m : Nat, min (a.size : Int) (b.size : Int) = (m : Int) := ⟨(min (a.size : Int) (b.size : Int)).toNat, by omega⟩
  have hm1 : m ≤ a.size := by omega
  have hm2 : m ≤ b.size := by omega
  have hm3 : m = a.size ∨ m = b.size := by omega
  have HM3 := Lib.hid hm3
  obtain ⟨B, hB⟩ : ∃ B, w.heap.size = B := ⟨_, rfl⟩
  have HB := Lib.hid hB
  have H0 : Hid (Below B w w) := by rw [← hB]; exact Below.refl _ _
  clear hm3 hB
  go_enter Tryz.func60, Tryz.ntmps60
  go_wp2_with fail
  go_loopw [6] (fun u wr => ∃ (p : Nat), p ≤ m ∧ u = .int .i64 (p : Int) ∧ Hid (∀ i, i < p → (sb a)[i]? = (sb b)[i]?) ∧ Hid (Below B w wr)) (fun u _ => m - (intOf u).toNat)
  case atStart => exact ⟨0, by omega, rfl, Lib.hid (fun i h => by omega), H0⟩
  case round =>
    obtain ⟨p, hp, rfl, HP, HR⟩ := hrel
    have hways : (∃ h : p < m, (sb a)[p]? = (sb b)[p]?) ∨ (∃ h : p < m, (sb a)[p]? ≠ (sb b)[p]?) ∨ ¬ p < m := by
      by_cases h : p < m
      · by_cases h2 : (sb a)[p]? = (sb b)[p]?
        · exact .inl ⟨h, h2⟩
        · exact .inr (.inl ⟨h, h2⟩)
      · exact .inr (.inr h)
    have HRN : Hid (∀ n, Below B w (wr.drewN n)) := fun n => below_drewN HR.out n
    rcases hways with ⟨hlt, heq⟩ | ⟨hlt, hne⟩ | hge
    case inl =>
      have hpa : p < a.size := by omega
      have hpb : p < b.size := by omega
      have h1 : (p : Int) < (m : Int) := by omega
      have h2 : (p : Int) < (a.size : Int) := by omega
      have h3 : (p : Int) < (b.size : Int) := by omega
      have hd : decide ((p : Int) < (m : Int)) = true := by simp only [decide_eq_true_eq]; omega
      have hq : ((((a[p]'hpa).toNat : Nat) : Int) == (((b[p]'hpb).toNat : Nat) : Int)) = true := by
        rw [sb_get a p hpa, sb_get b p hpb] at heq
        simpa using heq
      have HP2 : Hid (∀ i, i < p + 1 → (sb a)[i]? = (sb b)[i]?) := by
        intro i hi
        by_cases e : i = p
        · subst e; exact heq
        · exact HP.out i (by omega)
      clear heq
      go_wp2_with fail
      go_quiet (fail)
      go_wp2
      go_roundw
      case rel => exact ⟨p + 1, by omega, by go_num, HP2, HRN.out _⟩
      case measure => simp [intOf]; omega
    case' inr.inl =>
      have hpa : p < a.size := by omega
      have hpb : p < b.size := by omega
      have h1 : (p : Int) < (m : Int) := by omega
      have h2 : (p : Int) < (a.size : Int) := by omega
      have h3 : (p : Int) < (b.size : Int) := by omega
      have hd : decide ((p : Int) < (m : Int)) = true := by simp only [decide_eq_true_eq]; omega
      have hq : ((((a[p]'hpa).toNat : Nat) : Int) == (((b[p]'hpb).toNat : Nat) : Int)) = false := by
        rw [sb_get a p hpa, sb_get b p hpb] at hne
        simpa using hne
      have HPRE : Hid (Pre (sb a) (sb b) p) := ⟨by rw [sb_len]; omega, by rw [sb_len]; omega, HP.out, .inr (.inr hne)⟩
      clear hne
      go_wp2_with fail
      go_quiet (fail)
    case' inr.inr =>
      have hpm : p = m := by omega
      have HPRE : Hid (Pre (sb a) (sb b) p) := ⟨by rw [sb_len]; omega, by rw [sb_len]; omega, HP.out, by rw [sb_len, sb_len, hpm]; rcases HM3.out with h | h <;> simp [h]⟩
      clear hpm
      have hd : decide ((p : Int) < (m : Int)) = false := by simp; omega
      have hdd : ¬ (p : Int) < (m : Int) := by omega
      go_wp2_with fail
      go_quiet (fail)
    all_goals
      go_wp2_with fail
      go_loopw [7] (fun u wr => ∃ (q : Nat), p + q ≤ m ∧ u = .int .i64 (q : Int) ∧ Hid (∀ i, i < q → (sb a)[a.size - 1 - i]? = (sb b)[b.size - 1 - i]?) ∧ Hid (Below B w wr)) (fun u _ => m - (intOf u).toNat)
      case atStart => exact ⟨0, by omega, rfl, Lib.hid (fun i h => by omega), HRN.out _⟩
      case round =>
        obtain ⟨q, hq5, rfl, HQ, HR2⟩ := hrel
        have hways : (∃ h : p + q < m, (sb a)[a.size - 1 - q]? = (sb b)[b.size - 1 - q]?) ∨ (∃ h : p + q < m, (sb a)[a.size - 1 - q]? ≠ (sb b)[b.size - 1 - q]?) ∨ ¬ p + q < m := by
          by_cases h : p + q < m
          · by_cases h2 : (sb a)[a.size - 1 - q]? = (sb b)[b.size - 1 - q]?
            · exact .inl ⟨h, h2⟩
            · exact .inr (.inl ⟨h, h2⟩)
          · exact .inr (.inr h)
        have HRN2 : Hid (∀ n, Below B w (wr.drewN n)) := fun n => below_drewN HR2.out n
        rcases hways with ⟨hlt2, heq⟩ | ⟨hlt2, hne⟩ | hge2
        case inl =>
          first
          | (exfalso; omega; done)
          | (obtain ⟨i1, hi1⟩ : ∃ i : Nat, (a.size : Int) - 1 - (q : Int) = (i : Int) := ⟨a.size - 1 - q, by omega⟩
             obtain ⟨i2, hi2⟩ : ∃ i : Nat, (b.size : Int) - 1 - (q : Int) = (i : Int) := ⟨b.size - 1 - q, by omega⟩
             have hia : i1 < a.size := by omega
             have hib : i2 < b.size := by omega
             have hia2 : (i1 : Int) < (a.size : Int) := by omega
             have hib2 : (i2 : Int) < (b.size : Int) := by omega
             rw [show a.size - 1 - q = i1 by omega, show b.size - 1 - q = i2 by omega] at heq
             have h1 : (q : Int) < (m : Int) - (p : Int) := by omega
             have hd : decide ((q : Int) < (m : Int) - (p : Int)) = true := by simp only [decide_eq_true_eq]; omega
             have hq : ((((a[i1]'hia).toNat : Nat) : Int) == (((b[i2]'hib).toNat : Nat) : Int)) = true := by
               rw [sb_get a i1 hia, sb_get b i2 hib] at heq
               simpa using heq
             have HQ2 : Hid (∀ i, i < q + 1 → (sb a)[a.size - 1 - i]? = (sb b)[b.size - 1 - i]?) := by
               intro i hi
               by_cases e : i = q
               · subst e
                 rw [show a.size - 1 - i = i1 by omega, show b.size - 1 - i = i2 by omega]; exact heq
               · exact HQ.out i (by omega)
             clear heq
             go_wp2_with fail
             go_quiet (fail)
             go_wp2
             go_roundw
             case rel => exact ⟨q + 1, by omega, by go_num, HQ2, HRN2.out _⟩
             case measure => simp [intOf]; omega)
        case' inr.inl =>
          first
          | (exfalso; omega; done)
          | (obtain ⟨i1, hi1⟩ : ∃ i : Nat, (a.size : Int) - 1 - (q : Int) = (i : Int) := ⟨a.size - 1 - q, by omega⟩
             obtain ⟨i2, hi2⟩ : ∃ i : Nat, (b.size : Int) - 1 - (q : Int) = (i : Int) := ⟨b.size - 1 - q, by omega⟩
             have hia : i1 < a.size := by omega
             have hib : i2 < b.size := by omega
             have hia2 : (i1 : Int) < (a.size : Int) := by omega
             have hib2 : (i2 : Int) < (b.size : Int) := by omega
             have HSUF : Hid (Suf (sb a) (sb b) p q) := ⟨by rw [sb_len]; omega, by rw [sb_len]; omega, by rw [sb_len, sb_len]; exact HQ.out, by rw [sb_len, sb_len]; exact .inr (.inr hne)⟩
             rw [show a.size - 1 - q = i1 by omega, show b.size - 1 - q = i2 by omega] at hne
             have h1 : (q : Int) < (m : Int) - (p : Int) := by omega
             have hd : decide ((q : Int) < (m : Int) - (p : Int)) = true := by simp only [decide_eq_true_eq]; omega
             have hq : ((((a[i1]'hia).toNat : Nat) : Int) == (((b[i2]'hib).toNat : Nat) : Int)) = false := by
               rw [sb_get a i1 hia, sb_get b i2 hib] at hne
               simpa using hne
             clear hne
             go_wp2_with fail
             go_quiet (fail)
             clear hi1 hi2 hq h1 hd)
        case' inr.inr =>
          have HSUF : Hid (Suf (sb a) (sb b) p q) := ⟨by rw [sb_len]; omega, by rw [sb_len]; omega, by rw [sb_len, sb_len]; exact HQ.out, by rw [sb_len, sb_len]; rcases HM3.out with h | h <;> omega⟩
          have hd : decide ((q : Int) < (m : Int) - (p : Int)) = false := by simp; omega
          have hdd : ¬ (q : Int) < (m : Int) - (p : Int) := by omega
          go_wp2_with fail
          go_quiet (fail)
        all_goals
          have hx1 : (p : Int) ≤ (b.size : Int) - (q : Int) := by omega
          have hx2 : (b.size : Int) - (q : Int) ≤ (b.size : Int) := by omega
          go_wp2_with fail
          rename_i nq
          go_ret
          obtain ⟨hs1, hs2⟩ := And.intro HPRE.out HSUF.out
          have hbl := HRN2.out nq
          refine ⟨p, q, hs1, hs2, some ⟨wr.heap.size, 0, none⟩, 1, rfl, ?_, ?_⟩
          · refine ⟨by simp, by omega, (fun h => by cases h), .inr ⟨_, 0, rfl, by rw [World.size_alloc]; exact Nat.lt_succ_self _, fun k hk i hi => ?_⟩⟩
            obtain rfl : k = 0 := by simpa using hk
            have bk := Blk.new (wr.drewN nq) 84 #[.int .i64 (p : Int), .int .i64 ((a.size : Int) - (q : Int)), .string (b.extract p (b.size - q))]
            rw [Nat.zero_mul, Nat.add_zero, Nat.zero_add, show wr.heap.size = (wr.drewN nq).heap.size from rfl, bk.cell i]
            have hf : ((a.size - q : Nat) : Int) = (a.size : Int) - (q : Int) := by omega
            simp only [eg, er, dif, sb_len, Er.vals, List.getElem?_toArray, List.getElem?_cons_zero, Option.getD_some]
            rw [hf, show b.size - q - p = (b.size - q) - p from rfl, bs_cut]
          · have hw : Below B w ((wr.drewN nq).alloc (.cells #[.int .i64 (p : Int), .int .i64 ((a.size : Int) - (q : Int)), .string (b.extract p (b.size - q))] 84)) := hbl.alloc (by have := hbl.size; have := HB.out; omega) _
            rw [HB.out]
            exact hw

set_option maxRecDepth 100000 in
theorem pdiff_same (a : ByteArray) (w : World) :
    Calls Tryz.prog 60 #[.string a, .string a] w fun e w' => e = .returned (.slice none 0 0) ∧ Below w.heap.size w w' := by
  have hq0 : (a.toList == a.toList) = true := by simp
  have H := Lib.hid (Below.refl w.heap.size w)
  go_enter Tryz.func60, Tryz.ntmps60
  go_wp2
  go_ret
  exact ⟨rfl, H.out⟩

/-- The list that Diff hands back. -/
def DifR (a b : ByteArray) (es : List Er) : Prop := (a = b ∧ es = []) ∨ (a ≠ b ∧ ∃ p q, Pre (sb a) (sb b) p ∧ Suf (sb a) (sb b) p q ∧ es = [er (dif (sb a) (sb b) p q)])
theorem DifR.det {a b : ByteArray} {es fs : List Er} (h : DifR a b es) (k : DifR a b fs) : es = fs := by
  rcases h with ⟨h1, h2⟩ | ⟨h1, p, q, h2, h3, h4⟩ <;> rcases k with ⟨k1, k2⟩ | ⟨k1, p', q', k2, k3, k4⟩
  · rw [h2, k2]
  · exact absurd h1 k1
  · exact absurd k1 h1
  · obtain rfl := h2.det k2
    obtain rfl := h3.det k3
    rw [h4, k4]
theorem pdiff_all (a b : ByteArray) (w : World) (ha : a.size ≤ 1000000) (hb : b.size ≤ 1000000) :
    Calls Tryz.prog 60 #[.string a, .string b] w fun e w' => ∃ es, DifR a b es ∧ NewE1 w es e w' := by
  by_cases hab : a = b
  · subst hab
    refine (pdiff_same a w).mono ?_
    rintro e w' ⟨rfl, hb⟩
    exact ⟨[], .inl ⟨rfl, rfl⟩, none, 0, rfl, ES.none _ _, hb⟩
  · refine (pdiff_any a b w ha hb hab).mono ?_
    rintro e w' ⟨p, q, h1, h2, h3⟩
    exact ⟨_, .inr ⟨hab, p, q, h1, h2, rfl⟩, h3⟩
end Go.Proofs.YtkehgoailhpenaaGreat

/- Boundaries of characters in whole texts, and positions that a common beginning decides; Boundary, and edits at boundaries. Conditions: texts of at most 1000000 bytes. -/
namespace Go.Proofs.YtkehgoailhpenaaGreat
open Go.RowKit Go.Shelf
set_option linter.unusedVariables false

theorem whl_drop {Z : List Int} {i u : Nat} (h : Bord Z i u) (w : Whl Z) : Whl (Z.drop i) := by
  induction h with
  | zero Z => simpa using w
  | @step Z i u hz _ ih =>
    cases w with
    | nil => exact absurd rfl hz
    | cons _ _ hr => rw [← List.drop_drop]; exact ih hr
theorem whl_take {Z : List Int} {i u : Nat} (h : Bord Z i u) (w : Whl Z) : Whl (Z.take i) := by
  induction h with
  | zero Z => rw [List.take_zero]; exact Whl.nil
  | @step Z i u hz _ ih =>
    cases w with
    | nil => exact absurd rfl hz
    | cons _ hw hr =>
      have hp := chr_pos Z
      have hne : Z.take ((chr Z).1 + i) ≠ [] := take_ne hz (by omega)
      have hc : chr (Z.take ((chr Z).1 + i)) = chr Z := chr_take (by omega)
      refine Whl.cons hne ?_ ?_
      · rw [hc]
        have e : ab (Z.take ((chr Z).1 + i)) 0 = ab Z 0 := by unfold ab; rw [List.getElem?_take, if_pos (by omega)]
        rw [e]; exact hw
      · rw [hc, List.drop_take, Nat.add_sub_cancel_left]; exact ih hr
/-- Offset m is not within a character, by its looks. -/
def Bd (Z : List Int) (m : Nat) : Prop := m = 0 ∨ Z.length ≤ m ∨ ¬ (128 ≤ ab Z m ∧ ab Z m < 192)
theorem chr_cont {Z : List Int} (j : Nat) (h1 : 1 ≤ j) (hj : j < (chr Z).1) : 128 ≤ ab Z j ∧ ab Z j < 192 := by
  have key : ∀ i, bt Z i 128 191 = true → 128 ≤ ab Z i ∧ ab Z i < 192 := fun i h => by have := bt_true h; omega
  rcases chr_ways Z with h0 | ⟨h0, _, a1⟩ | ⟨h0, _, a1, a2⟩ | ⟨h0, _, a1, a2, a3⟩ <;> rw [h0] at hj <;> simp only at hj
  · omega
  · obtain rfl : j = 1 := by omega
    exact key _ a1
  · have : j = 1 ∨ j = 2 := by omega
    rcases this with rfl | rfl
    · exact key _ a1
    · exact key _ a2
  · have : j = 1 ∨ j = 2 ∨ j = 3 := by omega
    rcases this with rfl | rfl | rfl
    · exact key _ a1
    · exact key _ a2
    · exact key _ a3
theorem bord_of_bd {Z : List Int} (w : Whl Z) : ∀ {m : Nat}, m ≤ Z.length → Bd Z m → ∃ U, Bord Z m U := by
  induction w with
  | nil => intro m hm _; obtain rfl : m = 0 := by simpa using hm
           exact ⟨0, Bord.zero _⟩
  | @cons Z hz hw hr ih =>
    intro m hm hb
    have hp := chr_pos Z
    by_cases h0 : m = 0
    · subst h0; exact ⟨0, Bord.zero _⟩
    by_cases hlt : m < (chr Z).1
    · have hl := chr_le hz
      have hc := chr_cont (Z := Z) m (by omega) hlt
      rcases hb with h | h | h
      · exact absurd h h0
      · omega
      · exact absurd hc h
    · obtain ⟨i, rfl⟩ : ∃ i, m = (chr Z).1 + i := ⟨m - (chr Z).1, by omega⟩
      have hl := chr_le hz
      obtain ⟨U, hU⟩ := ih (m := i) (by rw [List.length_drop]; omega) (by
        rcases hb with h | h | h
        · omega
        · exact .inr (.inl (by rw [List.length_drop]; omega))
        · refine .inr (.inr ?_)
          have e : ab (Z.drop (chr Z).1) i = ab Z ((chr Z).1 + i) := by unfold ab; rw [List.getElem?_drop]
          rw [e]; exact h)
      exact ⟨_, Bord.step hz hU⟩
/-- A position is decided by what stands before it, in whole texts. -/
theorem pos_prefix {A B1 B2 : List Int} {l u : Nat} (w : Whl (A ++ B1)) (h : Pos (A ++ B1) A.length l u) : Pos (A ++ B2) A.length l u := by
  obtain ⟨⟨U, hU⟩, hl, hb⟩ := h
  have hA : Bord A A.length U := by
    have := hU.of_take (Nat.le_refl _)
    rwa [List.take_left] at this
  have wA : Whl A := by
    have := whl_take hU w
    rwa [List.take_left] at this
  rw [lf_left A B1 _ (Nat.le_refl _)] at hl hb
  have hle := (lf_le A A.length).1
  refine ⟨⟨U, hA.append wA⟩, by rw [lf_left A B2 _ (Nat.le_refl _)]; exact hl, ?_⟩
  rw [lf_left A B2 _ (Nat.le_refl _)]
  rw [List.drop_append_of_le_length hle] at hb ⊢
  have hb2 := hb.of_take (m := (A.drop (lf A A.length).2).length) (by rw [List.length_drop]; omega)
  rw [List.take_left] at hb2
  obtain ⟨V, hV⟩ := lf_bord (Z := A) (i := A.length) (Nat.le_refl _)
  exact hb2.append (whl_drop hV wA)

/-- The last boundary up to an offset. -/
def bdy (Z : List Int) : Nat → Nat
  | 0 => 0
  | k + 1 => if k + 1 < Z.length ∧ 128 ≤ ab Z (k + 1) ∧ ab Z (k + 1) < 192 then bdy Z k else k + 1
theorem bdy_le (Z : List Int) : ∀ k, bdy Z k ≤ k := by
  intro k
  induction k with
  | zero => exact Nat.le_refl _
  | succ k ih => simp only [bdy]; split <;> omega
theorem bdy_ok (Z : List Int) : ∀ k, Bd Z (bdy Z k) := by
  intro k
  induction k with
  | zero => exact .inl rfl
  | succ k ih =>
    simp only [bdy]
    split
    · exact ih
    · rename_i h
      by_cases hl : k + 1 < Z.length
      · exact .inr (.inr (fun x => h ⟨hl, x⟩))
      · exact .inr (.inl (by omega))
theorem bdy_ge {Z : List Int} {m : Nat} (hm : Bd Z m) : ∀ {k}, m ≤ k → m ≤ bdy Z k := by
  intro k
  induction k with
  | zero => intro h; simp only [bdy]; exact h
  | succ k ih =>
    intro h
    simp only [bdy]
    split
    · rename_i hc
      by_cases e : m = k + 1
      · subst e
        rcases hm with h1 | h1 | h1
        · omega
        · omega
        · exact absurd hc.2 h1
      · exact ih (by omega)
    · exact h

set_option maxRecDepth 100000 in
set_option maxHeartbeats 2000000 in
theorem boundary_any (s : ByteArray) (k0 : Nat) (w : World) (hs : s.size ≤ 1000000) (hk0 : k0 ≤ s.size) :
    Calls Tryz.prog 63 #[.string s, .int .i64 (k0 : Int)] w fun e w' => e = .returned (.int .i64 ((bdy (sb s) k0 : Nat) : Int)) ∧ w' = w := by
  obtain ⟨R, hR⟩ : ∃ R, bdy (sb s) k0 = R := ⟨_, rfl⟩
  rw [hR]
  have H0 : Hid (bdy (sb s) k0 = R) := hR
  clear hR
  go_enter Tryz.func63, Tryz.ntmps63
  go_wp2_with fail
  go_loopw [1] (fun q wr => ∃ (k : Nat), k ≤ s.size ∧ q = .int .i64 (k : Int) ∧ Hid (bdy (sb s) k = R) ∧ wr = w) (fun q _ => (intOf q).toNat)
  case atStart => exact ⟨k0, hk0, rfl, H0, rfl⟩
  case round =>
    obtain ⟨k, hk, rfl, HI, rfl⟩ := hrel
    have stop : bdy (sb s) k = k → Hid (k = R) := fun h => Lib.hid (by rw [← HI.out, h])
    by_cases h0 : k = 0
    · subst h0
      have HK := stop rfl
      clear stop
      go_wp2
      go_ret
      exact ⟨by rw [← HK.out]; rfl, rfl⟩
    · have f0 : (0 : Int) < (k : Int) := by omega
      obtain ⟨j, hj⟩ : ∃ j, k = j + 1 := ⟨k - 1, by omega⟩
      by_cases h1 : k < s.size
      · have f1 : (k : Int) < (s.size : Int) := by omega
        have hab : ab (sb s) k = (((s[k]'h1).toNat : Nat) : Int) := by unfold ab; rw [sb_get s k h1]; rfl
        obtain ⟨c, hc⟩ : ∃ c : Nat, (s[k]'h1).toNat = c := ⟨_, rfl⟩
        rw [hc] at hab
        by_cases h2 : 128 ≤ c ∧ c < 192
        · have f2 : (128 : Int) ≤ (c : Int) := by omega
          have f3 : (c : Int) < 192 := by omega
          have HI2 : Hid (bdy (sb s) j = R) := Lib.hid (by
            have := HI.out
            subst hj
            simp only [bdy] at this
            rwa [if_pos ⟨by rw [sb_len]; exact h1, by rw [hab]; omega, by rw [hab]; omega⟩] at this)
          have hkj : (k : Int) - 1 = (j : Int) := by omega
          clear hj hab stop
          go_wp2
          go_roundw
          case rel => exact ⟨j, by omega, rfl, HI2, by trivial⟩
          case measure => simp [intOf]; omega
        · have HK := stop (by
            subst hj
            simp only [bdy]
            rw [if_neg (fun h => h2 (by rw [hab] at h; omega))])
          clear hj hab stop
          by_cases h3 : 128 ≤ c
          · have f2 : (128 : Int) ≤ (c : Int) := by omega
            have f3 : ¬ (c : Int) < 192 := by omega
            go_wp2
            go_ret
            exact ⟨by rw [← HK.out]; rfl, rfl⟩
          · have f2 : ¬ (128 : Int) ≤ (c : Int) := by omega
            go_wp2
            go_ret
            exact ⟨by rw [← HK.out]; rfl, rfl⟩
      · have f1 : ¬ (k : Int) < (s.size : Int) := by omega
        have HK := stop (by
          subst hj
          simp only [bdy]
          rw [if_neg (fun h => by have := h.1; rw [sb_len] at this; exact h1 this)])
        clear hj stop
        go_wp2
        go_ret
        exact ⟨by rw [← HK.out]; rfl, rfl⟩

end Go.Proofs.YtkehgoailhpenaaGreat

/- The contract of Edits: edits at boundaries of characters. Conditions: texts of at most 1000000 bytes. -/
namespace Go.Proofs.YtkehgoailhpenaaGreat
open Go.RowKit Go.Shelf
set_option linter.unusedVariables false

/-- A call hands back a slice of its own with valid edits of the text, at boundaries. -/
def MadeB (s : ByteArray) (w : World) (e : Ending) (w' : World) : Prop :=
  ∃ es v, e = .returned v ∧ es.length ≤ 5 ∧ vErr (s.size : Int) es = 0 ∧ (∀ x ∈ es, x.x.size ≤ s.size + 7 ∧ Bd (sb s) x.f.toNat ∧ Bd (sb s) x.t.toNat) ∧ w'.ownsRow w.heap.size 84 3 v es.length (rv es) ∧ Below w.heap.size w w'

set_option maxRecDepth 100000 in
set_option maxHeartbeats 4000000 in
theorem some_whole (s : ByteArray) (a : Option Addr) (nl cap : Nat) (w : World) (hs : s.size ≤ 1000000) (h : SlI w.heap.size w a nl) (hcap : nl ≤ cap) (hcap2 : cap ≤ 9223372036854775807) :
    Calls Tryz.prog 36 #[.string s, .slice a nl cap, .bool true] w (MadeB s w) := by
  obtain ⟨i3, hi3, jy0, jy1, jy2⟩ := info_parts infoEd2
  obtain ⟨B, hB⟩ : ∃ B, w.heap.size = B := ⟨_, rfl⟩
  rw [hB] at h
  obtain ⟨W1, hW1⟩ : ∃ W, w.alloc (.cells (wrds.map Value.string).toArray 9) = W := ⟨_, rfl⟩
  have hb1 : Below B w W1 := by rw [← hW1, ← hB]; exact (Below.refl _ _).alloc (Nat.le_refl _) _
  have hs1 : W1.heap.size = B + 1 := by rw [← hW1, ← hB]; simp
  have hblk : ∀ q, q < 13 → ∀ W, Below (B + 1) W1 W → ∃ p, W.cell? ⟨B, q, none⟩ = some (.string p) ∧ p.size ≤ 5 := by
    intro q hq W hW
    have hq2 : q < wrds.length := hq
    refine ⟨wrds[q], ?_, wrds_ok _ (List.getElem_mem hq2)⟩
    rw [hW.cell (p := ⟨B, q, none⟩) (by show B < B + 1; omega), ← hW1, ← hB]
    have bk : Blk (w.alloc (.cells (wrds.map Value.string).toArray 9)) w.heap.size 9 (wrds.map Value.string).toArray := Blk.new _ _ _
    rw [bk.cell q]
    simp [hq2]
  have HP : Hid (∀ z y : Int, 0 ≤ z → z ≤ 1000 → 1 ≤ y → y ≤ 1000000 → ∀ W, Below (B + 1) W1 W → Calls Tryz.prog 35 #[.slice a nl cap, .int .i64 z, .int .i64 y] W fun e w' => ∃ k : Nat, (k : Int) < y ∧ e = .returned (.int .i64 (k : Int)) ∧ w' = W) := by
    intro z y h1 h2 h3 h4 W hW
    obtain ⟨j, rfl⟩ : ∃ j : Nat, z = (j : Int) := ⟨z.toNat, by omega⟩
    obtain ⟨m, rfl⟩ : ∃ m : Nat, y = (m : Int) := ⟨y.toNat, by omega⟩
    refine (pick_any B a nl cap j m W (h.below (hb1.trans (hW.mono (by omega)))) hcap hcap2 (by omega) (by omega) (by omega)).mono ?_
    rintro e w' ⟨k, hk, rfl, rfl⟩
    exact ⟨k, by omega, rfl, rfl⟩
  have HB := Lib.hid hB; have HBLK := Lib.hid hblk; have HB1 := Lib.hid hb1; have HW := Lib.hid hW1; have HS1 := Lib.hid hs1
  have H0 : Hid (W1.ownsRow (B + 1) 84 3 (.slice none 0 0) ([] : List Er).length (rv [])) := World.ownsRow_nil _ _ _ _
  clear h hB hblk hb1 hW1 hs1
  go_enter Tryz.func36, Tryz.ntmps36
  go_wp2_with fail
  rw [show w.alloc (.cells #[.string ⟨#[]⟩, .string ⟨#[120]⟩, .string ⟨#[97, 98]⟩, .string ⟨#[32]⟩, .string ⟨#[10]⟩, .string ⟨#[108, 101, 116]⟩, .string ⟨#[48]⟩, .string ⟨#[43]⟩, .string ⟨#[195, 169]⟩, .string ⟨#[240, 157, 132, 158, 121]⟩, .string ⟨#[40]⟩, .string ⟨#[34]⟩, .string ⟨#[97, 95, 49]⟩] 9) = W1 from HW.out, HB.out]
  go_loopw [8, 9, 10] (fun v p q wr => ∃ (i : Nat) (f : Nat) (es : List Er), i ≤ 5 ∧ f ≤ s.size ∧ p = .int .i64 (f : Int) ∧ q = .int .i64 (i : Int) ∧ Hid (es.length = i) ∧ Hid (vE (s.size : Int) 0 es = 0 ∧ lastT 0 es = (f : Int) ∧ Bd (sb s) f) ∧ Hid (∀ x ∈ es, x.x.size ≤ s.size + 7 ∧ Bd (sb s) x.f.toNat ∧ Bd (sb s) x.t.toNat) ∧ Hid (wr.ownsRow (B + 1) 84 3 v es.length (rv es)) ∧ Hid (Below (B + 1) W1 wr)) (fun _ _ q _ => 5 - (intOf q).toNat)
  case atStart => exact ⟨0, 0, [], by omega, by omega, rfl, rfl, rfl, ⟨rfl, rfl, .inl rfl⟩, Lib.hid (fun x hx => by simp at hx), H0, Below.refl _ _⟩
  case round =>
    obtain ⟨i, f, es, hi, hf, rfl, rfl, HL, HV, HX, HO, HR⟩ := hrel
    have hcz : B + 1 ≤ wr.heap.size := by have := HR.out.size; have := HS1.out; omega
    go_wp2_with fail
    refine (HP.out 0 6 (by omega) (by omega) (by omega) (by omega) _ HR.out).mono ?_
    rintro e w' ⟨m0, hm0, rfl, rfl⟩
    by_cases hlt : (i : Int) < (m0 : Int)
    · go_wp2_with fail
      refine (HP.out _ _ (by omega) (by omega) (by omega) (by omega) _ HR.out).mono ?_
      rintro e w' ⟨n, hn, rfl, rfl⟩
      obtain ⟨D, hD⟩ : ∃ D : Nat, (s.size : Int) - (f : Int) + 1 = (D : Int) := ⟨s.size - f + 1, by omega⟩
      have hD1 : ¬ (D : Int) = 0 := by omega
      have hnn : 0 ≤ (n : Int) := by omega
      obtain ⟨x, hx⟩ : ∃ x : Nat, (f : Int) + (n : Int) % (D : Int) = (x : Int) := ⟨((f : Int) + (n : Int) % (D : Int)).toNat, by have := Int.emod_nonneg (n : Int) hD1; omega⟩
      have hxs : x ≤ s.size := by have := Int.emod_lt_of_pos (n : Int) (show (0 : Int) < D by omega); omega
      have hxf : f ≤ x := by have := Int.emod_nonneg (n : Int) hD1; omega
      obtain ⟨D2, hD2⟩ : ∃ D : Nat, min ((s.size : Int) - (f : Int)) 6 + 1 = (D : Int) := ⟨(min ((s.size : Int) - (f : Int)) 6 + 1).toNat, by omega⟩
      have hD3 : ¬ (D2 : Int) = 0 := by omega
      obtain ⟨x2, hx2⟩ : ∃ x : Nat, (f : Int) + (n : Int) % (D2 : Int) = (x : Int) := ⟨((f : Int) + (n : Int) % (D2 : Int)).toNat, by have := Int.emod_nonneg (n : Int) hD3; omega⟩
      have hxs2 : x2 ≤ s.size := by have := Int.emod_lt_of_pos (n : Int) (show (0 : Int) < D2 by omega); omega
      have hxf2 : f ≤ x2 := by have := Int.emod_nonneg (n : Int) hD3; omega
      obtain ⟨r1, hr1⟩ : ∃ r : Nat, (n : Int) / 8 = (r : Int) := ⟨n / 8, by omega⟩
      obtain ⟨r2, hr2⟩ : ∃ r : Nat, (n : Int) / 16 = (r : Int) := ⟨n / 16, by omega⟩
      obtain ⟨q1, hq1⟩ : ∃ q : Bool, ((r1 : Int) % 2 == 0) = q := ⟨_, rfl⟩
      obtain ⟨q2, hq2⟩ : ∃ q : Bool, ((r2 : Int) % 5 == 0) = q := ⟨_, rfl⟩
      obtain ⟨y, hy1, hy2, hy3, hy4⟩ : ∃ y : Nat, f ≤ y ∧ y ≤ s.size ∧ (q1 = false → y = x) ∧ (q1 = true → y = x2) := by
        cases q1
        · exact ⟨x, hxf, hxs, fun _ => rfl, (fun h => by cases h)⟩
        · exact ⟨x2, hxf2, hxs2, (fun h => by cases h), fun _ => rfl⟩
      obtain ⟨E, hE⟩ : ∃ D : Nat, min ((s.size : Int) - (y : Int)) 7 + 1 = (D : Int) := ⟨(min ((s.size : Int) - (y : Int)) 7 + 1).toNat, by omega⟩
      have hE1 : (1 : Int) ≤ (E : Int) := by omega
      have hE2 : (E : Int) ≤ 1000000 := by omega
      have hE3 : ∀ k : Nat, (k : Int) < (E : Int) → y + k ≤ s.size ∧ k ≤ 7 := fun k hk => by omega
      have HE3 := Lib.hid hE3
      clear hxf hxs hxf2 hxs2 hE3
      cases q1
      case' false =>
        have hyx := hy3 rfl
        clear hy3 hy4
        subst hyx
      case' true =>
        have hyx := hy4 rfl
        clear hy3 hy4
        subst hyx
      all_goals
        go_wp2_with fail
        refine (HP.out _ _ (by omega) (by omega) hE1 hE2 _ HR.out).mono ?_
        rintro e w' ⟨k, hk, rfl, rfl⟩
        obtain ⟨hk1, hk2⟩ := HE3.out k hk
        obtain ⟨z, hz⟩ : ∃ z : Nat, (y : Int) + (k : Int) = (z : Int) := ⟨y + k, by omega⟩
        have hz1' : z ≤ s.size := by omega
        obtain ⟨y2, hy2'⟩ : ∃ y2, bdy (sb s) y = y2 := ⟨_, rfl⟩
        obtain ⟨z2, hz2'⟩ : ∃ y2, bdy (sb s) z = y2 := ⟨_, rfl⟩
        have hyb : y2 ≤ y := by rw [← hy2']; exact bdy_le _ _
        have hzb : z2 ≤ z := by rw [← hz2']; exact bdy_le _ _
        have hBY : Bd (sb s) y2 := by rw [← hy2']; exact bdy_ok _ _
        have hBZ : Bd (sb s) z2 := by rw [← hz2']; exact bdy_ok _ _
        have hfy : f ≤ y2 := by rw [← hy2']; exact bdy_ge HV.out.2.2 hy1
        have hyz2 : y2 ≤ z2 := by rw [← hz2']; exact bdy_ge hBY (by omega)
        have CB1 := Lib.hid (fun W => boundary_any s y W hs hy2)
        have CB2 := Lib.hid (fun W => boundary_any s z W hs hz1')
        have HBYZ := Lib.hid (And.intro hBY hBZ)
        rw [hy2'] at CB1
        rw [hz2'] at CB2
        clear hy2' hz2' hBY hBZ
        go_wp2_with fail
        refine (CB1.out _).mono ?_
        rintro e w' ⟨rfl, rfl⟩
        go_wp2_with fail
        refine (CB2.out _).mono ?_
        rintro e w' ⟨rfl, rfl⟩
        have hz1 : z2 ≤ s.size := by omega
        go_wp2_with fail
        refine (HP.out _ _ (by omega) (by omega) (by omega) (by omega) _ HR.out).mono ?_
        rintro e w' ⟨m, hm, rfl, rfl⟩
        obtain ⟨t, ct, htl⟩ := HBLK.out m (by omega) _ HR.out
        have hzz : (y2 : Int) ≤ (z2 : Int) := by omega
        have hze : (z2 : Int) ≤ (s.size : Int) := by omega
        have hxl : (s.extract y2 z2).size ≤ s.size + 7 := by rw [ByteArray.size_extract]; omega
        clear hx hD hD1 hx2 hD2 hD3 hE hE1 hE2
        have hes : es.length ≤ 5 := by rw [HL.out]; exact hi
        obtain ⟨T, hT1, hT2, hT3⟩ : ∃ T : ByteArray, T.size ≤ s.size + 7 ∧ (q2 = false → T = t) ∧ (q2 = true → T = s.extract y2 z2) := by
          cases q2
          · exact ⟨t, by omega, fun _ => rfl, (fun h => by cases h)⟩
          · exact ⟨s.extract y2 z2, hxl, (fun h => by cases h), fun _ => rfl⟩
        have HV2 : Hid (vE (s.size : Int) 0 (es ++ [(⟨(y2 : Int), (z2 : Int), T⟩ : Er)]) = 0 ∧ lastT 0 (es ++ [(⟨(y2 : Int), (z2 : Int), T⟩ : Er)]) = (z2 : Int) ∧ Bd (sb s) z2) :=
          ⟨vE_snoc HV.out.1 (by show (0 : Int) ≤ (y2 : Int); omega) (by rw [HV.out.2.1]; show (f : Int) ≤ (y2 : Int); omega) (by show (y2 : Int) ≤ (z2 : Int); omega) (by show (z2 : Int) ≤ (s.size : Int); omega), lastT_snoc _ _ _, HBYZ.out.2⟩
        have HX2 : Hid (∀ x ∈ es ++ [(⟨(y2 : Int), (z2 : Int), T⟩ : Er)], x.x.size ≤ s.size + 7 ∧ Bd (sb s) x.f.toNat ∧ Bd (sb s) x.t.toNat) := Lib.hid (by
          intro x hx
          rcases List.mem_append.1 hx with h | h
          · exact HX.out x h
          · rw [List.mem_singleton] at h; subst h; exact ⟨hT1, HBYZ.out.1, HBYZ.out.2⟩)
        have HL2 : Hid ((es ++ [(⟨(y2 : Int), (z2 : Int), T⟩ : Er)]).length = i + 1) := Lib.hid (by rw [List.length_append, HL.out]; rfl)
        have HRV : Hid (rv (es ++ [(⟨(y2 : Int), (z2 : Int), T⟩ : Er)]) = rv es ++ [.int .i64 (y2 : Int), .int .i64 (z2 : Int), .string T]) := rv_snoc _ _
        have HT1 := Lib.hid hT1
        clear hT1 hxl
        cases q2
        case' false =>
          have hTT := hT2 rfl
          clear hT2 hT3
          subst hTT
        case' true =>
          have hTT : s.extract y2 z2 = T := (hT3 rfl).symm
          clear hT2 hT3
        all_goals
          go_wp2_with (at_builtin; (refine wpList_append_own _ rfl _ _ 38 rfl (B + 1) 84 i3 (.agg #[.int .i64 0, .int .i64 0, .string ⟨#[]⟩]) 3 32 Tryz.underlying38 hi3 jy0 jy1 jy2 rfl (by decide) u8 es.length (rv es) rfl (HO.out.alloc _) ⟨w'.heap.size, 0, none⟩ 1 1 [.int .i64 (y2 : Int), .int .i64 (z2 : Int), .string T] rfl rfl (cells_news _ [.int .i64 (y2 : Int), .int .i64 (z2 : Int), .string T] _) (fun x hx => by simp at hx; rcases hx with rfl | rfl | rfl <;> rfl) (by unfold maxLen; omega) (by omega) (by simp; omega) ?_; intro v' w6 hown6 hgrow6 _))
          have HO6 : Hid (w6.ownsRow (B + 1) 84 3 v' (es ++ [(⟨(y2 : Int), (z2 : Int), T⟩ : Er)]).length (rv (es ++ [(⟨(y2 : Int), (z2 : Int), T⟩ : Er)]))) := by rw [HRV.out, List.length_append]; exact hown6
          have H6 : Hid (Below (B + 1) W1 w6) := HR.out.trans (((Below.refl _ _).alloc hcz _).grown hgrow6 (by simp; omega) (fun g eg => (HO.out.lt g eg).1))
          clear hown6 hgrow6
          go_wp2
          go_roundw
          case rel => exact ⟨i + 1, z2, _, by omega, hz1, rfl, by go_num, HL2, HV2, HX2, HO6, H6⟩
          case measure => simp [intOf]; omega
    · go_wp2
      go_ret
      refine ⟨es, _, rfl, by rw [HL.out]; exact hi, ?_, HX.out, ?_, ?_⟩
      · unfold vErr
        rw [if_neg (by rw [HL.out]; omega)]
        exact HV.out.1
      · have h1 := HO.out
        rw [HB.out]
        exact own_base h1 (by omega)
      · rw [HB.out]
        exact HB1.out.trans (HR.out.mono (by omega))

set_option maxRecDepth 100000 in
theorem edits_any (s : ByteArray) (a : Option Addr) (nl cap : Nat) (w : World) (hs : s.size ≤ 1000000) (h : SlI w.heap.size w a nl) (hcap : nl ≤ cap) (hcap2 : cap ≤ 9223372036854775807) :
    Calls Tryz.prog 31 #[.string s, .slice a nl cap] w (MadeB s w) := by
  have C := Lib.hid (some_whole s a nl cap w hs h hcap hcap2)
  clear h
  go_enter Tryz.func31, Tryz.ntmps31
  go_wp2_with fail
  refine C.out.mono ?_
  rintro e w2 ⟨es, v, rfl, h1, h2, h3, h4, h5⟩
  have H := Lib.hid (And.intro h1 (And.intro h2 (And.intro h3 (And.intro h4 h5))))
  clear h1 h2 h3 h4 h5
  go_wp2
  go_ret
  obtain ⟨h1, h2, h3, h4, h5⟩ := H.out
  exact ⟨es, v, rfl, h1, h2, h3, h4, h5⟩

end Go.Proofs.YtkehgoailhpenaaGreat

/- The mathematics of the program's Compose: what both lists keep, and the edits around it. It has no conditions. -/
namespace Go.Proofs.YtkehgoailhpenaaGreat
open Go.RowKit Go.Shelf
set_option linter.unusedVariables false

/-- A piece of a text, with its sources. -/
def pcs (S : List Int) (k m : Nat) : List (Int × Option Nat) := (((S.drop k).take m).zipIdx k).map fun z => (z.1, some z.2)
theorem pcs_at {S : List Int} {k m i : Nat} : (pcs S k m)[i]? = if i < m then (S[k + i]?).map (fun c => (c, some (k + i))) else none := by
  unfold pcs
  rw [piece_at, List.getElem?_take]
  split
  · rw [List.getElem?_drop]
  · rfl
theorem pcs_len {S : List Int} {k m : Nat} (h : k + m ≤ S.length) : (pcs S k m).length = m := by
  unfold pcs
  rw [List.length_map, List.length_zipIdx, List.length_take, List.length_drop]
  omega
theorem pcs_zero (S : List Int) (k : Nat) : pcs S k 0 = [] := by simp [pcs]
theorem pcs_slice {S : List Int} {k m i j : Nat} (h : i + j ≤ m) : ((pcs S k m).drop i).take j = pcs S (k + i) j := by
  refine List.ext_getElem? fun a => ?_
  rw [List.getElem?_take, List.getElem?_drop, pcs_at, pcs_at]
  by_cases ha : a < j
  · rw [if_pos ha, if_pos ha, if_pos (by omega), show k + (i + a) = k + i + a by omega]
  · rw [if_neg ha, if_neg ha]
theorem pcs_cons {S : List Int} {k m : Nat} (h : k < S.length) : pcs S k (m + 1) = (S[k], some k) :: pcs S (k + 1) m := by
  unfold pcs
  rw [List.drop_eq_getElem_cons h, List.take_succ_cons, List.zipIdx_cons, List.map_cons]
/-- New bytes alone. -/
def AllNew (z : List (Int × Option Nat)) : Prop := ∀ y ∈ z, y.2 = none
theorem AllNew.tail {y : Int × Option Nat} {z : List (Int × Option Nat)} (h : AllNew (y :: z)) : y.2 = none ∧ AllNew z := ⟨h y (by simp), fun x hx => h x (by simp [hx])⟩
theorem AllNew.append {a b : List (Int × Option Nat)} (h : AllNew a) (k : AllNew b) : AllNew (a ++ b) := fun y hy => (List.mem_append.1 hy).elim (h y) (k y)
theorem AllNew.slice {z : List (Int × Option Nat)} (h : AllNew z) (i j : Nat) : AllNew ((z.drop i).take j) := fun y hy => h y (List.mem_of_mem_drop (List.mem_of_mem_take hy))
theorem all_new (x : List Int) : AllNew (x.map fun c => ((c, none) : Int × Option Nat)) := by
  intro y hy
  obtain ⟨c, _, rfl⟩ := List.mem_map.1 hy
  rfl
theorem canon_new {n a : Nat} {z : List (Int × Option Nat)} : ∀ {N : List (Int × Option Nat)} {x : List Int}, AllNew N → canon n a x (N ++ z) = canon n a (x ++ N.map Prod.fst) z := by
  intro N
  induction N with
  | nil => intro x _; simp
  | cons y N ih =>
    intro x h
    obtain ⟨c, k⟩ := y
    obtain ⟨h1, h2⟩ := h.tail
    simp only at h1
    subst h1
    simp only [List.cons_append, canon]
    rw [ih h2]
    simp
theorem canon_go {S : List Int} {n : Nat} {z : List (Int × Option Nat)} : ∀ {m k : Nat}, k + m ≤ S.length → canon n k [] (pcs S k m ++ z) = canon n (k + m) [] z := by
  intro m
  induction m with
  | zero => intro k _; rw [pcs_zero]; rfl
  | succ m ih =>
    intro k h
    rw [pcs_cons (by omega)]
    simp only [List.cons_append, canon]
    rw [if_neg (by simp), ih (by omega), show k + 1 + m = k + (m + 1) by omega]
theorem canon_piece {S : List Int} {n a k m : Nat} {x : List Int} {z : List (Int × Option Nat)} (hm : 0 < m) (h : k + m ≤ S.length) :
    canon n a x (pcs S k m ++ z) = (if a < k ∨ x ≠ [] then [⟨a, k, x⟩] else []) ++ canon n (k + m) [] z := by
  obtain ⟨m, rfl⟩ : ∃ m', m = m' + 1 := ⟨m - 1, by omega⟩
  rw [pcs_cons (by omega)]
  simp only [List.cons_append, canon]
  rw [canon_go (by omega), show k + 1 + m = k + (m + 1) by omega]
  split <;> rfl

/-- A piece that is kept: it lies at f of the old text and at q of the new one, and has m bytes. -/
structure Kp where
  f : Nat
  m : Nat
  q : Nat
def Kp.pc (s : ByteArray) (p : Kp) : Pc := ⟨p.f, ((p.f + p.m : Nat) : Int), p.q, s.extract p.f (p.f + p.m), true⟩
/-- A text with sources, from index q on: new bytes and pieces in turn. -/
def Dcm (S : List Int) : Nat → List (Int × Option Nat) → List Kp → Prop
  | q, z, [] => AllNew z
  | q, z, p :: K => ∃ N z' : List (Int × Option Nat), z = N ++ (pcs S p.f p.m ++ z') ∧ AllNew N ∧ p.q = q + N.length ∧ 0 < p.m ∧ p.f + p.m ≤ S.length ∧ Dcm S (p.q + p.m) z' K
theorem Dcm.new {S : List Int} {q : Nat} {z N : List (Int × Option Nat)} {K : List Kp} (hN : AllNew N) (h : Dcm S (q + N.length) z K) : Dcm S q (N ++ z) K := by
  cases K with
  | nil => exact hN.append h
  | cons p K =>
    obtain ⟨M, z', h1, h2, h3, h4⟩ := h
    exact ⟨N ++ M, z', by rw [h1, List.append_assoc], hN.append h2, by rw [h3, List.length_append]; omega, h4⟩
theorem Dcm.append {S : List Int} {z' : List (Int × Option Nat)} {K' : List Kp} : ∀ {K : List Kp} {q : Nat} {z : List (Int × Option Nat)}, Dcm S q z K → Dcm S (q + z.length) z' K' → Dcm S q (z ++ z') (K ++ K') := by
  intro K
  induction K with
  | nil => intro q z h h'; exact Dcm.new h h'
  | cons p K ih =>
    intro q z h h'
    obtain ⟨N, y, h1, h2, h3, h4, h5, h6⟩ := h
    refine ⟨N, y ++ z', by rw [h1]; simp, h2, h3, h4, h5, ih h6 ?_⟩
    rw [h1, List.length_append, List.length_append, pcs_len h5] at h'
    rwa [show p.q + p.m + y.length = q + (N.length + (p.m + y.length)) by omega]
/-- Pieces in order, in both texts. -/
def Ordk (n m : Nat) : Nat → Nat → List Kp → Prop
  | f, q, [] => f ≤ n ∧ q ≤ m
  | f, q, p :: K => f ≤ p.f ∧ q ≤ p.q ∧ p.f + p.m ≤ n ∧ p.q + p.m ≤ m ∧ Ordk n m (p.f + p.m) (p.q + p.m) K
theorem src_skip {S : List Int} : ∀ {N : List (Int × Option Nat)} {a : Nat} {z : List (Int × Option Nat)}, AllNew N → Src S a (N ++ z) → Src S a z := by
  intro N
  induction N with
  | nil => intro a z _ h; exact h
  | cons y N ih =>
    intro a z hN h
    obtain ⟨c, k⟩ := y
    obtain ⟨h1, h2⟩ := hN.tail
    simp only at h1
    subst h1
    exact ih h2 h
theorem src_pcs {S : List Int} {z : List (Int × Option Nat)} : ∀ {m k a : Nat}, k + m ≤ S.length → 0 < m → Src S a (pcs S k m ++ z) → a ≤ k ∧ Src S (k + m) z := by
  intro m
  induction m with
  | zero => intro k a _ h; omega
  | succ m ih =>
    intro k a hk _ h
    rw [pcs_cons (by omega)] at h
    obtain ⟨h1, _, h3⟩ := h
    refine ⟨h1, ?_⟩
    by_cases hm : m = 0
    · subst hm; rw [pcs_zero] at h3; exact h3
    · have := (ih (by omega) (by omega) h3).2
      rwa [show k + (m + 1) = k + 1 + m by omega]
theorem dcm_ord {S : List Int} {m : Nat} : ∀ {K : List Kp} {f q : Nat} {z : List (Int × Option Nat)}, Src S f z → Dcm S q z K → q + z.length = m → Ordk S.length m f q K := by
  intro K
  induction K with
  | nil => intro f q z hs _ hm; exact ⟨hs.le, by omega⟩
  | cons p K ih =>
    intro f q z hs hd hm
    obtain ⟨N, y, h1, h2, h3, h4, h5, h6⟩ := hd
    rw [h1] at hs hm
    rw [List.length_append, List.length_append, pcs_len h5] at hm
    obtain ⟨g1, g2⟩ := src_pcs h5 h4 (src_skip h2 hs)
    exact ⟨g1, by omega, h5, by omega, ih g2 h6 (by omega)⟩

/-- One edit for what is between two pieces, if it differs. -/
def gap (s u : ByteArray) (f t q r : Nat) : List Er := if u.extract q r = s.extract f t then [] else [⟨f, t, u.extract q r⟩]
def arl (s u : ByteArray) (f q : Nat) : List Kp → List Er
  | [] => gap s u f s.size q u.size
  | p :: K => gap s u f p.f q p.q ++ arl s u (p.f + p.m) (p.q + p.m) K
theorem gap_ees (s u : ByteArray) (f t q r : Nat) (hf : f ≤ t) (ht : t ≤ s.size) {x : List Int} (hx : ((sb u).drop q).take (r - q) = x) :
    ees (gap s u f t q r) = (if f < t ∨ x ≠ [] then [(⟨f, t, x⟩ : Ee)] else []).filter (Chg (sb s)) := by
  have hu : sb (u.extract q r) = x := by rw [sb_cut, hx]
  have hs : sb (s.extract f t) = ((sb s).drop f).take (t - f) := sb_cut s f t
  unfold gap
  by_cases he : u.extract q r = s.extract f t
  · rw [if_pos he]
    have h1 : ((sb s).drop f).take (t - f) = x := by rw [← hs, ← he, hu]
    split
    · rw [List.filter_cons, if_neg (by unfold Chg; simp [h1])]; rfl
    · rfl
  · rw [if_neg he]
    have h1 : ((sb s).drop f).take (t - f) ≠ x := fun e => he (sb_inj (by rw [hs, hu, e]))
    rw [if_pos ?_]
    · rw [List.filter_cons, if_pos (by unfold Chg; simp [h1])]
      simp only [ees, List.map_cons, List.map_nil, List.filter_nil, Er.ee, hu, Int.toNat_natCast]
    · by_cases hft : f < t
      · exact .inl hft
      · refine .inr fun hx0 => h1 ?_
        rw [hx0, show t - f = 0 by omega, List.take_zero]
theorem ees_append (a b : List Er) : ees (a ++ b) = ees a ++ ees b := by simp [ees]
theorem arl_canon {s u : ByteArray} : ∀ {K : List Kp} {f q : Nat} {z : List (Int × Option Nat)}, z.map Prod.fst = (sb u).drop q → Dcm (sb s) q z K → Ordk s.size u.size f q K → ees (arl s u f q K) = (canon s.size f [] z).filter (Chg (sb s)) := by
  intro K
  induction K with
  | nil =>
    intro f q z hz hd ho
    have hd' : AllNew z := hd
    have h1 : canon s.size f [] z = canon s.size f (z.map Prod.fst) [] := by have := canon_new (n := s.size) (a := f) (x := []) (z := []) hd'; simpa using this
    obtain ⟨o1, o2⟩ := ho
    rw [h1]
    simp only [arl, canon]
    refine gap_ees s u f s.size q u.size o1 (Nat.le_refl _) ?_
    rw [hz, List.take_of_length_le (by rw [List.length_drop, sb_len]; exact Nat.le_refl _)]
  | cons p K ih =>
    intro f q z hz hd ho
    obtain ⟨N, y, h1, h2, h3, h4, h5, h6⟩ := hd
    obtain ⟨o1, o2, o3, o4, o5⟩ := ho
    have hlN : (N.map Prod.fst).length = p.q - q := by rw [List.length_map]; omega
    have hlp : ((pcs (sb s) p.f p.m).map Prod.fst).length = p.m := by rw [List.length_map, pcs_len h5]
    rw [h1, List.map_append, List.map_append] at hz
    have hN : ((sb u).drop q).take (p.q - q) = N.map Prod.fst := by rw [← hz, ← hlN, List.take_left]
    have hy : y.map Prod.fst = (sb u).drop (p.q + p.m) := by
      have : (sb u).drop (p.q + p.m) = ((sb u).drop q).drop ((p.q - q) + p.m) := by rw [List.drop_drop]; congr 1; omega
      rw [this, ← hz, ← List.drop_drop, List.drop_left' hlN, List.drop_left' hlp]
    rw [h1, canon_new h2, canon_piece h4 h5, List.filter_append]
    simp only [arl, List.nil_append]
    rw [ees_append, ih hy h6 o5, gap_ees s u f p.f q p.q o1 (by omega) hN]

end Go.Proofs.YtkehgoailhpenaaGreat

/- The mathematics of the program's Compose: the parts that both lists keep are the pieces of the composition. It has no conditions. -/
namespace Go.Proofs.YtkehgoailhpenaaGreat
open Go.RowKit Go.Shelf
set_option linter.unusedVariables false

/-- What is kept of a part of the first list and of one of the second list. -/
def comm (p1 p2 : Pc) : Pc :=
  if p1.k = true ∧ p2.k = true ∧ max p1.q p2.f < min (p1.q + p1.x.size) p2.t then
    ⟨p1.f + (max p1.q p2.f - p1.q), p1.f + (max p1.q p2.f - p1.q) + min (p1.q + p1.x.size) p2.t - max p1.q p2.f, p2.q + max p1.q p2.f - p2.f,
      p1.x.extract (max p1.q p2.f - p1.q).toNat (max p1.q p2.f - p1.q + min (p1.q + p1.x.size) p2.t - max p1.q p2.f).toNat, true⟩
  else ⟨0, 0, 0, ⟨#[]⟩, false⟩
def seg (S : List Int) (p : Pc) : List (Int × Option Nat) := if p.k then pcs S p.f.toNat (p.t - p.f).toNat else (sb p.x).map fun c => (c, none)
/-- Parts that follow each other, from r on. -/
def Chn (s : ByteArray) : Nat → List Pc → Prop
  | _, [] => True
  | r, p :: P => p.q = r ∧ (p.k = true → ∃ f t : Nat, p.f = f ∧ p.t = t ∧ f ≤ t ∧ t ≤ s.size ∧ p.x = s.extract f t) ∧ Chn s (r + p.x.size) P
theorem cut_size {s : ByteArray} {f t : Nat} (h : f ≤ t) (ht : t ≤ s.size) : (s.extract f t).size = t - f := by rw [ByteArray.size_extract]; omega
theorem cut_cut (s : ByteArray) (f t a b : Nat) (h : f + b ≤ t) : (s.extract f t).extract a b = s.extract (f + a) (f + b) := by
  refine sb_inj ?_
  rw [sb_cut, sb_cut, sb_cut, List.drop_take, List.take_take, List.drop_drop]
  congr 1
  omega
theorem seg_len {s : ByteArray} {r : Nat} {p : Pc} {P : List Pc} (h : Chn s r (p :: P)) : (seg (sb s) p).length = p.x.size := by
  obtain ⟨h1, h2, h3⟩ := h
  unfold seg
  split
  · rename_i hk
    obtain ⟨f, t, e1, e2, e3, e4, e5⟩ := h2 hk
    rw [e1, e2, e5, cut_size e3 e4, Int.toNat_natCast, show ((t : Int) - (f : Int)).toNat = t - f by omega, pcs_len (by rw [sb_len]; omega)]
  · rw [List.length_map, sb_len]
/-- A place within a range. -/
def cl (lo hi r : Nat) : Nat := max lo (min r hi)
theorem kept_one {s : ByteArray} {p1 p2 : Pc} {r lo hi q2 : Nat} (h1 : p1.q = r) (h2 : p1.k = true → ∃ f t : Nat, p1.f = f ∧ p1.t = t ∧ f ≤ t ∧ t ≤ s.size ∧ p1.x = s.extract f t)
    (k2 : p2.k = true) (hf : p2.f = lo) (ht : p2.t = hi) (hq : p2.q = q2) (hlh : lo ≤ hi) :
    ∃ K : List Kp, [comm p1 p2].filter (·.k) = K.map (Kp.pc s) ∧ Dcm (sb s) (q2 + (cl lo hi r - lo)) (((seg (sb s) p1).drop (lo - r)).take (hi - cl lo hi r)) K := by
  by_cases hk : p1.k = true
  · obtain ⟨f, t, e1, e2, e3, e4, e5⟩ := h2 hk
    have hsz : p1.x.size = t - f := by rw [e5, cut_size e3 e4]
    have hseg : seg (sb s) p1 = pcs (sb s) f (t - f) := by
      unfold seg
      rw [if_pos hk, e1, e2, Int.toNat_natCast, show ((t : Int) - (f : Int)).toNat = t - f by omega]
    have hlen := pcs_len (S := sb s) (k := f) (m := t - f) (by rw [sb_len]; omega)
    unfold comm
    rw [h1, hf, ht, hq, hsz]
    by_cases hc : max r lo < min (r + (t - f)) hi
    · have hcl : cl lo hi r = max r lo := by unfold cl; omega
      refine ⟨[⟨f + (max r lo - r), min (r + (t - f)) hi - max r lo, q2 + (max r lo - lo)⟩], ?_, ?_⟩
      · rw [if_pos ⟨hk, k2, by omega⟩]
        simp only [List.filter_cons, List.filter_nil, if_true, List.map_cons, List.map_nil, Kp.pc]
        rw [e1, e5, show ((max (r : Int) (lo : Int)) - (r : Int)).toNat = max r lo - r by omega,
          show ((max (r : Int) (lo : Int)) - (r : Int) + min ((r : Int) + ((t - f : Nat) : Int)) (hi : Int) - max (r : Int) (lo : Int)).toNat = max r lo - r + (min (r + (t - f)) hi - max r lo) by omega, cut_cut _ _ _ _ _ (by omega)]
        congr 2
        · omega
        · omega
        · omega
        · congr 1
          omega
      · rw [hseg, hcl]
        refine ⟨[], [], ?_, (fun y hy => by simp at hy), ?_, ?_, ?_, (fun y hy => by simp at hy)⟩
        · simp only [List.nil_append, List.append_nil]
          refine List.ext_getElem? fun i => ?_
          rw [List.getElem?_take, List.getElem?_drop, pcs_at, pcs_at]
          by_cases hi1 : i < min (r + (t - f)) hi - max r lo
          · rw [if_pos (by omega), if_pos (by omega), if_pos hi1, show f + (lo - r + i) = f + (max r lo - r) + i by omega]
          · rw [if_neg hi1]
            by_cases hi2 : i < hi - max r lo
            · rw [if_pos hi2, if_neg (by omega)]
            · rw [if_neg hi2]
        · simp
        · simp only; omega
        · simp only [sb_len]; omega
    · refine ⟨[], ?_, ?_⟩
      · rw [if_neg (by omega)]
        rfl
      · rw [hseg]
        have hz : (((pcs (sb s) f (t - f)).drop (lo - r)).take (hi - cl lo hi r)).length = 0 := by
          rw [List.length_take, List.length_drop, hlen]
          unfold cl
          omega
        rw [List.eq_nil_of_length_eq_zero hz]
        intro y hy
        simp at hy
  · refine ⟨[], ?_, ?_⟩
    · unfold comm
      rw [if_neg (fun h => hk h.1)]
      rfl
    · have : seg (sb s) p1 = (sb p1.x).map fun c => (c, none) := by unfold seg; rw [if_neg hk]
      rw [this]
      exact (all_new _).slice _ _
/-- Of all parts of the first list, what one part of the second list keeps. -/
theorem kept_in {s : ByteArray} {p2 : Pc} {lo hi q2 : Nat} (k2 : p2.k = true) (hf : p2.f = lo) (ht : p2.t = hi) (hq : p2.q = q2) (hlh : lo ≤ hi) : ∀ {P : List Pc} {r : Nat}, Chn s r P →
    ∃ K : List Kp, (P.map fun p1 => comm p1 p2).filter (·.k) = K.map (Kp.pc s) ∧ Dcm (sb s) (q2 + (cl lo hi r - lo)) (((P.flatMap (seg (sb s))).drop (lo - r)).take (hi - cl lo hi r)) K := by
  intro P
  induction P with
  | nil => intro r _; exact ⟨[], rfl, by simp; intro y hy; simp at hy⟩
  | cons p P ih =>
    intro r h
    have hl := seg_len h
    obtain ⟨h1, h2, h3⟩ := h
    obtain ⟨K1, a1, a2⟩ := kept_one h1 h2 k2 hf ht hq hlh
    obtain ⟨K2, b1, b2⟩ := ih h3
    refine ⟨K1 ++ K2, ?_, ?_⟩
    · rw [List.map_cons, ← List.singleton_append, List.filter_append, a1, b1, List.map_append]
    · rw [List.flatMap_cons, List.drop_append, List.take_append, hl]
      refine a2.append ?_
      rw [List.length_take, List.length_drop, hl]
      have e1 : q2 + (cl lo hi r - lo) + min (hi - cl lo hi r) (p.x.size - (lo - r)) = q2 + (cl lo hi (r + p.x.size) - lo) := by unfold cl; omega
      have e2 : lo - r - p.x.size = lo - (r + p.x.size) := by omega
      have e3 : hi - cl lo hi r - (p.x.size - (lo - r)) = hi - cl lo hi (r + p.x.size) := by unfold cl; omega
      rw [e1, e2, e3]
      exact b2

theorem thru_slice {z1 : List (Int × Option Nat)} {T : List Int} (hz : z1.map Prod.fst = T) (lo m : Nat) : thru z1 (pcs T lo m) = (z1.drop lo).take m := by
  refine List.ext_getElem? fun i => ?_
  unfold thru
  rw [List.getElem?_map, pcs_at, List.getElem?_take]
  split
  · rw [List.getElem?_drop, ← hz, List.getElem?_map]
    cases h : z1[lo + i]? with
    | none => rfl
    | some y => simp [h]
  · rfl
/-- All that both lists keep, in the order of the second one's parts. -/
def kbl (P1 P2 : List Pc) : List Pc := P2.flatMap fun p2 => P1.map fun p1 => comm p1 p2
theorem kept_all {s t : ByteArray} {P1 : List Pc} (h1 : Chn s 0 P1) (hz : (P1.flatMap (seg (sb s))).map Prod.fst = sb t) : ∀ {P2 : List Pc} {q : Nat}, Chn t q P2 →
    ∃ K : List Kp, (kbl P1 P2).filter (·.k) = K.map (Kp.pc s) ∧ Dcm (sb s) q (thru (P1.flatMap (seg (sb s))) (P2.flatMap (seg (sb t)))) K := by
  intro P2
  induction P2 with
  | nil => intro q _; exact ⟨[], rfl, fun y hy => by simp [thru] at hy⟩
  | cons p P ih =>
    intro q h
    have hl := seg_len h
    obtain ⟨g1, g2, g3⟩ := h
    obtain ⟨K2, b1, b2⟩ := ih g3
    have hfil : (kbl P1 (p :: P)).filter (·.k) = (P1.map fun p1 => comm p1 p).filter (·.k) ++ (kbl P1 P).filter (·.k) := by
      unfold kbl
      rw [List.flatMap_cons, List.filter_append]
    have hthr : thru (P1.flatMap (seg (sb s))) ((p :: P).flatMap (seg (sb t))) = thru (P1.flatMap (seg (sb s))) (seg (sb t) p) ++ thru (P1.flatMap (seg (sb s))) (P.flatMap (seg (sb t))) := by
      rw [List.flatMap_cons, thru_append]
    have hln : (thru (P1.flatMap (seg (sb s))) (seg (sb t) p)).length = p.x.size := by unfold thru; rw [List.length_map, hl]
    rw [hfil, hthr, b1]
    suffices hk : ∃ K1 : List Kp, (P1.map fun p1 => comm p1 p).filter (·.k) = K1.map (Kp.pc s) ∧ Dcm (sb s) q (thru (P1.flatMap (seg (sb s))) (seg (sb t) p)) K1 by
      obtain ⟨K1, a1, a2⟩ := hk
      exact ⟨K1 ++ K2, by rw [a1, List.map_append], a2.append (by rw [hln]; exact b2)⟩
    by_cases hk : p.k = true
    · obtain ⟨f, e, e1, e2, e3, e4, e5⟩ := g2 hk
      obtain ⟨K1, a1, a2⟩ := kept_in (s := s) hk e1 e2 g1 e3 h1
      refine ⟨K1, a1, ?_⟩
      have hs : seg (sb t) p = pcs (sb t) f (e - f) := by unfold seg; rw [if_pos hk, e1, e2, Int.toNat_natCast, show ((e : Int) - (f : Int)).toNat = e - f by omega]
      rw [hs, thru_slice hz]
      have c1 : cl f e 0 = f := by unfold cl; omega
      rw [c1, Nat.sub_self, Nat.add_zero, Nat.sub_zero] at a2
      exact a2
    · refine ⟨[], ?_, ?_⟩
      · rw [List.map_nil, List.filter_eq_nil_iff]
        intro c hc
        obtain ⟨p1, _, rfl⟩ := List.mem_map.1 hc
        unfold comm
        rw [if_neg (fun h => hk h.2.1)]
        decide
      · have hs : seg (sb t) p = (sb p.x).map fun c => (c, none) := by unfold seg; rw [if_neg hk]
        rw [hs, thru_none]
        exact all_new _
/-- The parts of a new text are its bytes with their sources, and follow each other. -/
theorem prl_seg {s : ByteArray} : ∀ {es : List Er} {f q : Nat}, Vld s.size f (ees es) → (∀ e ∈ es, 0 ≤ e.f ∧ e.f ≤ e.t ∧ e.t ≤ (s.size : Int)) →
    (prl s f q es).flatMap (seg (sb s)) = srcl (sb s) f (ees es) ∧ Chn s q (prl s f q es) := by
  intro es
  induction es with
  | nil =>
    intro f q h _
    have hf : f ≤ s.size := h
    refine ⟨?_, rfl, (fun _ => ⟨f, s.size, rfl, rfl, hf, Nat.le_refl _, rfl⟩), trivial⟩
    simp only [prl, List.flatMap_cons, List.flatMap_nil, List.append_nil, seg, if_true, ees, List.map_nil, srcl]
    rw [Int.toNat_natCast, show ((s.size : Int) - (f : Int)).toNat = s.size - f by omega]
    unfold pcs
    rw [List.take_of_length_le (by rw [List.length_drop, sb_len]; exact Nat.le_refl _)]
  | cons e es ih =>
    intro f q h hok
    obtain ⟨o1, o2, o3⟩ := hok e (by simp)
    obtain ⟨v1, v2, v3, v4⟩ := h
    simp only [Er.ee] at v1 v2 v3 v4
    obtain ⟨i1, i2⟩ := ih (f := e.t.toNat) (q := q + (e.f.toNat - f) + e.x.size) v4 (fun x hx => hok x (by simp [hx]))
    have hsz : (s.extract f e.f.toNat).size = e.f.toNat - f := cut_size v1 (by omega)
    refine ⟨?_, ?_⟩
    · simp only [prl, List.flatMap_cons, i1, ees_cons, srcl, Er.ee, seg, if_true]
      rw [Int.toNat_natCast, show (e.f - (f : Int)).toNat = e.f.toNat - f by omega]
      rfl
    · simp only [prl]
      refine ⟨rfl, (fun _ => ⟨f, e.f.toNat, rfl, by show e.f = ((e.f.toNat : Nat) : Int); omega, v1, by omega, rfl⟩), ?_, (fun h => by cases h), ?_⟩
      · rw [hsz]; simp only; omega
      · rw [hsz]; exact i2
/-- The pieces that both lists keep, and the edits around them: the composition. -/
theorem kept_comp {s t u : ByteArray} {a b : List Er} (ha : vErr (s.size : Int) a = 0) (hb : vErr (t.size : Int) b = 0) (ht : sb t = appl (sb s) 0 (ees a)) (hu : sb u = appl (sb t) 0 (ees b)) :
    ∃ K : List Kp, (kbl (prl s 0 0 a) (prl t 0 0 b)).filter (·.k) = K.map (Kp.pc s) ∧ Ordk s.size u.size 0 0 K ∧ ees (arl s u 0 0 K) = cmpl (sb s) (ees a) (ees b) := by
  obtain ⟨_, va, oa⟩ := vErr_ok ha
  obtain ⟨_, vb, ob⟩ := vErr_ok hb
  obtain ⟨s1, c1⟩ := prl_seg (q := 0) va oa
  obtain ⟨s2, c2⟩ := prl_seg (q := 0) vb ob
  obtain ⟨K, k1, k2⟩ := kept_all c1 (by rw [s1, srcl_fst, ht]) c2
  rw [s1, s2] at k2
  have va' : Vld (sb s).length 0 (ees a) := by rw [sb_len]; exact va
  have vb' : Vld (sb t).length 0 (ees b) := by rw [sb_len]; exact vb
  have hsrc := thru_src (srcl_src va') (by rw [srcl_fst, ← ht] : _ = sb t) (srcl_src vb')
  have hfst : (thru (srcl (sb s) 0 (ees a)) (srcl (sb t) 0 (ees b))).map Prod.fst = sb u := by rw [thru_fst, srcl_fst, hu]
  have hlen : (thru (srcl (sb s) 0 (ees a)) (srcl (sb t) 0 (ees b))).length = u.size := by rw [← sb_len, ← hfst, List.length_map]
  have ho := dcm_ord hsrc k2 (by rw [Nat.zero_add, hlen])
  rw [sb_len] at ho
  refine ⟨K, k1, ho, ?_⟩
  rw [arl_canon (by rw [hfst, List.drop_zero]) k2 ho]
  unfold cmpl norml
  rw [joinl_of_sep (canon_sep (x := []) (by rw [← ht]; exact hsrc)), sb_len, ht]

end Go.Proofs.YtkehgoailhpenaaGreat

/- The contract of common. Conditions: offsets and sizes of at most 2^40. -/
namespace Go.Proofs.YtkehgoailhpenaaGreat
open Go.RowKit Go.Shelf
set_option linter.unusedVariables false

/-- Five cells, read off a block. -/
theorem cells5 {W : World} {b t : Nat} {v0 v1 v2 v3 v4 : Value} (h : Blk W b t #[v0, v1, v2, v3, v4]) :
    W.cell? ⟨b, 0, none⟩ = some v0 ∧ W.cell? ⟨b, 1, none⟩ = some v1 ∧ W.cell? ⟨b, 2, none⟩ = some v2 ∧ W.cell? ⟨b, 3, none⟩ = some v3 ∧ W.cell? ⟨b, 4, none⟩ = some v4 :=
  ⟨by simpa using h.cell 0, by simpa using h.cell 1, by simpa using h.cell 2, by simpa using h.cell 3, by simpa using h.cell 4⟩

set_option maxRecDepth 100000 in
set_option maxHeartbeats 4000000 in
theorem common_any (p1 p2 : Pc) (w : World) (hf1 : 0 ≤ p1.f ∧ p1.f ≤ 1099511627776) (hq1 : 0 ≤ p1.q ∧ p1.q ≤ 1099511627776) (hx1 : p1.x.size ≤ 1099511627776) (hf2 : 0 ≤ p2.f ∧ p2.f ≤ 1099511627776) (ht2 : 0 ≤ p2.t ∧ p2.t ≤ 1099511627776) (hq2 : 0 ≤ p2.q ∧ p2.q ≤ 1099511627776) :
    Calls Tryz.prog 90 #[p1.val, p2.val] w fun e w' => e = .returned (comm p1 p2).val ∧ Below w.heap.size w w' := by
  have CE := Lib.hid (fun W => end_any p1 W (by omega) (by omega))
  obtain ⟨R, hR⟩ : ∃ R, comm p1 p2 = R := ⟨_, rfl⟩
  obtain ⟨f1, t1, q1, x1, k1⟩ := p1
  obtain ⟨f2, t2, q2, x2, k2⟩ := p2
  simp only [Pc.val] at hf1 hq1 hx1 hf2 ht2 hq2 CE ⊢
  rw [hR]
  unfold comm at hR
  simp only at hR
  obtain ⟨st, hst⟩ : ∃ z, max q1 f2 = z := ⟨_, rfl⟩
  obtain ⟨n1, hn1⟩ : ∃ z : Int, q1 + (x1.size : Int) = z := ⟨_, rfl⟩
  obtain ⟨en, hen⟩ : ∃ z, min n1 t2 = z := ⟨_, rfl⟩
  rw [hst, hn1, hen] at hR
  rw [hn1] at CE
  obtain ⟨B, hB⟩ : ∃ B, w.heap.size = B := ⟨_, rfl⟩
  obtain ⟨W, hW⟩ : ∃ W, ((w.alloc (.cells #[.int .i64 f1, .int .i64 t1, .int .i64 q1, .string x1, .bool k1] 103)).alloc (.cells #[.int .i64 f2, .int .i64 t2, .int .i64 q2, .string x2, .bool k2] 103)).alloc (.cells #[.int .i64 0, .int .i64 0, .int .i64 0, .string ⟨#[]⟩, .bool false] 103) = W := ⟨_, rfl⟩
  have b1 : Blk W B 103 #[.int .i64 f1, .int .i64 t1, .int .i64 q1, .string x1, .bool k1] := by rw [← hW, ← hB]; exact ((Blk.new _ _ _).alloc _).alloc _
  have b2 : Blk W (B + 1) 103 #[.int .i64 f2, .int .i64 t2, .int .i64 q2, .string x2, .bool k2] := by
    rw [← hW, ← hB]
    have := Blk.new (w.alloc (.cells #[.int .i64 f1, .int .i64 t1, .int .i64 q1, .string x1, .bool k1] 103)) 103 #[.int .i64 f2, .int .i64 t2, .int .i64 q2, .string x2, .bool k2]
    rw [World.size_alloc] at this
    exact this.alloc _
  have b3 : Blk W (B + 1 + 1) 103 #[.int .i64 0, .int .i64 0, .int .i64 0, .string ⟨#[]⟩, .bool false] := by
    rw [← hW, ← hB]
    have := Blk.new ((w.alloc (.cells #[.int .i64 f1, .int .i64 t1, .int .i64 q1, .string x1, .bool k1] 103)).alloc (.cells #[.int .i64 f2, .int .i64 t2, .int .i64 q2, .string x2, .bool k2] 103)) 103 #[.int .i64 0, .int .i64 0, .int .i64 0, .string ⟨#[]⟩, .bool false]
    rw [World.size_alloc, World.size_alloc] at this
    exact this
  have HB3 := Lib.hid b3
  have sW : W.heap.size = B + 3 := by rw [← hW, ← hB]; simp
  have bl : Below B w W := by rw [← hW, ← hB]; exact (((Below.refl _ _).alloc (Nat.le_refl _) _).alloc (by simp) _).alloc (by simp; omega) _
  have HS : Hid (∀ V, Below (B + 2) W V → (V.cell? ⟨B, 0, none⟩ = some (.int .i64 f1) ∧ V.cell? ⟨B, 1, none⟩ = some (.int .i64 t1) ∧ V.cell? ⟨B, 2, none⟩ = some (.int .i64 q1) ∧ V.cell? ⟨B, 3, none⟩ = some (.string x1) ∧ V.cell? ⟨B, 4, none⟩ = some (.bool k1)) ∧
      (V.cell? ⟨B + 1, 0, none⟩ = some (.int .i64 f2) ∧ V.cell? ⟨B + 1, 1, none⟩ = some (.int .i64 t2) ∧ V.cell? ⟨B + 1, 2, none⟩ = some (.int .i64 q2) ∧ V.cell? ⟨B + 1, 3, none⟩ = some (.string x2) ∧ V.cell? ⟨B + 1, 4, none⟩ = some (.bool k2))) := fun V hV =>
    ⟨cells5 (b1.same (hV.block B (by omega))), cells5 (b2.same (hV.block (B + 1) (by omega)))⟩
  obtain ⟨⟨c0, c1, c2, c3, c4⟩, d0, d1, d2, d3, d4⟩ := HS.out W (Below.refl _ _)
  have HW := Lib.hid hW; have HB := Lib.hid hB; have HBL := Lib.hid bl
  have g1 : 0 ≤ st ∧ st ≤ 1099511627776 := by omega
  have g2 : 0 ≤ en ∧ en ≤ 1099511627776 := by omega
  have HR := Lib.hid hR
  clear hW hB b1 b2 b3 bl hR
  rw [← HW.out] at c0 c1 c2 c3 c4 d0 d1 d2 d3 d4
  rw [← HB.out] at c0 c1 c2 c3 c4 d0 d1 d2 d3 d4
  go_enter Tryz.func90, Tryz.ntmps90
  go_wp2_with fail
  rw [HW.out, HB.out]
  have hB2 : Below (B + 2) W W.drew := (Below.refl _ _).drew
  have z2 : B + 2 ≤ W.drew.heap.size := by show B + 2 ≤ W.heap.size; omega
  have cA := HS.out W.drew hB2
  go_region_held3 (fun V : World => (V.cell? ⟨B, 0, none⟩ = some (.int .i64 f1) ∧ V.cell? ⟨B, 1, none⟩ = some (.int .i64 t1) ∧ V.cell? ⟨B, 2, none⟩ = some (.int .i64 q1) ∧ V.cell? ⟨B, 3, none⟩ = some (.string x1) ∧ V.cell? ⟨B, 4, none⟩ = some (.bool k1)) ∧
      (V.cell? ⟨B + 1, 0, none⟩ = some (.int .i64 f2) ∧ V.cell? ⟨B + 1, 1, none⟩ = some (.int .i64 t2) ∧ V.cell? ⟨B + 1, 2, none⟩ = some (.int .i64 q2) ∧ V.cell? ⟨B + 1, 3, none⟩ = some (.string x2) ∧ V.cell? ⟨B + 1, 4, none⟩ = some (.bool k2))) (first | exact cA | exact cB)
    (first | (go_at_call 72; refine (CE.out _).mono ?_; rintro e w1 ⟨rfl, b1⟩; have hB1 := hB2.trans (b1.mono z2); have cB := HS.out w1 hB1))
  have b4 := HB3.out.same (b1.block (B + 1 + 1) (by show B + 1 + 1 < W.heap.size; omega))
  have hw1 : Below B w w1 := HBL.out.trans (hB1.mono (by omega))
  have z1 : B + 3 ≤ w1.heap.size := by have := b1.size; have h2 : W.drew.heap.size = W.heap.size := rfl; omega
  obtain ⟨e0, e1, e2, e3, e4⟩ := cells5 b4
  have HCB := Lib.hid cB
  obtain ⟨⟨c0, c1, c2, c3, c4⟩, d0, d1, d2, d3, d4⟩ := cB
  have HW1 := Lib.hid hw1; have HBW := Lib.hid b4
  clear cA b1 hB2 hB1 hw1 b4
  obtain ⟨sk, hsk⟩ : ∃ z, st - q1 = z := ⟨_, rfl⟩
  have HEND : Hid (∀ v0 v1 v2 v3 v4 : Value, Blk (((((w1.setCell ⟨B + 1 + 1, 0, none⟩ v0).setCell ⟨B + 1 + 1, 1, none⟩ v1).setCell ⟨B + 1 + 1, 2, none⟩ v2).setCell ⟨B + 1 + 1, 3, none⟩ v3).setCell ⟨B + 1 + 1, 4, none⟩ v4) (B + 1 + 1) 103 #[v0, v1, v2, v3, v4] ∧ Below w.heap.size w (((((w1.setCell ⟨B + 1 + 1, 0, none⟩ v0).setCell ⟨B + 1 + 1, 1, none⟩ v1).setCell ⟨B + 1 + 1, 2, none⟩ v2).setCell ⟨B + 1 + 1, 3, none⟩ v3).setCell ⟨B + 1 + 1, 4, none⟩ v4)) := by
    intro v0 v1 v2 v3 v4
    refine ⟨by simpa using ((((HBW.out.set 0 v0).set 1 v1).set 2 v2).set 3 v3).set 4 v4, ?_⟩
    rw [HB.out]
    exact ((((HW1.out.setCell (p := ⟨B + 1 + 1, 0, none⟩) (by show B ≤ B + 1 + 1; omega) _).setCell (p := ⟨B + 1 + 1, 1, none⟩) (by show B ≤ B + 1 + 1; omega) _).setCell (p := ⟨B + 1 + 1, 2, none⟩) (by show B ≤ B + 1 + 1; omega) _).setCell (p := ⟨B + 1 + 1, 3, none⟩) (by show B ≤ B + 1 + 1; omega) _).setCell (p := ⟨B + 1 + 1, 4, none⟩) (by show B ≤ B + 1 + 1; omega) _
  by_cases hk : k1 = true ∧ k2 = true ∧ st < en
  · obtain ⟨rfl, rfl, hlt⟩ := hk
    have hge : ¬ en ≤ st := by omega
    have s1 : 0 ≤ sk := by omega
    have s2 : sk + en - st ≤ x1.size := by omega
    have s3 : sk ≤ sk + en - st := by omega
    have hR := HR.out
    rw [if_pos ⟨rfl, rfl, hlt⟩, hsk] at hR
    go_wp2_with fail
    have cS := HCB.out
    have wr : ∀ z : Int, -9223372036854775808 ≤ z → z ≤ 9223372036854775807 → IntKind.i64.wrap z = z := by intro z a b; simp [IntKind.wrap, IntKind.signed, IntKind.bits]; omega
    have w1' := wr sk (by omega) (by omega)
    have w2 := wr (sk + en) (by omega) (by omega)
    have w3 := wr (sk + en - st) (by omega) (by omega)
    have w4 := wr (f1 + sk) (by omega) (by omega)
    have w5 := wr (f1 + sk + en) (by omega) (by omega)
    have w6 := wr (f1 + sk + en - st) (by omega) (by omega)
    have w7 := wr (q2 + st) (by omega) (by omega)
    have w8 := wr (q2 + st - f2) (by omega) (by omega)
    clear wr
    have y0 := HBW.out.frozen 0
    have y1 := HBW.out.frozen 1
    have y2 := HBW.out.frozen 2
    have y3 := HBW.out.frozen 3
    have y4 := HBW.out.frozen 4
    clear cS
    go_region
    go_wp2_with fail
    obtain ⟨k0, hbl⟩ := HEND.out (.int .i64 (f1 + sk)) (.int .i64 (f1 + sk + en - st)) (.int .i64 (q2 + st - f2)) (.string (x1.extract sk.toNat (sk + en - st).toNat)) (.bool true)
    obtain ⟨k0, k1, k2, k3, k4⟩ := cells5 k0
    refine bodyPost_ret (v := R.val) (by simp [results, Tryz.results90, go_sem, k0, k1, k2, k3, k4, ← hR, Pc.val]) rfl ?_
    exact ⟨rfl, hbl.drew⟩
  · have hR := HR.out
    rw [if_neg hk] at hR
    have y0 := HBW.out.frozen 0
    have y1 := HBW.out.frozen 1
    have y2 := HBW.out.frozen 2
    have y3 := HBW.out.frozen 3
    have y4 := HBW.out.frozen 4
    cases k1 with
    | false =>
      go_wp2_with fail
      obtain ⟨k0, hbl⟩ := HEND.out (.int .i64 0) (.int .i64 0) (.int .i64 0) (.string ⟨#[]⟩) (.bool false)
      obtain ⟨k0, k1, k2, k3, k4⟩ := cells5 k0
      refine bodyPost_ret (v := R.val) (by simp [results, Tryz.results90, go_sem, k0, k1, k2, k3, k4, ← hR, Pc.val]) rfl ?_
      exact ⟨rfl, hbl⟩
    | true =>
      cases k2 with
      | false =>
        go_wp2_with fail
        obtain ⟨k0, hbl⟩ := HEND.out (.int .i64 0) (.int .i64 0) (.int .i64 0) (.string ⟨#[]⟩) (.bool false)
        obtain ⟨k0, k1, k2, k3, k4⟩ := cells5 k0
        refine bodyPost_ret (v := R.val) (by simp [results, Tryz.results90, go_sem, k0, k1, k2, k3, k4, ← hR, Pc.val]) rfl ?_
        exact ⟨rfl, hbl⟩
      | true =>
        have hge : en ≤ st := by
          have : ¬ st < en := fun h => hk ⟨rfl, rfl, h⟩
          omega
        go_wp2_with fail
        obtain ⟨k0, hbl⟩ := HEND.out (.int .i64 0) (.int .i64 0) (.int .i64 0) (.string ⟨#[]⟩) (.bool false)
        obtain ⟨k0, k1, k2, k3, k4⟩ := cells5 k0
        refine bodyPost_ret (v := R.val) (by simp [results, Tryz.results90, go_sem, k0, k1, k2, k3, k4, ← hR, Pc.val]) rfl ?_
        exact ⟨rfl, hbl⟩

end Go.Proofs.YtkehgoailhpenaaGreat
