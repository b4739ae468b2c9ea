/- The contract of the reference's Vals: up to eight values that fit, in memory of its own. It has no conditions. -/
import Derived.Test.YtfnpnomfdfdonaaVal
import Derived.Test.YtfnpnomfdfdonaaAround
import Derived.Deep.RegionHeld3
import Derived.Deep.AppendLies
import Derived.Deep.RegionLaw
import Derived.Outline
import Derived.Laws.OwnMore
namespace Go.Proofs.Ytfnpnomfdfdonaa
open Go.RowKit Go.Shelf
set_option linter.unusedVariables false

/-- A call hands back a list of up to eight values that fit, in memory of its own. -/
def ValsPost (w : World) (e : Ending) (w' : World) : Prop :=
  ∃ ov vs, e = .returned ov ∧ VRow w.heap.size w' ov vs ∧ vs.length ≤ 8 ∧ (∀ v ∈ vs, Good v) ∧ Below w.heap.size w w'
def ValsInv (B : Nat) (ov : Value) (i : Nat) (w wr : World) : Prop :=
  ∃ vs, VRow B wr ov vs ∧ vs.length = i ∧ (∀ v ∈ vs, Good v) ∧ Below B w wr

theorem tdiv_bd {x : Int} (h1 : -9223372036854775808 ≤ x) (h2 : x ≤ 9223372036854775807) : -9223372036854775808 ≤ x.tdiv 6 ∧ x.tdiv 6 ≤ 9223372036854775807 := by
  by_cases h : 0 ≤ x
  · rw [Int.tdiv_eq_ediv_of_nonneg h]; omega
  · have e : x.tdiv 6 = -((-x) / 6) := by
      rw [← Int.tdiv_eq_ediv_of_nonneg (by omega : 0 ≤ -x), Int.neg_tdiv]; omega
    rw [e]; omega
theorem shr_bd {x : Int} (s : Nat) (h1 : -9223372036854775808 ≤ x) (h2 : x ≤ 9223372036854775807) : -9223372036854775808 ≤ x / 2 ^ s ∧ x / 2 ^ s ≤ 9223372036854775807 := by
  have hp : (0 : Int) < 2 ^ s := Int.pow_pos (by decide)
  constructor
  · rw [Int.le_ediv_iff_mul_le hp]
    have : (-9223372036854775808 : Int) * 2 ^ s ≤ -9223372036854775808 * 1 := Int.mul_le_mul_of_nonpos_left (by decide) (by omega)
    omega
  · by_cases h : 0 ≤ x
    · exact Int.le_trans (Int.ediv_le_self _ h) h2
    · have := Int.ediv_neg_of_neg_of_pos (by omega : x < 0) hp
      omega
theorem u8_bd (x : Int) : 0 ≤ IntKind.u8.wrap x ∧ IntKind.u8.wrap x ≤ 255 := by
  have hw : IntKind.u8.wrap x = x % 256 := by simp [IntKind.wrap, IntKind.signed, IntKind.bits]
  rw [hw]; omega
/-- What holds in the loop that fills v.B. -/
def LoopB (p k j : Nat) (w wr : World) : Prop :=
  ∃ zs ab cb, Blk wr p 28 #[.int .i64 (k : Int), .int .u64 0, .int .i64 0, .slice ab zs.length cb, .slice none 0 0] ∧ wr.ownsRow (p + 1) 5 1 (.slice ab zs.length cb) zs.length (zs.map (Value.int .u8)) ∧ Byt zs ∧ zs.length = j ∧ Below p w wr
theorem loopB_step {p k j : Nat} {wo wr w1 : World} {zs : List Int} {ab : Option Addr} {cb gg c1 : Nat} {X : Int} {tmp : Obj}
    (hblk : Blk wr p 28 #[.int .i64 (k : Int), .int .u64 0, .int .i64 0, .slice ab zs.length cb, .slice none 0 0]) (hbel : Below p wo wr) (hnp : (Value.slice ab zs.length cb).ownBlock ≠ some p) (hbyt : Byt zs) (hzl : zs.length = j)
    (hown : wr.ownsRow (p + 1) 5 1 (.slice ab zs.length cb) zs.length (zs.map (Value.int .u8)))
    (hown1 : w1.ownsRow (p + 1) 5 1 (.slice (some ⟨gg, 0, none⟩) (zs.length + 1) c1) (zs.length + 1) (zs.map (Value.int .u8) ++ [.int .u8 X])) (hg : ((wr.alloc tmp).drew).grownBy w1 (Value.slice ab zs.length cb).ownBlock) (hX : 0 ≤ X ∧ X ≤ 255) :
    LoopB p k (j + 1) wo (w1.setCell ⟨p, 3, none⟩ (.slice (some ⟨gg, 0, none⟩) (zs.length + 1) c1)) := by
  have hb1 : Blk w1 p 28 #[.int .i64 (k : Int), .int .u64 0, .int .i64 0, .slice ab zs.length cb, .slice none 0 0] := (hblk.alloc tmp).same (hg.block p (by show p < (wr.alloc tmp).heap.size; have := hblk.lt; simp; omega) (fun e => hnp e.symm))
  have hgp : p < gg := by have := (hown1.lt gg rfl).1; omega
  have e : zs.length + 1 = (zs ++ [X]).length := by simp
  refine ⟨zs ++ [X], some ⟨gg, 0, none⟩, c1, ?_, ?_, byt_snoc hbyt hX, by simp [hzl], ?_⟩
  · have := hb1.set 3 (.slice (some ⟨gg, 0, none⟩) (zs.length + 1) c1)
    rw [← e]
    simpa using this
  · rw [← e, List.map_append]
    exact own_same hown1 (fun g eg => by cases eg; exact Below.heap_setCell _ _ _ gg (by show gg ≠ p; omega))
  · have hps : p ≤ wr.heap.size := by have := hblk.lt; omega
    exact (((hbel.alloc hps tmp).drew).grown hg (by show p ≤ (wr.alloc tmp).heap.size; simp; omega) (fun g eg => by have := (hown.lt g eg).1; omega)).setCell (p := ⟨p, 3, none⟩) (Nat.le_refl _) _
/-- What holds in the loop that fills v.L. -/
def LoopL (p k j : Nat) (w wr : World) : Prop :=
  ∃ zs ab cb, Blk wr p 28 #[.int .i64 (k : Int), .int .u64 0, .int .i64 0, .slice none 0 0, .slice ab zs.length cb] ∧ wr.ownsRow (p + 1) 3 1 (.slice ab zs.length cb) zs.length (zs.map (Value.int .i64)) ∧ I64 zs ∧ zs.length = j ∧ Below p w wr
theorem loopL_step {p k j : Nat} {wo wr w1 : World} {zs : List Int} {ab : Option Addr} {cb gg c1 : Nat} {X : Int} {tmp : Obj}
    (hblk : Blk wr p 28 #[.int .i64 (k : Int), .int .u64 0, .int .i64 0, .slice none 0 0, .slice ab zs.length cb]) (hbel : Below p wo wr) (hnp : (Value.slice ab zs.length cb).ownBlock ≠ some p) (hbyt : I64 zs) (hzl : zs.length = j)
    (hown : wr.ownsRow (p + 1) 3 1 (.slice ab zs.length cb) zs.length (zs.map (Value.int .i64)))
    (hown1 : w1.ownsRow (p + 1) 3 1 (.slice (some ⟨gg, 0, none⟩) (zs.length + 1) c1) (zs.length + 1) (zs.map (Value.int .i64) ++ [.int .i64 X])) (hg : ((wr.alloc tmp).drew).grownBy w1 (Value.slice ab zs.length cb).ownBlock) (hX : -9223372036854775808 ≤ X ∧ X ≤ 9223372036854775807) :
    LoopL p k (j + 1) wo (w1.setCell ⟨p, 4, none⟩ (.slice (some ⟨gg, 0, none⟩) (zs.length + 1) c1)) := by
  have hb1 : Blk w1 p 28 #[.int .i64 (k : Int), .int .u64 0, .int .i64 0, .slice none 0 0, .slice ab zs.length cb] := (hblk.alloc tmp).same (hg.block p (by show p < (wr.alloc tmp).heap.size; have := hblk.lt; simp; omega) (fun e => hnp e.symm))
  have hgp : p < gg := by have := (hown1.lt gg rfl).1; omega
  have e : zs.length + 1 = (zs ++ [X]).length := by simp
  refine ⟨zs ++ [X], some ⟨gg, 0, none⟩, c1, ?_, ?_, ?_, by simp [hzl], ?_⟩
  · have := hb1.set 4 (.slice (some ⟨gg, 0, none⟩) (zs.length + 1) c1)
    rw [← e]
    simpa using this
  · rw [← e, List.map_append]
    exact own_same hown1 (fun g eg => by cases eg; exact Below.heap_setCell _ _ _ gg (by show gg ≠ p; omega))
  · intro c hc
    rcases List.mem_append.1 hc with h1 | h1
    · exact hbyt c h1
    · simp at h1; subst h1; exact hX
  · have hps : p ≤ wr.heap.size := by have := hblk.lt; omega
    exact (((hbel.alloc hps tmp).drew).grown hg (by show p ≤ (wr.alloc tmp).heap.size; simp; omega) (fun g eg => by have := (hown.lt g eg).1; omega)).setCell (p := ⟨p, 4, none⟩) (Nat.le_refl _) _

theorem ValsInv.below {B i : Nat} {ov : Value} {w wo wr : World} (h : ValsInv B ov i w wo) (hb : Below wo.heap.size wo wr) (hB : B ≤ w.heap.size) : ValsInv B ov i w wr := by
  obtain ⟨vs, h1, h2, h3, h4⟩ := h
  exact ⟨vs, h1.below hb, h2, h3, h4.trans (hb.mono (by have := h4.size; omega))⟩
/-- The element is complete. -/
def FinV (B p i : Nat) (ov : Value) (v : V) (ab : Option Addr) (cb : Nat) (al : Option Addr) (cl : Nat) (w wr : World) : Prop :=
  Blk wr p 28 #[.int .i64 v.kind, .int .u64 v.u, .int .i64 v.n, .slice ab v.b.length cb, .slice al v.l.length cl] ∧ SlT .u8 5 B wr ab cb v.b ∧ SlT .i64 3 B wr al cl v.l ∧ Good v ∧ ValsInv B ov i w wr
/-- The list with one element more. -/
theorem vrow_push {B : Nat} {ov v' : Value} {vs : List V} {css : List (List Value)} {c : List Value} {v : V} {W w3 : World} {tmp : Obj} (hl : css.length = vs.length) (hown : W.ownsRow B 28 5 ov vs.length css.flatten)
    (hat : ∀ (j : Nat) (v : V) (c : List Value), vs[j]? = some v → css[j]? = some c → VAt B W v c) (hv : VAt B W v c) (hg : (W.alloc tmp).grownBy w3 ov.ownBlock)
    (hown3 : w3.ownsRow B 28 5 v' (vs.length + 1) (css.flatten ++ c)) : VRow B w3 v' (vs ++ [v]) := by
  have hkeep : ∀ (g : Nat) (cur : Array Value) (e : TypeId) (f : Nat × Nat), e ≠ 28 → B ≤ g → W.heap[g]? = some (.cells cur e f) → w3.heap[g]? = W.heap[g]? := by
    intro g cur e f he _ hc
    have hlt : g < W.heap.size := (Array.getElem?_eq_some_iff.1 hc).1
    refine (hg.block g (by simp; omega) (fun eg => ?_)).trans (Below.heap_alloc _ _ _ hlt)
    rcases hown.2 with ⟨rfl, _⟩ | ⟨g', cap, cur', rfl, _, hb, _⟩
    · simp [Value.ownBlock] at eg
    · simp [Value.ownBlock] at eg
      subst eg
      rw [hb] at hc; injection hc with hc; injection hc with _ h2; exact he h2.symm
  refine ⟨css ++ [c], by simp [hl], ?_, fun j v0 c0 h1 h2 => ?_⟩
  · simpa using hown3
  · rcases Nat.lt_or_ge j vs.length with hj | hj
    · rw [List.getElem?_append_left hj] at h1
      rw [List.getElem?_append_left (by omega)] at h2
      exact (hat j v0 c0 h1 h2).keep hkeep
    · rw [List.getElem?_append_right hj] at h1
      rw [List.getElem?_append_right (by omega)] at h2
      obtain ⟨d, hd⟩ : ∃ d, j - vs.length = d := ⟨_, rfl⟩
      rw [show j - css.length = j - vs.length by omega] at h2
      rw [hd] at h1 h2
      cases d with
      | zero => simp at h1 h2; subst h1 h2; exact hv.keep hkeep
      | succ d => simp at h1

theorem info28 : (Try.prog.info? 28).map (fun i => (i.zero, i.size, i.bytes)) = some (some (.agg #[.int .i64 0, .int .u64 0, .int .i64 0, .slice none 0 0, .slice none 0 0]), 5, 72) := by kernel_rfl

set_option maxRecDepth 100000 in
set_option maxHeartbeats 8000000 in
theorem vals_any (a : Option Addr) (cap : Nat) (ls : List Int) (w : World) (h : Sli .i64 w a cap ls) (hi : I64 ls) :
    Calls Try.prog 11 #[.slice a ls.length cap] w (ValsPost w) := by
  obtain ⟨i0, hi5, hz0, hz1, hz2⟩ := info_parts info5
  obtain ⟨i3, hi3, hy0, hy1, hy2⟩ := info_parts info3
  obtain ⟨iv, hiv, hv0, hv1, hv2⟩ := info_parts info28
  obtain ⟨n, hn⟩ : ∃ n, ls.length = n := ⟨_, rfl⟩
  obtain ⟨B, hB⟩ : ∃ B, w.heap.size = B := ⟨_, rfl⟩
  have hmx := h.mx
  have hle := h.le
  rw [hn] at hle ⊢
  have hcore : ∃ bb off, (n = 0 ∨ (a = some ⟨bb, off, none⟩ ∧ bb < B)) ∧ ∀ j, j < n → w.cell? ⟨bb, off + j, none⟩ = some (.int .i64 (ls[j]?.getD 0)) := by
    rcases h.cells with rfl | ⟨bb, off, ha, hlt, hcb⟩
    · exact ⟨0, 0, .inl (by simpa using hn.symm), fun j hj => absurd hj (by simp at hn; omega)⟩
    · exact ⟨bb, off, .inr ⟨ha, by omega⟩, fun j hj => hcb j (by omega)⟩
  obtain ⟨bb, off, hab, hcb⟩ := hcore
  have HAB := Lib.hid hab; have HCB := Lib.hid hcb; have HI := Lib.hid hi; have HB := Lib.hid hB
  have H0 : Hid (ValsInv B (.slice none 0 0) 0 w w) := ⟨[], VRow.nil_ _ _, rfl, by simp, Below.refl _ _⟩
  clear h hi hn hB hab hcb
  go_enter Try.func11, Try.ntmps11
  go_wp2_with fail
  go_loopw [3, 4] (fun o i wr => ∃ (k : Nat) (ov : Value), k ≤ n ∧ k ≤ 8 ∧ i = .int .i64 k ∧ o = ov ∧ Hid (ValsInv B ov k w wr)) (fun _ i _ => 8 - (intOf i).toNat)
  case atStart => exact ⟨0, _, Nat.zero_le _, by omega, rfl, rfl, H0⟩
  case round =>
    obtain ⟨i, ov, hin, hi8, rfl, rfl, HR⟩ := hrel
    have hways : (i < n ∧ i < 8) ∨ ¬ i < n ∨ (i < n ∧ ¬ i < 8) := by omega
    rcases hways with ⟨hlt, hlt8⟩ | hge | ⟨hlt, hge⟩
    · obtain ⟨ha, hbb⟩ := HAB.out.resolve_left (by omega)
      have hck := (HR.out.choose_spec.2.2.2.cell (p := ⟨bb, off + i, none⟩) hbb).trans (HCB.out i hlt)
      have hx := HI.out.at_ i
      generalize ls[i]?.getD 0 = x at hck hx
      obtain ⟨hx1, hx2⟩ := hx
      subst ha
      go_wp2_with fail
      refine (around_any x 6 _ hx1 hx2 (by omega) (by omega)).mono ?_
      rintro e w' ⟨k, hk, rfl, rfl⟩
      go_wp2_with fail
      refine (around_any _ 63 _ (tdiv_bd hx1 hx2).1 (tdiv_bd hx1 hx2).2 (by omega) (by omega)).mono ?_
      rintro e w' ⟨m, hm, rfl, rfl⟩
      obtain ⟨wo, rfl⟩ : ∃ wo : World, wo = wr := ⟨_, rfl⟩
      obtain ⟨p, hp⟩ : ∃ p, wo.heap.size = p := ⟨_, rfl⟩
      have HP := Lib.hid hp
      have hbp : bb < p := by have := HR.out.choose_spec.2.2.2.size; have := HB.out; omega
      clear hp
      have hk6 : k = 0 ∨ k = 1 ∨ k = 2 ∨ k = 3 ∨ k = 4 ∨ k = 5 := by omega
      clear hk
      have hBw : B ≤ w.heap.size := by rw [HB.out]; exact Nat.le_refl _
      have hBp : B ≤ p := by have h1 := HR.out.choose_spec.2.2.2.size; rw [HP.out] at h1; omega
      rcases hk6 with rfl | rfl | rfl | rfl | rfl | rfl
      · obtain ⟨u, hu, hul⟩ : ∃ u : Nat, IntKind.u64.wrap x / 2 ^ m = (u : Int) ∧ u < 18446744073709551616 := by
          have h0 : 0 ≤ IntKind.u64.wrap x := by rw [wrap_u64]; omega
          have h1 : IntKind.u64.wrap x < 18446744073709551616 := by rw [wrap_u64]; omega
          have h2 : 0 ≤ IntKind.u64.wrap x / 2 ^ m := Int.ediv_nonneg h0 (Int.le_of_lt (Int.pow_pos (by decide)))
          have h3 : IntKind.u64.wrap x / 2 ^ m ≤ IntKind.u64.wrap x := Int.ediv_le_self _ h0
          exact ⟨(IntKind.u64.wrap x / 2 ^ m).toNat, by omega, by omega⟩
        have HU := Lib.hid hu
        clear hu
        have hckA : (wo.alloc (.cells #[.int .i64 0, .int .u64 0, .int .i64 0, .slice none 0 0, .slice none 0 0] 28)).cell? ⟨bb, off + i, none⟩ = some (.int .i64 x) := (World.cell?_alloc_lt wo _ ⟨bb, off + i, none⟩ (by rw [HP.out]; exact hbp)).trans hck
        obtain ⟨vs, hvr, hvl, hvg, hbel⟩ := HR.out.below (wr := (wo.alloc (.cells #[.int .i64 0, .int .u64 (IntKind.u64.wrap x / 2 ^ m), .int .i64 0, .slice none 0 0, .slice none 0 0] 28))) ((Below.refl _ _).alloc (Nat.le_refl _) _) hBw
        obtain ⟨css, hcl, hown, hat⟩ := hvr.ex
        have hBW : B ≤ (wo.alloc (.cells #[.int .i64 0, .int .u64 (IntKind.u64.wrap x / 2 ^ m), .int .i64 0, .slice none 0 0, .slice none 0 0] 28)).heap.size := by have := hbel.size; omega
        have hvat : VAt B (wo.alloc (.cells #[.int .i64 0, .int .u64 (IntKind.u64.wrap x / 2 ^ m), .int .i64 0, .slice none 0 0, .slice none 0 0] 28)) ⟨0, u, 0, [], []⟩ [.int .i64 0, .int .u64 (IntKind.u64.wrap x / 2 ^ m), .int .i64 0, .slice none 0 0, .slice none 0 0] := ⟨none, 0, none, 0, by rw [HU.out]; rfl, SlT.nil_ _ _ _ _, SlT.nil_ _ _ _ _⟩
        have hnb : ((wo.alloc (.cells #[.int .i64 0, .int .u64 (IntKind.u64.wrap x / 2 ^ m), .int .i64 0, .slice none 0 0, .slice none 0 0] 28)).alloc (.cells #[.int .i64 0, .int .u64 (IntKind.u64.wrap x / 2 ^ m), .int .i64 0, .slice none 0 0, .slice none 0 0] 28)).heap[wo.heap.size + 1]? = some (.cells #[.int .i64 0, .int .u64 (IntKind.u64.wrap x / 2 ^ m), .int .i64 0, .slice none 0 0, .slice none 0 0] 28 (0, 0)) := by
          have := World.alloc_heap_new (wo.alloc (.cells #[.int .i64 0, .int .u64 (IntKind.u64.wrap x / 2 ^ m), .int .i64 0, .slice none 0 0, .slice none 0 0] 28)) (.cells #[.int .i64 0, .int .u64 (IntKind.u64.wrap x / 2 ^ m), .int .i64 0, .slice none 0 0, .slice none 0 0] 28)
          rwa [World.size_alloc] at this
        have hgood : Good ⟨0, u, 0, [], []⟩ := good_u hul
        have HO := Lib.hid hown; have HA := Lib.hid (And.intro hcl (And.intro hat hvat)); have HG := Lib.hid (And.intro hgood (And.intro hvl (And.intro hvg hbel))); have HNB := Lib.hid hnb
        have hvl8 : vs.length ≤ 8 := by omega
        have hBW2 : B ≤ wo.heap.size := by rw [HP.out]; exact hBp
        clear hgood hvr hvl hvg hbel hcl hown hat hvat hnb
        go_wp2_with (at_builtin; refine wpList_append_own _ rfl _ _ 25 rfl B 28 iv _ 5 72 Try.underlying25 hiv hv0 hv1 hv2 rfl (by decide) u3 vs.length css.flatten rfl (HO.out.alloc _) ⟨wo.heap.size + 1, 0, none⟩ 1 1 [.int .i64 0, .int .u64 (IntKind.u64.wrap x / 2 ^ m), .int .i64 0, .slice none 0 0, .slice none 0 0] rfl rfl (World.news_of_block (cs := #[.int .i64 0, .int .u64 (IntKind.u64.wrap x / 2 ^ m), .int .i64 0, .slice none 0 0, .slice none 0 0]) (t := 28) (fr := (0, 0)) HNB.out) (by simp [Value.oneCell']) (by unfold maxLen; omega) (by omega) (by simp; omega) ?_; intro v' w3 hown3 hgrow3 _; obtain ⟨g3, k3, rfl⟩ := ownsRow_succ hown3)
        have HN : Hid (ValsInv B (.slice (some ⟨g3, 0, none⟩) (vs.length + 1) k3) (i + 1) w w3) := by
          have hbW := HG.out.2.2.2
          refine ⟨vs ++ [⟨0, u, 0, [], []⟩], vrow_push HA.out.1 HO.out HA.out.2.1 HA.out.2.2 hgrow3 hown3, by rw [List.length_append, HG.out.2.1]; rfl, fun x hx => ?_, (hbW.alloc hBW _).grown hgrow3 (by simp; omega) (fun g eg => (HO.out.lt g eg).1)⟩
          rcases List.mem_append.1 hx with h1 | h1
          · exact HG.out.2.2.1 x h1
          · simp at h1; subst h1; exact HG.out.1
        clear hown3 hgrow3 hckA
        go_wp2
        go_roundw
        case rel => exact ⟨i + 1, _, by omega, by omega, by go_num, rfl, HN⟩
        case measure => simp [intOf]; omega
      · have hckA : (wo.alloc (.cells #[.int .i64 1, .int .u64 0, .int .i64 0, .slice none 0 0, .slice none 0 0] 28)).cell? ⟨bb, off + i, none⟩ = some (.int .i64 x) := (World.cell?_alloc_lt wo _ ⟨bb, off + i, none⟩ (by rw [HP.out]; exact hbp)).trans hck
        obtain ⟨vs, hvr, hvl, hvg, hbel⟩ := HR.out.below (wr := (wo.alloc (.cells #[.int .i64 1, .int .u64 0, .int .i64 (x / 2 ^ m), .slice none 0 0, .slice none 0 0] 28))) ((Below.refl _ _).alloc (Nat.le_refl _) _) hBw
        obtain ⟨css, hcl, hown, hat⟩ := hvr.ex
        have hBW : B ≤ (wo.alloc (.cells #[.int .i64 1, .int .u64 0, .int .i64 (x / 2 ^ m), .slice none 0 0, .slice none 0 0] 28)).heap.size := by have := hbel.size; omega
        have hvat : VAt B (wo.alloc (.cells #[.int .i64 1, .int .u64 0, .int .i64 (x / 2 ^ m), .slice none 0 0, .slice none 0 0] 28)) ⟨1, 0, x / 2 ^ m, [], []⟩ [.int .i64 1, .int .u64 0, .int .i64 (x / 2 ^ m), .slice none 0 0, .slice none 0 0] := ⟨none, 0, none, 0, rfl, SlT.nil_ _ _ _ _, SlT.nil_ _ _ _ _⟩
        have hnb : ((wo.alloc (.cells #[.int .i64 1, .int .u64 0, .int .i64 (x / 2 ^ m), .slice none 0 0, .slice none 0 0] 28)).alloc (.cells #[.int .i64 1, .int .u64 0, .int .i64 (x / 2 ^ m), .slice none 0 0, .slice none 0 0] 28)).heap[wo.heap.size + 1]? = some (.cells #[.int .i64 1, .int .u64 0, .int .i64 (x / 2 ^ m), .slice none 0 0, .slice none 0 0] 28 (0, 0)) := by
          have := World.alloc_heap_new (wo.alloc (.cells #[.int .i64 1, .int .u64 0, .int .i64 (x / 2 ^ m), .slice none 0 0, .slice none 0 0] 28)) (.cells #[.int .i64 1, .int .u64 0, .int .i64 (x / 2 ^ m), .slice none 0 0, .slice none 0 0] 28)
          rwa [World.size_alloc] at this
        have hgood : Good ⟨1, 0, x / 2 ^ m, [], []⟩ := good_n (shr_bd m hx1 hx2).1 (shr_bd m hx1 hx2).2
        have HO := Lib.hid hown; have HA := Lib.hid (And.intro hcl (And.intro hat hvat)); have HG := Lib.hid (And.intro hgood (And.intro hvl (And.intro hvg hbel))); have HNB := Lib.hid hnb
        have hvl8 : vs.length ≤ 8 := by omega
        have hBW2 : B ≤ wo.heap.size := by rw [HP.out]; exact hBp
        clear hgood hvr hvl hvg hbel hcl hown hat hvat hnb
        go_wp2_with (at_builtin; refine wpList_append_own _ rfl _ _ 25 rfl B 28 iv _ 5 72 Try.underlying25 hiv hv0 hv1 hv2 rfl (by decide) u3 vs.length css.flatten rfl (HO.out.alloc _) ⟨wo.heap.size + 1, 0, none⟩ 1 1 [.int .i64 1, .int .u64 0, .int .i64 (x / 2 ^ m), .slice none 0 0, .slice none 0 0] rfl rfl (World.news_of_block (cs := #[.int .i64 1, .int .u64 0, .int .i64 (x / 2 ^ m), .slice none 0 0, .slice none 0 0]) (t := 28) (fr := (0, 0)) HNB.out) (by simp [Value.oneCell']) (by unfold maxLen; omega) (by omega) (by simp; omega) ?_; intro v' w3 hown3 hgrow3 _; obtain ⟨g3, k3, rfl⟩ := ownsRow_succ hown3)
        have HN : Hid (ValsInv B (.slice (some ⟨g3, 0, none⟩) (vs.length + 1) k3) (i + 1) w w3) := by
          have hbW := HG.out.2.2.2
          refine ⟨vs ++ [⟨1, 0, x / 2 ^ m, [], []⟩], vrow_push HA.out.1 HO.out HA.out.2.1 HA.out.2.2 hgrow3 hown3, by rw [List.length_append, HG.out.2.1]; rfl, fun x hx => ?_, (hbW.alloc hBW _).grown hgrow3 (by simp; omega) (fun g eg => (HO.out.lt g eg).1)⟩
          rcases List.mem_append.1 hx with h1 | h1
          · exact HG.out.2.2.1 x h1
          · simp at h1; subst h1; exact HG.out.1
        clear hown3 hgrow3 hckA
        go_wp2
        go_roundw
        case rel => exact ⟨i + 1, _, by omega, by omega, by go_num, rfl, HN⟩
        case measure => simp [intOf]; omega
      · have hckA : (wo.alloc (.cells #[.int .i64 2, .int .u64 0, .int .i64 0, .slice none 0 0, .slice none 0 0] 28)).cell? ⟨bb, off + i, none⟩ = some (.int .i64 x) := (World.cell?_alloc_lt wo _ ⟨bb, off + i, none⟩ (by rw [HP.out]; exact hbp)).trans hck
        obtain ⟨vs, hvr, hvl, hvg, hbel⟩ := HR.out.below (wr := (wo.alloc (.cells #[.int .i64 2, .int .u64 0, .int .i64 ((m : Int) % 2), .slice none 0 0, .slice none 0 0] 28))) ((Below.refl _ _).alloc (Nat.le_refl _) _) hBw
        obtain ⟨css, hcl, hown, hat⟩ := hvr.ex
        have hBW : B ≤ (wo.alloc (.cells #[.int .i64 2, .int .u64 0, .int .i64 ((m : Int) % 2), .slice none 0 0, .slice none 0 0] 28)).heap.size := by have := hbel.size; omega
        have hvat : VAt B (wo.alloc (.cells #[.int .i64 2, .int .u64 0, .int .i64 ((m : Int) % 2), .slice none 0 0, .slice none 0 0] 28)) ⟨2, 0, (m : Int) % 2, [], []⟩ [.int .i64 2, .int .u64 0, .int .i64 ((m : Int) % 2), .slice none 0 0, .slice none 0 0] := ⟨none, 0, none, 0, rfl, SlT.nil_ _ _ _ _, SlT.nil_ _ _ _ _⟩
        have hnb : ((wo.alloc (.cells #[.int .i64 2, .int .u64 0, .int .i64 ((m : Int) % 2), .slice none 0 0, .slice none 0 0] 28)).alloc (.cells #[.int .i64 2, .int .u64 0, .int .i64 ((m : Int) % 2), .slice none 0 0, .slice none 0 0] 28)).heap[wo.heap.size + 1]? = some (.cells #[.int .i64 2, .int .u64 0, .int .i64 ((m : Int) % 2), .slice none 0 0, .slice none 0 0] 28 (0, 0)) := by
          have := World.alloc_heap_new (wo.alloc (.cells #[.int .i64 2, .int .u64 0, .int .i64 ((m : Int) % 2), .slice none 0 0, .slice none 0 0] 28)) (.cells #[.int .i64 2, .int .u64 0, .int .i64 ((m : Int) % 2), .slice none 0 0, .slice none 0 0] 28)
          rwa [World.size_alloc] at this
        have hgood : Good ⟨2, 0, (m : Int) % 2, [], []⟩ := good_t (by omega)
        have HO := Lib.hid hown; have HA := Lib.hid (And.intro hcl (And.intro hat hvat)); have HG := Lib.hid (And.intro hgood (And.intro hvl (And.intro hvg hbel))); have HNB := Lib.hid hnb
        have hvl8 : vs.length ≤ 8 := by omega
        have hBW2 : B ≤ wo.heap.size := by rw [HP.out]; exact hBp
        clear hgood hvr hvl hvg hbel hcl hown hat hvat hnb
        go_wp2_with (at_builtin; refine wpList_append_own _ rfl _ _ 25 rfl B 28 iv _ 5 72 Try.underlying25 hiv hv0 hv1 hv2 rfl (by decide) u3 vs.length css.flatten rfl (HO.out.alloc _) ⟨wo.heap.size + 1, 0, none⟩ 1 1 [.int .i64 2, .int .u64 0, .int .i64 ((m : Int) % 2), .slice none 0 0, .slice none 0 0] rfl rfl (World.news_of_block (cs := #[.int .i64 2, .int .u64 0, .int .i64 ((m : Int) % 2), .slice none 0 0, .slice none 0 0]) (t := 28) (fr := (0, 0)) HNB.out) (by simp [Value.oneCell']) (by unfold maxLen; omega) (by omega) (by simp; omega) ?_; intro v' w3 hown3 hgrow3 _; obtain ⟨g3, k3, rfl⟩ := ownsRow_succ hown3)
        have HN : Hid (ValsInv B (.slice (some ⟨g3, 0, none⟩) (vs.length + 1) k3) (i + 1) w w3) := by
          have hbW := HG.out.2.2.2
          refine ⟨vs ++ [⟨2, 0, (m : Int) % 2, [], []⟩], vrow_push HA.out.1 HO.out HA.out.2.1 HA.out.2.2 hgrow3 hown3, by rw [List.length_append, HG.out.2.1]; rfl, fun x hx => ?_, (hbW.alloc hBW _).grown hgrow3 (by simp; omega) (fun g eg => (HO.out.lt g eg).1)⟩
          rcases List.mem_append.1 hx with h1 | h1
          · exact HG.out.2.2.1 x h1
          · simp at h1; subst h1; exact HG.out.1
        clear hown3 hgrow3 hckA
        go_wp2
        go_roundw
        case rel => exact ⟨i + 1, _, by omega, by omega, by go_num, rfl, HN⟩
        case measure => simp [intOf]; omega
      · go_wp2_with fail
        rw [HP.out]
        have HL0 : Hid (LoopB p 3 0 wo (wo.alloc (.cells #[.int .i64 3, .int .u64 0, .int .i64 0, .slice none 0 0, .slice none 0 0] 28))) := by
          refine ⟨[], none, 0, ?_, by simpa using World.ownsRow_nil _ _ _ _, by intro c hc; simp at hc, rfl, ?_⟩
          · rw [← HP.out]; exact Blk.new _ _ _
          · rw [← HP.out]; exact (Below.refl _ _).alloc (Nat.le_refl _) _
        go_loopw [8] (fun t wr => ∃ j : Nat, j ≤ 10 ∧ t = .int .i64 (j : Int) ∧ Hid (LoopB p 3 j wo wr)) (fun t _ => 10 - (intOf t).toNat)
        case atStart => exact ⟨0, by omega, rfl, HL0⟩
        case round =>
          obtain ⟨j, hj, rfl, HJ⟩ := hrel
          by_cases hjm : (j : Int) < (m : Int) % 10
          · obtain ⟨zs, ab, cb, hblk, hown, hbyt, hzl, hbel⟩ := HJ.out
            have hc3 : wr.cell? ⟨p, 3, none⟩ = some (.slice ab zs.length cb) := hblk.cell 3
            have hf3 := hblk.frozen 3
            have hcl := (hbel.cell (p := ⟨bb, off + i, none⟩) hbp).trans hck
            have hzl8 : zs.length ≤ 10 := by omega
            have hps : p < wr.heap.size := hblk.lt
            have hnp : (Value.slice ab zs.length cb).ownBlock ≠ some p := fun e => by have := (hown.lt p e).1; omega
            have hi0 : (0 : Int) ≤ (i : Int) := by omega
            have hi1 : (i : Int) < (n : Int) := by omega
            have HBK := Lib.hid (And.intro hblk hbel); have HOW := Lib.hid hown; have HBY := Lib.hid (And.intro hbyt hzl)
            clear hblk hown hbyt hzl hbel
            go_wp2_with fail
            go_region_law
              ((refine step_append_lies _ (by rfl) _ _ _ (by rfl) (p + 1) 5 i0 _ 1 1 Try.underlying24 hi5 hz0 hz1 hz2 rfl (by omega) (.slice ab zs.length cb) zs.length (zs.map (Value.int .u8)) (by rfl) ((HOW.out.alloc _).drew)
                    ⟨wr.heap.size, 0, none⟩ 1 1 [.int .u8 (IntKind.u8.wrap (x / 2 ^ min (IntKind.u64.wrap (j : Int)).toNat 64))] (by rfl) (by rfl) (World.news_of_block (cs := #[.int .u8 (IntKind.u8.wrap (x / 2 ^ min (IntKind.u64.wrap (j : Int)).toNat 64))]) (t := 5) (fr := (0, 0)) (World.alloc_heap_new wr _)) (by simp [Value.oneCell'])
                    (by omega) (by unfold maxLen; omega) (by omega) (by simp; omega) (wr.heap.size + 1) (by simp) ?_; intro gg cap1 w1 hown1 hgrow hat hlt1; have hs3 : w1.cell? ⟨p, 3, none⟩ = some (.slice ab zs.length cb) := (hgrow.cell_far ⟨p, 3, none⟩ (by simp; omega) (Ne.symm hnp)).trans ((HBK.out.1.alloc _).cell 3); have hsf : w1.frozen? ⟨p, 3, none⟩ = false := (hgrow.frozen_far ⟨p, 3, none⟩ (by simp; omega) (Ne.symm hnp)).trans ((HBK.out.1.alloc _).frozen 3)))
            all_goals
              have HJ2 := Lib.hid (loopB_step HBK.out.1 HBK.out.2 hnp HBY.out.1 HBY.out.2 HOW.out hown1 hgrow (u8_bd _))
              clear hown1 hgrow hat hlt1 hs3 hsf
              go_wp2
              go_roundw
              case rel => exact ⟨j + 1, by omega, by go_num, HJ2⟩
              case measure => simp [intOf]; omega
          · obtain ⟨w4, rfl⟩ : ∃ w4 : World, w4 = wr := ⟨_, rfl⟩
            have HF0 : Hid (∃ (v : V) (ab : Option Addr) (cb : Nat) (al : Option Addr) (cl : Nat), FinV B p i u3 v ab cb al cl w w4) := by
              obtain ⟨zs, ab, cb, hblk, hown, hbyt, hzl, hbel⟩ := HJ.out
              have hT := (slT_of_own hown).mono (base' := B) (by omega)
              have hIv := HR.out.below (wr := w4) (by rw [HP.out]; exact hbel) hBw
              exact ⟨⟨3, 0, 0, zs, []⟩, ab, cb, none, 0, hblk, hT, SlT.nil_ _ _ _ _, good_b (by omega) hbyt (by omega), hIv⟩
            obtain ⟨v, ab, cb, al, cl, hF⟩ := HF0.out
            have HF := Lib.hid hF
            clear hF HF0 HJ HL0
            obtain ⟨hblk, hsb, hsl, hgood, vs, hvr, hvl, hvg, hbel⟩ := HF.out
            obtain ⟨css, hcl, hown, hat⟩ := hvr.ex
            have hBW : B ≤ w4.heap.size := by have := hbel.size; omega
            have q0 := hblk.cell 0; have q1 := hblk.cell 1; have q2 := hblk.cell 2; have q3 := hblk.cell 3; have q4 := hblk.cell 4
            simp at q0 q1 q2 q3 q4
            have hvat : VAt B w4 v [.int .i64 v.kind, .int .u64 v.u, .int .i64 v.n, .slice ab v.b.length cb, .slice al v.l.length cl] := ⟨ab, cb, al, cl, rfl, hsb, hsl⟩
            have HO := Lib.hid hown; have HA := Lib.hid (And.intro hcl (And.intro hat hvat)); have HG := Lib.hid (And.intro hgood (And.intro hvl (And.intro hvg hbel)))
            have hvl8 : vs.length ≤ 8 := by omega
            clear hblk hsb hsl hgood hvr hvl hvg hbel hcl hown hat hvat
            go_wp2_with (at_builtin; refine wpList_append_own _ rfl _ _ 25 rfl B 28 iv _ 5 72 Try.underlying25 hiv hv0 hv1 hv2 rfl (by decide) u3 vs.length css.flatten rfl (HO.out.alloc _) ⟨w4.heap.size, 0, none⟩ 1 1 [.int .i64 v.kind, .int .u64 v.u, .int .i64 v.n, .slice ab v.b.length cb, .slice al v.l.length cl] rfl rfl (World.news_of_block (cs := #[.int .i64 v.kind, .int .u64 v.u, .int .i64 v.n, .slice ab v.b.length cb, .slice al v.l.length cl]) (t := 28) (fr := (0, 0)) (World.alloc_heap_new w4 _)) (by simp [Value.oneCell']) (by unfold maxLen; omega) (by omega) (by simp; omega) ?_; intro v' w3 hown3 hgrow3 _; obtain ⟨g3, k3, rfl⟩ := ownsRow_succ hown3)
            have HN : Hid (ValsInv B (.slice (some ⟨g3, 0, none⟩) (vs.length + 1) k3) (i + 1) w w3) := by
              have hbW := HG.out.2.2.2
              refine ⟨vs ++ [v], vrow_push HA.out.1 HO.out HA.out.2.1 HA.out.2.2 hgrow3 hown3, by rw [List.length_append, HG.out.2.1]; rfl, fun x hx => ?_, (hbW.alloc hBW _).grown hgrow3 (by simp; omega) (fun g eg => (HO.out.lt g eg).1)⟩
              rcases List.mem_append.1 hx with h1 | h1
              · exact HG.out.2.2.1 x h1
              · simp at h1; subst h1; exact HG.out.1
            clear hown3 hgrow3 q0 q1 q2 q3 q4
            go_wp2
            go_roundw
            case rel => exact ⟨i + 1, _, by omega, by omega, by go_num, rfl, HN⟩
            case measure => simp [intOf]; omega
      · go_wp2_with fail
        rw [HP.out]
        have HL0 : Hid (LoopB p 4 0 wo (wo.alloc (.cells #[.int .i64 4, .int .u64 0, .int .i64 0, .slice none 0 0, .slice none 0 0] 28))) := by
          refine ⟨[], none, 0, ?_, by simpa using World.ownsRow_nil _ _ _ _, by intro c hc; simp at hc, rfl, ?_⟩
          · rw [← HP.out]; exact Blk.new _ _ _
          · rw [← HP.out]; exact (Below.refl _ _).alloc (Nat.le_refl _) _
        go_loopw [8] (fun t wr => ∃ j : Nat, j ≤ 10 ∧ t = .int .i64 (j : Int) ∧ Hid (LoopB p 4 j wo wr)) (fun t _ => 10 - (intOf t).toNat)
        case atStart => exact ⟨0, by omega, rfl, HL0⟩
        case round =>
          obtain ⟨j, hj, rfl, HJ⟩ := hrel
          by_cases hjm : (j : Int) < (m : Int) % 10
          · obtain ⟨zs, ab, cb, hblk, hown, hbyt, hzl, hbel⟩ := HJ.out
            have hc3 : wr.cell? ⟨p, 3, none⟩ = some (.slice ab zs.length cb) := hblk.cell 3
            have hf3 := hblk.frozen 3
            have hcl := (hbel.cell (p := ⟨bb, off + i, none⟩) hbp).trans hck
            have hzl8 : zs.length ≤ 10 := by omega
            have hps : p < wr.heap.size := hblk.lt
            have hnp : (Value.slice ab zs.length cb).ownBlock ≠ some p := fun e => by have := (hown.lt p e).1; omega
            have hi0 : (0 : Int) ≤ (i : Int) := by omega
            have hi1 : (i : Int) < (n : Int) := by omega
            have HBK := Lib.hid (And.intro hblk hbel); have HOW := Lib.hid hown; have HBY := Lib.hid (And.intro hbyt hzl)
            clear hblk hown hbyt hzl hbel
            go_wp2_with fail
            go_region_law
              ((refine step_append_lies _ (by rfl) _ _ _ (by rfl) (p + 1) 5 i0 _ 1 1 Try.underlying24 hi5 hz0 hz1 hz2 rfl (by omega) (.slice ab zs.length cb) zs.length (zs.map (Value.int .u8)) (by rfl) ((HOW.out.alloc _).drew)
                    ⟨wr.heap.size, 0, none⟩ 1 1 [.int .u8 (IntKind.u8.wrap (x / 2 ^ min (IntKind.u64.wrap (j : Int)).toNat 64))] (by rfl) (by rfl) (World.news_of_block (cs := #[.int .u8 (IntKind.u8.wrap (x / 2 ^ min (IntKind.u64.wrap (j : Int)).toNat 64))]) (t := 5) (fr := (0, 0)) (World.alloc_heap_new wr _)) (by simp [Value.oneCell'])
                    (by omega) (by unfold maxLen; omega) (by omega) (by simp; omega) (wr.heap.size + 1) (by simp) ?_; intro gg cap1 w1 hown1 hgrow hat hlt1; have hs3 : w1.cell? ⟨p, 3, none⟩ = some (.slice ab zs.length cb) := (hgrow.cell_far ⟨p, 3, none⟩ (by simp; omega) (Ne.symm hnp)).trans ((HBK.out.1.alloc _).cell 3); have hsf : w1.frozen? ⟨p, 3, none⟩ = false := (hgrow.frozen_far ⟨p, 3, none⟩ (by simp; omega) (Ne.symm hnp)).trans ((HBK.out.1.alloc _).frozen 3)))
            all_goals
              have HJ2 := Lib.hid (loopB_step HBK.out.1 HBK.out.2 hnp HBY.out.1 HBY.out.2 HOW.out hown1 hgrow (u8_bd _))
              clear hown1 hgrow hat hlt1 hs3 hsf
              go_wp2
              go_roundw
              case rel => exact ⟨j + 1, by omega, by go_num, HJ2⟩
              case measure => simp [intOf]; omega
          · obtain ⟨w4, rfl⟩ : ∃ w4 : World, w4 = wr := ⟨_, rfl⟩
            have HF0 : Hid (∃ (v : V) (ab : Option Addr) (cb : Nat) (al : Option Addr) (cl : Nat), FinV B p i u3 v ab cb al cl w w4) := by
              obtain ⟨zs, ab, cb, hblk, hown, hbyt, hzl, hbel⟩ := HJ.out
              have hT := (slT_of_own hown).mono (base' := B) (by omega)
              have hIv := HR.out.below (wr := w4) (by rw [HP.out]; exact hbel) hBw
              exact ⟨⟨4, 0, 0, zs, []⟩, ab, cb, none, 0, hblk, hT, SlT.nil_ _ _ _ _, good_b (by omega) hbyt (by omega), hIv⟩
            obtain ⟨v, ab, cb, al, cl, hF⟩ := HF0.out
            have HF := Lib.hid hF
            clear hF HF0 HJ HL0
            obtain ⟨hblk, hsb, hsl, hgood, vs, hvr, hvl, hvg, hbel⟩ := HF.out
            obtain ⟨css, hcl, hown, hat⟩ := hvr.ex
            have hBW : B ≤ w4.heap.size := by have := hbel.size; omega
            have q0 := hblk.cell 0; have q1 := hblk.cell 1; have q2 := hblk.cell 2; have q3 := hblk.cell 3; have q4 := hblk.cell 4
            simp at q0 q1 q2 q3 q4
            have hvat : VAt B w4 v [.int .i64 v.kind, .int .u64 v.u, .int .i64 v.n, .slice ab v.b.length cb, .slice al v.l.length cl] := ⟨ab, cb, al, cl, rfl, hsb, hsl⟩
            have HO := Lib.hid hown; have HA := Lib.hid (And.intro hcl (And.intro hat hvat)); have HG := Lib.hid (And.intro hgood (And.intro hvl (And.intro hvg hbel)))
            have hvl8 : vs.length ≤ 8 := by omega
            clear hblk hsb hsl hgood hvr hvl hvg hbel hcl hown hat hvat
            go_wp2_with (at_builtin; refine wpList_append_own _ rfl _ _ 25 rfl B 28 iv _ 5 72 Try.underlying25 hiv hv0 hv1 hv2 rfl (by decide) u3 vs.length css.flatten rfl (HO.out.alloc _) ⟨w4.heap.size, 0, none⟩ 1 1 [.int .i64 v.kind, .int .u64 v.u, .int .i64 v.n, .slice ab v.b.length cb, .slice al v.l.length cl] rfl rfl (World.news_of_block (cs := #[.int .i64 v.kind, .int .u64 v.u, .int .i64 v.n, .slice ab v.b.length cb, .slice al v.l.length cl]) (t := 28) (fr := (0, 0)) (World.alloc_heap_new w4 _)) (by simp [Value.oneCell']) (by unfold maxLen; omega) (by omega) (by simp; omega) ?_; intro v' w3 hown3 hgrow3 _; obtain ⟨g3, k3, rfl⟩ := ownsRow_succ hown3)
            have HN : Hid (ValsInv B (.slice (some ⟨g3, 0, none⟩) (vs.length + 1) k3) (i + 1) w w3) := by
              have hbW := HG.out.2.2.2
              refine ⟨vs ++ [v], vrow_push HA.out.1 HO.out HA.out.2.1 HA.out.2.2 hgrow3 hown3, by rw [List.length_append, HG.out.2.1]; rfl, fun x hx => ?_, (hbW.alloc hBW _).grown hgrow3 (by simp; omega) (fun g eg => (HO.out.lt g eg).1)⟩
              rcases List.mem_append.1 hx with h1 | h1
              · exact HG.out.2.2.1 x h1
              · simp at h1; subst h1; exact HG.out.1
            clear hown3 hgrow3 q0 q1 q2 q3 q4
            go_wp2
            go_roundw
            case rel => exact ⟨i + 1, _, by omega, by omega, by go_num, rfl, HN⟩
            case measure => simp [intOf]; omega
      · go_wp2_with fail
        rw [HP.out]
        have HL0 : Hid (LoopL p 5 0 wo (wo.alloc (.cells #[.int .i64 5, .int .u64 0, .int .i64 0, .slice none 0 0, .slice none 0 0] 28))) := by
          refine ⟨[], none, 0, ?_, by simpa using World.ownsRow_nil _ _ _ _, by intro c hc; simp at hc, rfl, ?_⟩
          · rw [← HP.out]; exact Blk.new _ _ _
          · rw [← HP.out]; exact (Below.refl _ _).alloc (Nat.le_refl _) _
        go_loopw [9] (fun t wr => ∃ j : Nat, j ≤ 5 ∧ t = .int .i64 (j : Int) ∧ Hid (LoopL p 5 j wo wr)) (fun t _ => 5 - (intOf t).toNat)
        case atStart => exact ⟨0, by omega, rfl, HL0⟩
        case round =>
          obtain ⟨j, hj, rfl, HJ⟩ := hrel
          by_cases hjm : (j : Int) < (m : Int) % 5
          · obtain ⟨zs, ab, cb, hblk, hown, hbyt, hzl, hbel⟩ := HJ.out
            have hc3 : wr.cell? ⟨p, 4, none⟩ = some (.slice ab zs.length cb) := hblk.cell 4
            have hf3 := hblk.frozen 4
            have hcl := (hbel.cell (p := ⟨bb, off + i, none⟩) hbp).trans hck
            have hzl8 : zs.length ≤ 10 := by omega
            have hps : p < wr.heap.size := hblk.lt
            have hnp : (Value.slice ab zs.length cb).ownBlock ≠ some p := fun e => by have := (hown.lt p e).1; omega
            have hi0 : (0 : Int) ≤ (i : Int) := by omega
            have hi1 : (i : Int) < (n : Int) := by omega
            have HBK := Lib.hid (And.intro hblk hbel); have HOW := Lib.hid hown; have HBY := Lib.hid (And.intro hbyt hzl)
            clear hblk hown hbyt hzl hbel
            go_wp2_with fail
            go_region_law
              ((refine step_append_lies _ (by rfl) _ _ _ (by rfl) (p + 1) 3 i3 _ 1 8 Try.underlying22 hi3 hy0 hy1 hy2 rfl (by omega) (.slice ab zs.length cb) zs.length (zs.map (Value.int .i64)) (by rfl) ((HOW.out.alloc _).drew)
                    ⟨wr.heap.size, 0, none⟩ 1 1 [.int .i64 (x / 2 ^ min (IntKind.u64.wrap (IntKind.i64.wrap (13 * (j : Int)))).toNat 64)] (by rfl) (by rfl) (World.news_of_block (cs := #[.int .i64 (x / 2 ^ min (IntKind.u64.wrap (IntKind.i64.wrap (13 * (j : Int)))).toNat 64)]) (t := 3) (fr := (0, 0)) (World.alloc_heap_new wr _)) (by simp [Value.oneCell'])
                    (by omega) (by unfold maxLen; omega) (by omega) (by simp; omega) (wr.heap.size + 1) (by simp) ?_; intro gg cap1 w1 hown1 hgrow hat hlt1; have hs3 : w1.cell? ⟨p, 4, none⟩ = some (.slice ab zs.length cb) := (hgrow.cell_far ⟨p, 4, none⟩ (by simp; omega) (Ne.symm hnp)).trans ((HBK.out.1.alloc _).cell 4); have hsf : w1.frozen? ⟨p, 4, none⟩ = false := (hgrow.frozen_far ⟨p, 4, none⟩ (by simp; omega) (Ne.symm hnp)).trans ((HBK.out.1.alloc _).frozen 4)))
            all_goals
              have HJ2 := Lib.hid (loopL_step HBK.out.1 HBK.out.2 hnp HBY.out.1 HBY.out.2 HOW.out hown1 hgrow (shr_bd _ hx1 hx2))
              clear hown1 hgrow hat hlt1 hs3 hsf
              go_wp2
              go_roundw
              case rel => exact ⟨j + 1, by omega, by go_num, HJ2⟩
              case measure => simp [intOf]; omega
          · obtain ⟨w4, rfl⟩ : ∃ w4 : World, w4 = wr := ⟨_, rfl⟩
            have HF0 : Hid (∃ (v : V) (ab : Option Addr) (cb : Nat) (al : Option Addr) (cl : Nat), FinV B p i u3 v ab cb al cl w w4) := by
              obtain ⟨zs, ab, cb, hblk, hown, hbyt, hzl, hbel⟩ := HJ.out
              have hT := (slT_of_own hown).mono (base' := B) (by omega)
              have hIv := HR.out.below (wr := w4) (by rw [HP.out]; exact hbel) hBw
              exact ⟨⟨5, 0, 0, [], zs⟩, none, 0, ab, cb, hblk, SlT.nil_ _ _ _ _, hT, good_l hbyt (by omega), hIv⟩
            obtain ⟨v, ab, cb, al, cl, hF⟩ := HF0.out
            have HF := Lib.hid hF
            clear hF HF0 HJ HL0
            obtain ⟨hblk, hsb, hsl, hgood, vs, hvr, hvl, hvg, hbel⟩ := HF.out
            obtain ⟨css, hcl, hown, hat⟩ := hvr.ex
            have hBW : B ≤ w4.heap.size := by have := hbel.size; omega
            have q0 := hblk.cell 0; have q1 := hblk.cell 1; have q2 := hblk.cell 2; have q3 := hblk.cell 3; have q4 := hblk.cell 4
            simp at q0 q1 q2 q3 q4
            have hvat : VAt B w4 v [.int .i64 v.kind, .int .u64 v.u, .int .i64 v.n, .slice ab v.b.length cb, .slice al v.l.length cl] := ⟨ab, cb, al, cl, rfl, hsb, hsl⟩
            have HO := Lib.hid hown; have HA := Lib.hid (And.intro hcl (And.intro hat hvat)); have HG := Lib.hid (And.intro hgood (And.intro hvl (And.intro hvg hbel)))
            have hvl8 : vs.length ≤ 8 := by omega
            clear hblk hsb hsl hgood hvr hvl hvg hbel hcl hown hat hvat
            go_wp2_with (at_builtin; refine wpList_append_own _ rfl _ _ 25 rfl B 28 iv _ 5 72 Try.underlying25 hiv hv0 hv1 hv2 rfl (by decide) u3 vs.length css.flatten rfl (HO.out.alloc _) ⟨w4.heap.size, 0, none⟩ 1 1 [.int .i64 v.kind, .int .u64 v.u, .int .i64 v.n, .slice ab v.b.length cb, .slice al v.l.length cl] rfl rfl (World.news_of_block (cs := #[.int .i64 v.kind, .int .u64 v.u, .int .i64 v.n, .slice ab v.b.length cb, .slice al v.l.length cl]) (t := 28) (fr := (0, 0)) (World.alloc_heap_new w4 _)) (by simp [Value.oneCell']) (by unfold maxLen; omega) (by omega) (by simp; omega) ?_; intro v' w3 hown3 hgrow3 _; obtain ⟨g3, k3, rfl⟩ := ownsRow_succ hown3)
            have HN : Hid (ValsInv B (.slice (some ⟨g3, 0, none⟩) (vs.length + 1) k3) (i + 1) w w3) := by
              have hbW := HG.out.2.2.2
              refine ⟨vs ++ [v], vrow_push HA.out.1 HO.out HA.out.2.1 HA.out.2.2 hgrow3 hown3, by rw [List.length_append, HG.out.2.1]; rfl, fun x hx => ?_, (hbW.alloc hBW _).grown hgrow3 (by simp; omega) (fun g eg => (HO.out.lt g eg).1)⟩
              rcases List.mem_append.1 hx with h1 | h1
              · exact HG.out.2.2.1 x h1
              · simp at h1; subst h1; exact HG.out.1
            clear hown3 hgrow3 q0 q1 q2 q3 q4
            go_wp2
            go_roundw
            case rel => exact ⟨i + 1, _, by omega, by omega, by go_num, rfl, HN⟩
            case measure => simp [intOf]; omega
    · go_wp2
      go_ret
      obtain ⟨vs, h1, h2, h3, h4⟩ := HR.out
      exact ⟨u3, vs, rfl, by rw [HB.out]; exact h1, by omega, h3, by rw [HB.out]; exact h4⟩
    · go_wp2
      go_ret
      obtain ⟨vs, h1, h2, h3, h4⟩ := HR.out
      exact ⟨u3, vs, rfl, by rw [HB.out]; exact h1, by omega, h3, by rw [HB.out]; exact h4⟩

end Go.Proofs.Ytfnpnomfdfdonaa
