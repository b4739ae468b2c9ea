/- Tokens: the program's tables in memory; keywords and symbols. Conditions: texts of at most 100000 bytes; the tables lie in memory. -/
import Derived.Test.YtgfhhpodcnohpaaDoorLPb
import Derived.Lib.Bytealg
namespace Go.Proofs.YtgfhhpodcnohpaaDoor
open Go.RowKit Go.Shelf
set_option linter.unusedVariables false

theorem sbInj {a b : ByteArray} (h : sb a = sb b) : a = b := by
  have h2 : a.data.toList = b.data.toList := by
    have hi : ∀ (x y : List UInt8), x.map (fun c => (c.toNat : Int)) = y.map (fun c => (c.toNat : Int)) → x = y := by
      intro x
      induction x with
      | nil => intro y hy; cases y with
        | nil => rfl
        | cons d y => simp at hy
      | cons c x ih => intro y hy; cases y with
        | nil => simp at hy
        | cons d y =>
          simp only [List.map_cons, List.cons.injEq] at hy
          rw [ih y hy.2, UInt8.toNat_inj.1 (by omega : c.toNat = d.toNat)]
    exact hi _ _ h
  cases a; cases b
  simp only at h2
  rw [Array.toList_inj.1 h2]
theorem sbExt (s : ByteArray) (a b : Nat) : sb (s.extract a b) = ((sb s).take b).drop a := by
  unfold sb
  rw [ByteArray.data_extract, Array.toList_extract, List.extract_eq_take_drop, List.map_take, List.map_drop, ← List.drop_take]

theorem toList_ne {s x : ByteArray} (h : ¬ s = x) : (s.toList == x.toList) = false := by
  rw [beq_eq_false_iff_ne]
  intro e
  apply h
  rw [Lib.toList_data, Lib.toList_data] at e
  cases s; cases x
  simp only at e
  rw [Array.toList_inj.1 e]
/-- A table of texts that lies in memory behind a package-level variable. -/
structure TabAt (g : Nat) (L : List (List Int)) (w : World) (a : Addr) (cap : Nat) (Sx : Nat → ByteArray) : Prop where
  var : w.cell? ⟨g, 0, none⟩ = some (.slice (some a) L.length cap)
  cell : ∀ i, i < L.length → w.cell? (a.add i) = some (.string (Sx i))
  is : ∀ i, i < L.length → L[i]? = some (sb (Sx i))
def Tab (g : Nat) (L : List (List Int)) (w : World) : Prop := ∃ a cap Sx, TabAt g L w a cap Sx
theorem Tab.below {g : Nat} {L : List (List Int)} {w w' : World} (h : Tab g L w) (hb : Below w.heap.size w w') : Tab g L w' := by
  obtain ⟨a, cap, Sx, h1, h2, h3⟩ := h
  have k : ∀ {a : Addr} {v : Value}, w.cell? a = some v → w'.cell? a = some v := fun {a v} hc => (hb.cell (World.block_lt_of_cell? w a hc)).trans hc
  exact ⟨a, cap, Sx, k h1, fun i hi => k (h2 i hi), h3⟩
/-- The lexer's two tables. -/
structure LexT (w : World) : Prop where
  kw : Tab 0 KW w
  sy : Tab 6 SY w
theorem LexT.below {w w' : World} (h : LexT w) (hb : Below w.heap.size w w') : LexT w' := ⟨h.kw.below hb, h.sy.below hb⟩

set_option maxRecDepth 100000 in
set_option maxHeartbeats 1000000 in
theorem iskeyword_any (s : ByteArray) (w : World) (hT : LexT w) :
    Calls Tryd.prog 18 #[.string s] w fun e w' => e = .returned (.bool (decide (sb s ∈ KW))) ∧ w' = w := by
  obtain ⟨a, cap, Sx, hv, hc, hx⟩ := hT.kw
  have HC := Lib.hid hc
  have HX := Lib.hid hx
  clear hc hx hT
  have hl : KW.length = 26 := rfl
  rw [hl] at hv
  obtain ⟨R, hR⟩ : ∃ R, decide (sb s ∈ KW) = R := ⟨_, rfl⟩
  rw [hR]
  have HR := Lib.hid hR
  clear hR
  go_enter Tryd.func18, Tryd.ntmps18
  go_wp2
  go_loop [7] (fun vi => ∃ k : Nat, k ≤ 26 ∧ vi = .int .i64 (k : Int) ∧ Hid (∀ i, i < k → Sx i ≠ s)) (fun vi => 26 - (RowKit.intOf vi).toNat)
  case atStart => exact ⟨0, Nat.zero_le _, rfl, Lib.hid fun i hi => absurd hi (by omega)⟩
  case round =>
    obtain ⟨k, hk, rfl, hh⟩ := hrel
    by_cases k0 : k = 26
    · subst k0
      have HE : Hid (R = false) := Lib.hid (by
        rw [← HR.out, decide_eq_false_iff_not]
        intro hm
        obtain ⟨i, hi, he⟩ := List.getElem_of_mem hm
        have h1 := HX.out i hi
        rw [List.getElem?_eq_getElem hi, he] at h1
        exact hh.out i (by omega) (sbInj (Option.some.inj h1).symm))
      go_wp2
      go_ret
      rw [HE.out]
      exact ⟨rfl, rfl⟩
    · have hlt : k < 26 := by omega
      have hltz : (k : Int) < 26 := by omega
      have hck := HC.out k (by omega)
      obtain ⟨x, hxk⟩ : ∃ x, Sx k = x := ⟨_, rfl⟩
      have hxx := HX.out k (by omega)
      rw [hxk] at hck hxx
      by_cases hs : s = x
      · have HE : Hid (R = true) := Lib.hid (by
          rw [← HR.out, decide_eq_true_eq, hs]
          exact List.mem_of_getElem? hxx)
        have hq : (s.toList == x.toList) = true := by rw [hs]; exact beq_self_eq_true _
        clear hxx hxk
        go_wp2
        go_ret
        rw [HE.out]
        exact ⟨rfl, rfl⟩
      · have hq : (s.toList == x.toList) = false := toList_ne hs
        have HN : Hid (∀ i, i < k + 1 → Sx i ≠ s) := Lib.hid fun i hi => by
          by_cases e : i = k
          · subst e; rw [hxk]; exact fun e => hs e.symm
          · exact hh.out i (by omega)
        clear hxx hxk hs
        go_wp2
        refine ⟨⟨k + 1, by omega, by congr 1, HN⟩, ?_⟩
        simp only [RowKit.intOf, Int.toNat_natCast]
        omega

end Go.Proofs.YtgfhhpodcnohpaaDoor
