/- Texts of one claim, put together: DNew, DFrm, DHl, DHs, DHt, DHm, DHn, DHo, DEdt, DSnc. Each part says what it proves and under which conditions. -/
import Derived.Test.YtkehgoailhpenaaPB07
import Derived.Shelf.SlIterI.Nil
import Derived.Shelf.SortM.Plain
import Derived.Shelf.SortM.SortNone
import Derived.Ground.GgzProg
import Derived.Ground.SlgmProg
import Derived.Test.YtkehgoailhpenaaProg

/- The contract of New. It has no conditions. -/
namespace Go.Proofs.Ytkehgoailhpenaa
open Go.RowKit Go.Shelf Go.Maps
set_option linter.unusedVariables false

def newE (t : ByteArray) (v : Int) : Int := if 4096 < t.size then 4 else if v < 0 ∨ 1099511627776 < v then 1 else 0
def newS (t : ByteArray) (v : Int) : DS := ⟨v, [(t, [])], []⟩
def newB (w w' : World) (b : Nat) : Prop := w.heap.size ≤ b ∧ b < w'.heap.size

set_option maxRecDepth 100000 in
set_option maxHeartbeats 2000000 in
theorem new_any (t : ByteArray) (v : Int) (w : World) :
    Calls Try.prog 8 #[.string t, .int .i64 v] w fun e w' =>
      (newE t v ≠ 0 ∧ e = .returned (.tuple #[.pointer none, .int .i64 (newE t v)]) ∧ Below w.heap.size w w') ∨
      (newE t v = 0 ∧ ∃ p, e = .returned (.tuple #[.pointer (some ⟨p, 0, none⟩), .int .i64 0]) ∧ DocI (newB w w') (fun _ => False) w' p (newS t v) ∧ Below w.heap.size w w') := by
  have hmm := @run_makeMap Try.prog
  by_cases h1 : 4096 < t.size
  · have hE : newE t v = 4 := by unfold newE; rw [if_pos h1]
    rw [hE]
    have h2 : (4096 : Int) < (t.size : Int) := by omega
    clear hE
    go_enter Try.func8, Try.ntmps8
    go_wp2
    go_ret2
    first | exact .inl ⟨by decide, rfl, Below.refl _ _⟩ | exact ⟨rfl, Below.refl _ _⟩
  have h2 : ¬ (4096 : Int) < (t.size : Int) := by omega
  by_cases h3 : v < 0
  · have hE : newE t v = 1 := by unfold newE; rw [if_neg h1, if_pos (.inl h3)]
    rw [hE]
    clear hE
    go_enter Try.func8, Try.ntmps8
    go_wp2
    go_ret2
    first | exact .inl ⟨by decide, rfl, Below.refl _ _⟩ | exact ⟨rfl, Below.refl _ _⟩
  by_cases h4 : 1099511627776 < v
  · have hE : newE t v = 1 := by unfold newE; rw [if_neg h1, if_pos (.inr h4)]
    rw [hE]
    clear hE
    go_enter Try.func8, Try.ntmps8
    go_wp2
    go_ret2
    first | exact .inl ⟨by decide, rfl, Below.refl _ _⟩ | exact ⟨rfl, Below.refl _ _⟩
  have hE : newE t v = 0 := by unfold newE; rw [if_neg h1, if_neg (by omega)]
  rw [hE]
  obtain ⟨q, hq⟩ : ∃ q, w.heap.size = q := ⟨_, rfl⟩
  obtain ⟨W1, hW1⟩ : ∃ W, w.alloc (.cells #[.string t, .slice none 0 0] 68) = W := ⟨_, rfl⟩
  obtain ⟨W2, hW2⟩ : ∃ W, W1.alloc (.map #[] 0) = W := ⟨_, rfl⟩
  obtain ⟨W3, hW3⟩ : ∃ W, W2.alloc (.cells #[.int .i64 v, .slice (some ⟨q, 0, none⟩) 1 1, .map (some (q + 1))] 72) = W := ⟨_, rfl⟩
  have z1 : W1.heap.size = q + 1 := by rw [← hW1, ← hq]; simp
  have z2 : W2.heap.size = q + 2 := by rw [← hW2]; simp [z1]
  have z3 : W3.heap.size = q + 3 := by rw [← hW3]; simp [z2]
  have k1 : Blk W1 q 68 #[.string t, .slice none 0 0] := by rw [← hW1, ← hq]; exact Blk.new _ _ _
  have k1' : Blk W3 q 68 #[.string t, .slice none 0 0] := by rw [← hW3, ← hW2]; exact (k1.alloc _).alloc _
  have k3 : Blk W3 (q + 2) 72 #[.int .i64 v, .slice (some ⟨q, 0, none⟩) 1 1, .map (some (q + 1))] := by rw [← hW3, ← z2]; exact Blk.new _ _ _
  have hm2 : W2.ownsMap Try.prog 3 RH (q + 1) 0 (.map []) := by rw [← hW2, ← z1]; exact World.ownsMap_made _ _ _ _
  have hm3 : W3.ownsMap Try.prog 3 RH (q + 1) (Maps.size (.map [] : DataW Value)) (.map []) := by rw [← hW3]; exact hm2.alloc _
  have hb : Below w.heap.size w W3 := by
    rw [← hW3, ← hW2, ← hW1]
    exact (((Below.refl _ _).alloc (Nat.le_refl _) _).alloc (by simp) _).alloc (by simp; omega) _
  have hD : DocI (newB w W3) (fun _ => False) W3 (q + 2) (newS t v) := by
    refine ⟨⟨by show 0 ≤ v; omega, by show v ≤ _; omega, by simp [newS], by simp [newS], ?_, ?_, by simp [newS], ?_, ?_⟩, ⟨q, 1, q + 1, .map [], [(t, .slice none 0 0)], k3, ⟨rfl, .inr ⟨q, 1, _, rfl, Nat.zero_le _, k1', Nat.le_refl _, by unfold maxLen; omega, rfl, rfl⟩⟩, .cons ⟨rfl, EsG.none _ _⟩ .nil, hm3, HeldOk.empty _ _, ⟨by omega, by omega⟩, ⟨by omega, by omega⟩⟩, ⟨by omega, by omega⟩, fun b hb => hb.2, fun b hb => hb.elim, fun b _ h => h⟩
    · intro x hx; simp only [newS, List.mem_singleton] at hx; subst hx; show t.size ≤ 4096; omega
    · intro x hx; simp only [newS, List.mem_singleton] at hx; subst hx; exact ⟨Nat.zero_le _, fun e he => by simp at he⟩
    · intro x hx; simp [newS] at hx
    · intro x hx; simp [newS] at hx
  have HF := Lib.hid (And.intro hD hb)
  have HW : Hid (((w.alloc (.cells #[.string t, .slice none 0 0] 68)).alloc (.map #[] 0)).alloc (.cells #[.int .i64 v, .slice (some ⟨q, 0, none⟩) 1 1, .map (some (q + 1))] 72) = W3) := by rw [hW1, hW2]; exact hW3
  clear hE hD hb hm2 hm3 k1 k1' k3 hW1 hW2 hW3 z1 z2 z3
  go_enter Try.func8, Try.ntmps8
  go_wp2
  rw [show ((w.alloc (.cells #[.string t, .slice none 0 0] 68)).alloc (.map #[] 0)).alloc (.cells #[.int .i64 v, .slice (some ⟨q, 0, none⟩) 1 1, .map (some (q + 1))] 72) = W3 from HW.out]
  go_ret2
  have hb := HF.out.2
  first | exact ⟨q + 2, rfl, HF.out.1, hb⟩ | exact ⟨q + 2, rfl, HF.out.1, by rw [← hq]; exact hb⟩

end Go.Proofs.Ytkehgoailhpenaa

/- The contract of from. It has no conditions. -/
namespace Go.Proofs.Ytkehgoailhpenaa
open Go.RowKit Go.Shelf Go.Maps
set_option linter.unusedVariables false

/-- The oldest version that is remembered. -/
def oldS (s : DS) : Int := s.v - s.ss.length + 1
/-- The states of a document, wherever a walk reads them. -/
theorem DocI.states {T G : Nat → Prop} {w : World} {p : Nat} {s : DS} (h : DocI T G w p s) : ∃ g cap m vs, w.cell? ⟨p, 0, none⟩ = some (.int .i64 s.v) ∧ w.cell? ⟨p, 1, none⟩ = some (.slice (some ⟨g, 0, none⟩) s.ss.length cap) ∧ w.cell? ⟨p, 2, none⟩ = some (.map (some m)) ∧ s.ss.length ≤ cap ∧ T g ∧ All2 (StOk G w) vs s.ss ∧
    ∀ V : World, V.heap[g]? = w.heap[g]? → ∀ i (hi : i < vs.length), V.cell? ⟨g, i * 2, none⟩ = some (.string (vs[i]).1) ∧ V.cell? ⟨g, i * 2 + 1, none⟩ = some (vs[i]).2 := by
  obtain ⟨g, cap, m, D, vs, h1, h2, h3, h4, h5, h6, h7⟩ := h.mem
  have hl := h3.len
  have c0 := h1.cell 0
  have c1 := h1.cell 1
  have c2 := h1.cell 2
  simp only [List.getElem?_toArray, List.getElem?_cons_zero, List.getElem?_cons_succ] at c0 c1 c2
  have hcap : vs.length ≤ cap := by
    rcases h2.2 with ⟨hv, _⟩ | ⟨g', cp, cur, hv, _, _, h1, _⟩
    · simp at hv
    · simp only [Value.slice.injEq] at hv; omega
  rw [hl] at c1 hcap
  refine ⟨g, cap, m, vs, c0, c1, c2, hcap, h6, h3, fun V hV i hi => ?_⟩
  have e : ∀ j, V.cell? ⟨g, j, none⟩ = w.cell? ⟨g, j, none⟩ := fun j => by simp only [World.cell?, hV]
  rw [e, e, h2.cellAt (i * 2) (by omega), h2.cellAt (i * 2 + 1) (by omega)]
  exact svals_get vs i hi

set_option maxRecDepth 100000 in
set_option maxHeartbeats 2000000 in
theorem from_any (T G : Nat → Prop) (p : Nat) (s : DS) (w : World) (h : DocI T G w p s) (x : Int) (hx1 : -9223372036854775808 ≤ x) (hx2 : x ≤ 9223372036854775807) :
    Calls Try.prog 49 #[.pointer (some ⟨p, 0, none⟩), .int .i64 x] w fun e w' => Below w.heap.size w w' ∧
      ((¬ (oldS s ≤ x ∧ x ≤ s.v) ∧ e = .returned (.slice none 0 0)) ∨
       ((oldS s ≤ x ∧ x ≤ s.v) ∧ ∃ (g cap : Nat) (vs : List (ByteArray × Value)) (k : Nat), (k : Int) = x - oldS s ∧ k < s.ss.length ∧ e = .returned (.slice (some ⟨g, k * 2, none⟩) (s.ss.length - k) (cap - k)) ∧ s.ss.length ≤ cap ∧ T g ∧ All2 (StOk G w) vs s.ss ∧
         ∀ V : World, V.heap[g]? = w.heap[g]? → ∀ i (hi : i < vs.length), V.cell? ⟨g, i * 2, none⟩ = some (.string (vs[i]).1) ∧ V.cell? ⟨g, i * 2 + 1, none⟩ = some (vs[i]).2)) := by
  have hv0 := h.ok.v0
  have hv1 := h.ok.v1
  have hlen := h.ok.len
  have hne : 0 < s.ss.length := List.length_pos_iff.2 h.ok.ne
  obtain ⟨g, cap, m, vs, c0, c1, c2, hcap, hTg, h3, hst⟩ := h.states
  obtain ⟨v, hv⟩ : ∃ v, s.v = v := ⟨_, rfl⟩
  obtain ⟨n, hn⟩ : ∃ n, s.ss.length = n := ⟨_, rfl⟩
  obtain ⟨o, ho⟩ : ∃ o, oldS s = o := ⟨_, rfl⟩
  have ho2 : o = v - (n : Int) + 1 := by rw [← ho, ← hv, ← hn]; rfl
  rw [hv] at c0 hv0 hv1 ⊢
  rw [hn] at c1 hcap hlen hne ⊢
  rw [ho]
  have hw1 : IntKind.i64.wrap (v - (n : Int)) = v - (n : Int) := by simp [IntKind.wrap, IntKind.signed, IntKind.bits]; omega
  have hw2 : IntKind.i64.wrap (v - (n : Int) + 1) = o := by rw [ho2]; simp [IntKind.wrap, IntKind.signed, IntKind.bits]; omega
  have H3 := Lib.hid h3; have HST := Lib.hid hst; have HO := Lib.hid ho2
  have ho3 : -1000 ≤ o ∧ o ≤ 1099511627777 := by omega
  clear h h3 hst hv hn ho ho2 c2
  by_cases h1 : x < o
  · have hN : ¬ (o ≤ x ∧ x ≤ v) := by omega
    have HN := Lib.hid hN
    clear hN
    go_enter Try.func49, Try.ntmps49
    go_wp2_with fail
    go_quiet (fail)
    go_wp2
    go_ret
    exact ⟨below_drewN (Below.refl _ _) _, .inl ⟨HN.out, rfl⟩⟩
  · by_cases h2 : v < x
    · have hN : ¬ (o ≤ x ∧ x ≤ v) := by omega
      have HN := Lib.hid hN
      clear hN
      go_enter Try.func49, Try.ntmps49
      go_wp2_with fail
      go_quiet (fail)
      go_wp2
      go_ret
      exact ⟨below_drewN (Below.refl _ _) _, .inl ⟨HN.out, rfl⟩⟩
    · obtain ⟨k, hk⟩ : ∃ k : Nat, x - o = (k : Int) := ⟨(x - o).toNat, by omega⟩
      have hkn : k < n := by have := HO.out; omega
      have HN : Hid (o ≤ x ∧ x ≤ v) := ⟨by omega, by omega⟩
      have hkw : IntKind.i64.wrap (x - o) = (k : Int) := by rw [hk]; simp [IntKind.wrap, IntKind.signed, IntKind.bits]; omega
      have hk1 : (k : Int) ≤ (n : Int) := by omega
      have HK := Lib.hid hk
      clear hk
      go_enter Try.func49, Try.ntmps49
      go_wp2_with fail
      go_quiet (fail)
      go_wp2
      go_ret
      exact ⟨below_drewN (Below.refl _ _) _, .inr ⟨HN.out, g, cap, vs, k, HK.out.symm, hkn, rfl, hcap, hTg, H3.out, HST.out⟩⟩

end Go.Proofs.Ytkehgoailhpenaa

/- The library's contracts of slices.Sorted, maps.Keys and slices.Sort laid at this program: its own functions and types are those of the contracts. No conditions. -/
namespace Go.Proofs.Ytkehgoailhpenaa
open Go.RowKit Go.Shelf Go.Maps Go.Sort
def Hs.keysA_ren : Go.Shelf.Ren := ⟨fun | 7 => 41 | 10 => 66 | n => n, fun | 23 => 70 | 26 => 3 | 3 => 32 | 28 => 79 | 0 => 0 | 27 => 78 | 33 => 92 | 4 => 4 | n => n, fun | n => n⟩
theorem Hs.keysA : Go.Proofs.SlLaysZI.n7 Try.prog Hs.keysA_ren := {
  mixed := by kernel_rfl
  f7 := ⟨Try.f41.name, by decide, Try.func41.trans (congrArg some (by kernel_rfl))⟩
  f10 := ⟨Try.f66.name, by decide, Try.func66.trans (congrArg some (by kernel_rfl))⟩
  t0 := Try.underlying0
  a0 := Try.isAgg0
  z0 := Try.sizeOf0
  v0 := Try.zeroValue0
  t4 := Try.underlying4
  a4 := Try.isAgg4
  z4 := Try.sizeOf4
  v4 := Try.zeroValue4
  t23 := Try.underlying70
  a23 := Try.isAgg70
  z23 := Try.sizeOf70
  v23 := Try.zeroValue70
  t26 := Try.underlying3
  a26 := Try.isAgg3
  z26 := Try.sizeOf3
  v26 := Try.zeroValue3
  t27 := Try.underlying78
  a27 := Try.isAgg78
  z27 := Try.sizeOf78
  v27 := Try.zeroValue78
  t28 := Try.underlying79
  a28 := Try.isAgg79
  z28 := Try.sizeOf79
  v28 := Try.zeroValue79
  t33 := Try.underlying92
  a33 := Try.isAgg92
  z33 := Try.sizeOf92
  v33 := Try.zeroValue92 }
def Hs.sortedA_ren : Go.Shelf.Ren := ⟨fun | 6 => 40 | 8 => 64 | 9 => 65 | 11 => 84 | 13 => 86 | 12 => 85 | 23 => 107 | 24 => 108 | 14 => 98 | 15 => 99 | 16 => 100 | 17 => 101 | 18 => 102 | 19 => 103 | 20 => 104 | 21 => 105 | 22 => 106 | 25 => 114 | 26 => 115 | 27 => 116 | 28 => 117 | 29 => 118 | 30 => 119 | 31 => 121 | n => n, fun | 26 => 3 | 28 => 79 | 24 => 22 | 0 => 0 | 3 => 3 | 37 => 136 | 48 => 156 | 50 => 158 | 4 => 4 | 40 => 149 | 39 => 148 | 45 => 145 | 5 => 5 | 9 => 9 | 51 => 163 | 55 => 167 | 57 => 170 | 58 => 141 | 33 => 92 | n => n, fun | n => n⟩
theorem Hs.sortedA : Go.Proofs.SlLaysZI.n6 Try.prog Hs.sortedA_ren := {
  mixed := by kernel_rfl
  f6 := ⟨Try.f40.name, by decide, Try.func40.trans (congrArg some (by kernel_rfl))⟩
  f8 := ⟨Try.f64.name, by decide, Try.func64.trans (congrArg some (by kernel_rfl))⟩
  f11 := ⟨Try.f84.name, by decide, Try.func84.trans (congrArg some (by kernel_rfl))⟩
  t0 := Try.underlying0
  a0 := Try.isAgg0
  z0 := Try.sizeOf0
  v0 := Try.zeroValue0
  t24 := Try.underlying22
  a24 := Try.isAgg22
  z24 := Try.sizeOf22
  v24 := Try.zeroValue22
  t26 := Try.underlying3
  a26 := Try.isAgg3
  z26 := Try.sizeOf3
  v26 := Try.zeroValue3
  t28 := Try.underlying79
  a28 := Try.isAgg79
  z28 := Try.sizeOf79
  v28 := Try.zeroValue79
  i26 := by kernel_rfl }
def Hs.sortA_ren : Go.Shelf.Ren := ⟨fun | 5 => 65 | 8 => 86 | 7 => 85 | 19 => 107 | 20 => 108 | 10 => 98 | 11 => 99 | 12 => 100 | 13 => 101 | 14 => 102 | 15 => 103 | 16 => 104 | 17 => 105 | 18 => 106 | 30 => 114 | 31 => 115 | 32 => 116 | 33 => 117 | 34 => 118 | 35 => 119 | 40 => 121 | n => n, fun | 23 => 22 | 25 => 3 | 3 => 3 | 32 => 136 | 22 => 22 | 0 => 0 | 44 => 156 | 46 => 158 | 4 => 4 | 36 => 149 | 35 => 148 | 41 => 145 | 5 => 5 | 9 => 9 | 53 => 163 | 57 => 167 | 63 => 170 | 64 => 141 | n => n, fun | n => n⟩
theorem Hs.sortA : Go.Proofs.SlLaysM.n5 Try.prog Hs.sortA_ren := {
  mixed := by kernel_rfl
  f5 := ⟨Try.f65.name, by decide, Try.func65.trans (congrArg some (by kernel_rfl))⟩
  f7 := ⟨Try.f85.name, by decide, Try.func85.trans (congrArg some (by kernel_rfl))⟩
  f8 := Try.func86.trans (congrArg some (by kernel_rfl))
  f10 := ⟨Try.f98.name, by decide, Try.func98.trans (congrArg some (by kernel_rfl))⟩
  f11 := ⟨Try.f99.name, by decide, Try.func99.trans (congrArg some (by kernel_rfl))⟩
  f12 := ⟨Try.f100.name, by decide, Try.func100.trans (congrArg some (by kernel_rfl))⟩
  f13 := ⟨Try.f101.name, by decide, Try.func101.trans (congrArg some (by kernel_rfl))⟩
  f14 := ⟨Try.f102.name, by decide, Try.func102.trans (congrArg some (by kernel_rfl))⟩
  f15 := ⟨Try.f103.name, by decide, Try.func103.trans (congrArg some (by kernel_rfl))⟩
  f16 := ⟨Try.f104.name, by decide, Try.func104.trans (congrArg some (by kernel_rfl))⟩
  f17 := ⟨Try.f105.name, by decide, Try.func105.trans (congrArg some (by kernel_rfl))⟩
  f18 := ⟨Try.f106.name, by decide, Try.func106.trans (congrArg some (by kernel_rfl))⟩
  f19 := Try.func107.trans (congrArg some (by kernel_rfl))
  f20 := Try.func108.trans (congrArg some (by kernel_rfl))
  f30 := ⟨Try.f114.name, by decide, Try.func114.trans (congrArg some (by kernel_rfl))⟩
  f31 := Try.func115.trans (congrArg some (by kernel_rfl))
  f32 := Try.func116.trans (congrArg some (by kernel_rfl))
  f33 := ⟨Try.f117.name, by decide, Try.func117.trans (congrArg some (by kernel_rfl))⟩
  f34 := ⟨Try.f118.name, by decide, Try.func118.trans (congrArg some (by kernel_rfl))⟩
  f35 := ⟨Try.f119.name, by decide, Try.func119.trans (congrArg some (by kernel_rfl))⟩
  f40 := ⟨Try.f121.name, by decide, Try.func121.trans (congrArg some (by kernel_rfl))⟩
  t0 := Try.underlying0
  a0 := Try.isAgg0
  z0 := Try.sizeOf0
  v0 := Try.zeroValue0
  t3 := Try.underlying3
  a3 := Try.isAgg3
  z3 := Try.sizeOf3
  v3 := Try.zeroValue3
  t4 := Try.underlying4
  a4 := Try.isAgg4
  z4 := Try.sizeOf4
  v4 := Try.zeroValue4
  t5 := Try.underlying5
  a5 := Try.isAgg5
  z5 := Try.sizeOf5
  v5 := Try.zeroValue5
  t9 := Try.underlying9
  a9 := Try.isAgg9
  z9 := Try.sizeOf9
  v9 := Try.zeroValue9
  t22 := Try.underlying22
  a22 := Try.isAgg22
  z22 := Try.sizeOf22
  v22 := Try.zeroValue22
  t23 := Try.underlying22
  a23 := Try.isAgg22
  z23 := Try.sizeOf22
  v23 := Try.zeroValue22
  t25 := Try.underlying3
  a25 := Try.isAgg3
  z25 := Try.sizeOf3
  v25 := Try.zeroValue3
  t32 := Try.underlying136
  a32 := Try.isAgg136
  z32 := Try.sizeOf136
  v32 := Try.zeroValue136
  t35 := Try.underlying148
  a35 := Try.isAgg148
  z35 := Try.sizeOf148
  v35 := Try.zeroValue148
  t36 := Try.underlying149
  a36 := Try.isAgg149
  z36 := Try.sizeOf149
  v36 := Try.zeroValue149
  t41 := Try.underlying145
  a41 := Try.isAgg145
  z41 := Try.sizeOf145
  v41 := Try.zeroValue145
  t44 := Try.underlying156
  a44 := Try.isAgg156
  z44 := Try.sizeOf156
  v44 := Try.zeroValue156
  t46 := Try.underlying158
  a46 := Try.isAgg158
  z46 := Try.sizeOf158
  v46 := Try.zeroValue158
  t53 := Try.underlying163
  a53 := Try.isAgg163
  z53 := Try.sizeOf163
  v53 := Try.zeroValue163
  t57 := Try.underlying167
  a57 := Try.isAgg167
  z57 := Try.sizeOf167
  v57 := Try.zeroValue167
  t63 := Try.underlying170
  a63 := Try.isAgg170
  z63 := Try.sizeOf170
  v63 := Try.zeroValue170
  t64 := Try.underlying141
  a64 := Try.isAgg141
  z64 := Try.sizeOf141
  v64 := Try.zeroValue141 }
end Go.Proofs.Ytkehgoailhpenaa

/- The contract of Held. It has no conditions. -/
namespace Go.Proofs.Ytkehgoailhpenaa
open Go.RowKit Go.Shelf Go.Maps Go.Sort
set_option linter.unusedVariables false


/-- slices.Sort's two contracts at this dump, at the fence that asks nothing. -/
theorem Hs.sortsA (m : Nat) : AnyZI.SortsIn Try.prog Hs.sortedA_ren Fence.wide m :=
  ⟨fun blk off cap ss W hH hblk hsz => callsIn_wide.2 (AnyM.slices_Sort_int Hs.sortA blk off cap ss W hH hblk hsz),
   fun p cap W => callsIn_wide.2 (AnyM.slices_Sort_int_none Hs.sortA p cap W)⟩

set_option maxHeartbeats 4000000 in
theorem held_any (T G : Nat → Prop) (p : Nat) (s : DS) (w : World) (h : DocI T G w p s) :
    Calls Try.prog 13 #[.pointer (some ⟨p, 0, none⟩)] w fun e w' => ∃ (v : Value) (ss : List Int) (D : DataW Value), e = .returned v ∧ HeldOk G w D s.hs ∧ (∃ m, w.ownsMap Try.prog 3 RH m (Maps.size D) D) ∧ ss.Perm (intKeys D) ∧
      w'.ownsRow w.heap.size 3 1 v ss.length ((ss.mergeSort (fun x y => decide (x ≤ y))).map encZ) ∧ (v = .slice none 0 0 ↔ ss = []) ∧ Below w.heap.size w w' := by
  obtain ⟨g, cp, b, n', D0, _, _, _, _, c2, hown, hh, hTm, hpW⟩ := h.full
  have hl16 := h.ok.hlen
  have hsz := hh.size
  have hmax : Maps.size D0 ≤ maxLen := by unfold maxLen; omega
  have hbytes : Maps.size D0 * 8 ≤ 140737488355328 := by omega
  have HO := Lib.hid hown; have HH := Lib.hid hh
  refine (callsIn_wide (n := 6)).1 ?_
  have hbl := hown.lt
  have hseq : SeqGives Fence.wide 2 Try.prog 66 #[.pointer (some ⟨w.heap.size, 0, none⟩)] encZ (fun ss => ss.Perm (intKeys D0)) (Maps.size D0) (w.alloc (.cells #[.map (some b)] 70)) :=
    AnyZI.keys_gives (ρ := Hs.keysA_ren) { Hs.keysA with } Fence.wide _ trivial rfl (by omega) w.heap.size b (Maps.size D0) D0 _ (by simp) (by simp) (by
      obtain ⟨es, clock, hb, Ft, hs, hD⟩ := hown
      exact ⟨es, clock, (Below.heap_alloc _ _ b hbl).trans hb, Ft, hs, hD⟩)
  have cK : ∀ mb W, CallsIn Fence.wide 5 Try.prog 41 #[.map mb] W fun e w' => e = .returned (.func (.func 66) #[] #[.pointer (some ⟨W.heap.size, 0, none⟩)]) ∧ w' = W.alloc (.cells #[.map mb] 70) := fun mb W => AnyZI.keys_in Hs.keysA Fence.wide 5 trivial rfl mb W
  have cS := AnyZI.sorted_in Hs.sortedA Fence.wide 5 trivial trivial trivial trivial rfl (by omega) (Hs.sortsA _) (enters_of Try.func65 (by kernel_rfl) rfl) 66 #[.pointer (some ⟨w.heap.size, 0, none⟩)] trivial (enters_of Try.func66 (by kernel_rfl) rfl) _ _ hmax hbytes _ hseq
  change CallsIn _ _ Try.prog 40 _ _ _ at cS
  have hfK : Fence.wide.fn 41 := trivial
  have hfS : Fence.wide.fn 40 := trivial
  refine callsIn_of_wp Try.func13 rfl trivial ?_ rfl
  simp only [Try.ntmps13, List.size_toArray, List.length_cons, List.length_nil, Nat.reduceAdd, Nat.reduceSub, Array.replicate_succ, Array.replicate_zero, List.push_toArray, List.append_toArray, List.nil_append, List.cons_append]
  gi_wp2_with (first
    | (gi_at_call 41; refine (cK _ _).mono ?_; rintro e w' ⟨rfl, rfl⟩)
    | (gi_at_call 40; refine cS.mono ?_; rintro e w' ⟨v, ss, rfl, hS, hrow, hnil, hb⟩))
  go_ret
  exact ⟨v, ss, D0, rfl, HH.out, ⟨b, HO.out⟩, hS, ownsRow_base_a hrow (by simp), hnil, ((Below.refl _ w).alloc (Nat.le_refl _) _).trans (hb.mono (by simp))⟩

end Go.Proofs.Ytkehgoailhpenaa

/- What Held answers, in the words of the document's state. It has no conditions. -/
namespace Go.Proofs.Ytkehgoailhpenaa
open Go.RowKit Go.Shelf Go.Maps Go.Sort
set_option linter.unusedVariables false

/-- The versions of the held changes, ascending. -/
def heldL (s : DS) : List Int := (s.hs.map Prod.fst).mergeSort leI
theorem heldL_len (s : DS) : (heldL s).length = s.hs.length := by unfold heldL; rw [List.length_mergeSort, List.length_map]
theorem held_perm {G : Nat → Prop} {w : World} {D : DataW Value} {hs : List (Int × List PE)} {m : Nat} (hh : HeldOk G w D hs) (hm : w.ownsMap Try.prog 3 RH m (Maps.size D) D) : (hs.map Prod.fst).Perm (intKeys D) := by
  have h : CollectedI D (fun _ => false) (hs.map Prod.fst) := ⟨hh.nodup, fun x => by have := hh.keys x; unfold kI at this; rw [this]; simp⟩
  exact h.perm hm keyInt Try.underlying3 (fun _ => rfl)
theorem held_all (T G : Nat → Prop) (p : Nat) (s : DS) (w : World) (h : DocI T G w p s) :
    Calls Try.prog 13 #[.pointer (some ⟨p, 0, none⟩)] w fun e w' => ∃ (a : Option Addr) (cap : Nat), e = .returned (.slice a s.hs.length cap) ∧
      w'.ownsRow w.heap.size 3 1 (.slice a s.hs.length cap) s.hs.length ((heldL s).map encZ) ∧ Below w.heap.size w w' := by
  refine (held_any T G p s w h).mono ?_
  rintro e w' ⟨v, ss, D, rfl, hh, ⟨m, hm⟩, hp, hrow, _, hb⟩
  have h1 := held_perm hh hm
  have h2 : ss.Perm (s.hs.map Prod.fst) := hp.trans h1.symm
  have h3 : ss.mergeSort leI = heldL s := by
    refine List.Perm.eq_of_pairwise (le := fun a b => leI a b = true) ?_ ?_ ?_ ((List.mergeSort_perm ss leI).trans (h2.trans (List.mergeSort_perm (s.hs.map Prod.fst) leI).symm))
    · intro a b _ _ h1 h2
      simp only [leI, decide_eq_true_eq] at h1 h2
      omega
    · exact List.pairwise_mergeSort (fun a b c h1 h2 => by simp only [leI, decide_eq_true_eq] at *; omega) (fun a b => by simp only [leI, Bool.or_eq_true, decide_eq_true_eq]; omega) ss
    · exact List.pairwise_mergeSort (fun a b c h1 h2 => by simp only [leI, decide_eq_true_eq] at *; omega) (fun a b => by simp only [leI, Bool.or_eq_true, decide_eq_true_eq]; omega) _
  have h4 : ss.length = s.hs.length := by rw [h2.length_eq, List.length_map]
  rw [show (fun x y : Int => decide (x ≤ y)) = leI from rfl, h3, h4] at hrow
  obtain ⟨a, c, rfl⟩ := own_slice hrow
  exact ⟨a, c, rfl, hrow, hb⟩

end Go.Proofs.Ytkehgoailhpenaa

/- Changes that put one byte at the beginning, and how many held ones follow without a gap: mathematics, no conditions. -/
namespace Go.Proofs.Ytkehgoailhpenaa
open Go.RowKit Go.Shelf Go.Maps Go.Sort
set_option linter.unusedVariables false

def hpe (c : ByteArray) : PE := ⟨0, 0, 0, 0, c⟩
def her (c : ByteArray) : Er := ⟨0, 0, c⟩
theorem hp_pe (s c : ByteArray) : pE s [hpe c] = 0 ∧ pL s [hpe c] = [her c] := by
  have e : edD (sb s) (hpe c) = (⟨0, 0, c⟩, 0) := edD_eq (ed_there c (Pos.zero _) (Pos.zero _) (Nat.le_refl _))
  have h : pE s [hpe c] = 0 := by
    unfold pE
    rw [if_neg (by simp)]
    simp only [pE0, e, if_true]
  refine ⟨h, ?_⟩
  unfold pL
  rw [if_pos h]
  simp only [List.map_cons, List.map_nil, e]
  rfl
theorem hp_ap (s c : ByteArray) (hc : c.size = 1) : vErr (s.size : Int) [her c] = 0 ∧ (apS s [her c]).size = s.size + 1 := by
  have h : vErr (s.size : Int) [her c] = 0 := by
    simp [vErr, vE, her]
  refine ⟨h, ?_⟩
  have h1 := congrArg List.length (apS_ok h)
  rw [sb_len] at h1
  rw [h1]
  simp [ees, appl, her, Er.ee, sb_len, hc]
  try omega
theorem hp_apl (s : DS) (c : ByteArray) (hc : c.size = 1) (h : s.text.size + 1 ≤ 4096) : aplE s [hpe c] = 0 ∧ (aplS s [hpe c]).text.size = s.text.size + 1 := by
  have h1 := hp_pe s.text c
  have h2 := hp_ap s.text c hc
  refine ⟨?_, by rw [aplS_text, h1.2]; exact h2.2⟩
  unfold aplE
  rw [h1.1, if_pos rfl, h1.2]
  unfold advE
  rw [if_pos h2.1, if_neg (by omega)]

/-- How many versions of K follow v without a gap. -/
def cntF : Nat → List Int → Int → Nat
  | 0, _, _ => 0
  | f + 1, K, v => if v + 1 ∈ K then cntF f (K.filter (fun x => decide (x ≠ v + 1))) (v + 1) + 1 else 0
theorem delH_keys (hs : List (Int × List PE)) (k : Int) : (delH hs k).map Prod.fst = (hs.map Prod.fst).filter (fun x => decide (x ≠ k)) := by
  unfold delH
  induction hs with
  | nil => rfl
  | cons x l ih =>
    simp only [List.filter_cons, List.map_cons]
    split <;> simp_all
theorem hp_hld (c : ByteArray) (hc : c.size = 1) : ∀ (f : Nat) (s : DS), (∀ x ∈ s.hs, x.2 = [hpe c]) → (s.hs.map Prod.fst).Nodup → s.text.size + f ≤ 4096 →
    (hldF f s).1 = cntF f (s.hs.map Prod.fst) s.v ∧ (hldF f s).2.v = s.v + (cntF f (s.hs.map Prod.fst) s.v : Int) ∧ (hldF f s).2.text.size = s.text.size + cntF f (s.hs.map Prod.fst) s.v ∧ (hldF f s).2.hs.length + cntF f (s.hs.map Prod.fst) s.v = s.hs.length := by
  intro f
  induction f with
  | zero => intro s _ _ _; simp [hldF, cntF]
  | succ f ih =>
    intro s hx hnd hs
    by_cases hin : s.v + 1 ∈ s.hs.map Prod.fst
    · have hm := hx _ (lookH_mem hin)
      simp only at hm
      have hd : (dropH s).text = s.text := rfl
      have ha := hp_apl (dropH s) c hc (by rw [hd]; omega)
      rw [hd] at ha
      have hh : (aplS (dropH s) [hpe c]).hs = delH s.hs (s.v + 1) := rfl
      have hv : (aplS (dropH s) [hpe c]).v = s.v + 1 := rfl
      have hk := delH_keys s.hs (s.v + 1)
      have hl := delH_len hnd hin
      have h := ih (aplS (dropH s) [hpe c]) (by rw [hh]; intro x hxx; exact hx x (List.mem_filter.1 hxx).1) (by rw [hh, hk]; exact hnd.filter _) (by rw [ha.2]; omega)
      rw [hh, hk, hv, ha.2] at h
      simp only [hldF, cntF]
      rw [if_pos hin, if_pos hin, hm, if_pos ha.1]
      obtain ⟨h1, h2, h3, h4⟩ := h
      refine ⟨by simp only [h1], ?_, ?_, ?_⟩
      · simp only [h2]; omega
      · simp only [h3]; omega
      · simp only; omega
    · simp only [hldF, cntF]
      rw [if_neg hin, if_neg hin]
      simp

end Go.Proofs.Ytkehgoailhpenaa

/- What receiving early changes, and then the first, leads to: mathematics, no conditions. -/
namespace Go.Proofs.Ytkehgoailhpenaa
open Go.RowKit Go.Shelf Go.Maps Go.Sort
set_option linter.unusedVariables false

/-- A document that has applied nothing and holds changes that put one byte at the beginning. -/
structure Wait (c : ByteArray) (s : DS) : Prop where
  v : s.v = 0
  t : s.text.size = 0
  e : ∀ x ∈ s.hs, x.2 = [hpe c]
  nd : (s.hs.map Prod.fst).Nodup
  lo : ∀ k ∈ s.hs.map Prod.fst, 2 ≤ k
  n : s.hs.length ≤ 16
theorem Wait.early {c : ByteArray} {s : DS} (h : Wait c s) {k : Int} (h1 : 2 ≤ k) (h2 : k ≤ 30) (hk : k ∉ s.hs.map Prod.fst) :
    rcvF s k [hpe c] = if s.hs.length < 16 then ((0, 0), holdS s k [hpe c]) else ((0, 4), s) := by
  have hv := h.v
  have hn := h.n
  have hc : chkE s k [hpe c].length = if s.hs.length < 16 then 0 else 4 := by
    unfold chkE
    simp only [List.length_singleton]
    rw [if_neg (by omega), if_neg (by omega), if_neg (fun e => e.elim (fun e => by omega) hk)]
    by_cases hl : s.hs.length < 16
    · rw [if_neg (by omega), if_pos hl]
    · rw [if_pos (by omega), if_neg hl]
  unfold rcvF
  rw [hc]
  by_cases hl : s.hs.length < 16
  · rw [if_pos hl, if_pos hl, if_neg (by simp), if_pos (by omega)]
  · rw [if_neg hl, if_neg hl, if_pos (by simp)]
theorem Wait.hold {c : ByteArray} {s : DS} (h : Wait c s) {k : Int} (h1 : 2 ≤ k) (hk : k ∉ s.hs.map Prod.fst) (hl : s.hs.length < 16) : Wait c (holdS s k [hpe c]) := by
  refine ⟨h.v, h.t, ?_, ?_, ?_, ?_⟩
  · intro x hx
    rcases List.mem_append.1 hx with hx | hx
    · exact h.e x hx
    · simp only [List.mem_singleton] at hx; subst hx; rfl
  · show ((s.hs ++ [(k, [hpe c])]).map Prod.fst).Nodup
    rw [List.map_append]
    exact List.nodup_append.2 ⟨h.nd, by simp, fun a ha b hb => by simp at hb; subst hb; exact fun e => hk (e ▸ ha)⟩
  · show ∀ x ∈ (s.hs ++ [(k, [hpe c])]).map Prod.fst, 2 ≤ x
    rw [List.map_append]
    intro x hx
    rcases List.mem_append.1 hx with hx | hx
    · exact h.lo x hx
    · simp at hx; omega
  · show (s.hs ++ [(k, [hpe c])]).length ≤ 16
    rw [List.length_append]; show s.hs.length + 1 ≤ 16; omega
/-- The first change comes: all that follow without a gap are applied. -/
theorem Wait.first {c b : ByteArray} {s : DS} (h : Wait c s) (hc : c.size = 1) (hb : b.size = 1) :
    ∃ (S : DS) (q : Nat), rcvF s 1 [hpe b] = ((1 + (q : Int), 0), S) ∧ q = cntF s.hs.length (s.hs.map Prod.fst) 1 ∧ S.v = 1 + (q : Int) ∧ S.text.size = 1 + q ∧ S.hs.length + q = s.hs.length := by
  have hv := h.v
  have hn := h.n
  have hck : chkE s 1 [hpe b].length = 0 := by
    unfold chkE
    simp only [List.length_singleton]
    rw [if_neg (by omega), if_neg (by omega), if_neg (fun e => e.elim (fun e => by omega) (fun e => by have := h.lo _ e; omega)), if_neg (by omega)]
  have ha := hp_apl s b hb (by rw [h.t]; omega)
  have hh : (aplS s [hpe b]).hs = s.hs := rfl
  have hvv : (aplS s [hpe b]).v = 1 := by rw [aplS_v, hv]; rfl
  have hd := hp_hld c hc s.hs.length (aplS s [hpe b]) (by rw [hh]; exact h.e) (by rw [hh]; exact h.nd) (by rw [ha.2, h.t]; omega)
  rw [hh, hvv, ha.2, h.t] at hd
  refine ⟨(hldF s.hs.length (aplS s [hpe b])).2, _, ?_, rfl, hd.2.1, by have := hd.2.2.1; omega, hd.2.2.2⟩
  unfold rcvF
  rw [hck, if_neg (by simp), if_neg (by omega), ha.1, if_neg (by simp), hd.1]

end Go.Proofs.Ytkehgoailhpenaa

/- The versions that follow without a gap, counted along the ascending list: mathematics, no conditions. -/
namespace Go.Proofs.Ytkehgoailhpenaa
open Go.RowKit Go.Shelf Go.Maps Go.Sort
set_option linter.unusedVariables false

def pfx : List Int → Int → Nat
  | [], _ => 0
  | x :: l, v => if x = v + 1 then pfx l (v + 1) + 1 else 0
theorem cnt_pfx : ∀ (L K : List Int) (v : Int) (f : Nat), L.Perm K → L.Pairwise (· < ·) → (∀ x ∈ L, v < x) → L.length ≤ f → cntF f K v = pfx L v := by
  intro L
  induction L with
  | nil =>
    intro K v f hp _ _ _
    have : K = [] := hp.symm.eq_nil
    subst this
    cases f <;> simp [cntF, pfx]
  | cons x l ih =>
    intro K v f hp hs hv hf
    obtain ⟨f, rfl⟩ : ∃ g, f = g + 1 := ⟨f - 1, by simp only [List.length_cons] at hf; omega⟩
    have hs' := List.pairwise_cons.1 hs
    have hx := hv x List.mem_cons_self
    simp only [cntF, pfx]
    by_cases h : x = v + 1
    · have hin : v + 1 ∈ K := hp.mem_iff.1 (by rw [h]; exact List.mem_cons_self)
      rw [if_pos h, if_pos hin]
      have hk : l.Perm (K.filter (fun y => decide (y ≠ v + 1))) := by
        have h1 := hp.filter (fun y => decide (y ≠ v + 1))
        rw [List.filter_cons_of_neg (by simp [h])] at h1
        have h2 : l.filter (fun y => decide (y ≠ v + 1)) = l := List.filter_eq_self.2 (fun y hy => by have := hs'.1 y hy; simp; omega)
        rw [h2] at h1
        exact h1
      rw [ih _ (v + 1) f hk hs'.2 (fun y hy => by have := hs'.1 y hy; omega) (by simp only [List.length_cons] at hf; omega)]
    · have hin : ¬ v + 1 ∈ K := fun hm => by
        have := hp.mem_iff.2 hm
        rcases List.mem_cons.1 this with e | e
        · exact h e.symm
        · have := hs'.1 _ e; omega
      rw [if_neg h, if_neg hin]
theorem heldL_sorted (s : DS) (h : (s.hs.map Prod.fst).Nodup) : (heldL s).Pairwise (· < ·) := by
  have h1 : (heldL s).Pairwise (fun a b => leI a b = true) := List.pairwise_mergeSort (fun a b c h1 h2 => by simp only [leI, decide_eq_true_eq] at *; omega) (fun a b => by simp only [leI, Bool.or_eq_true, decide_eq_true_eq]; omega) _
  have h2 : (heldL s).Nodup := (List.mergeSort_perm (s.hs.map Prod.fst) leI).nodup_iff.2 h
  refine (h1.and h2).imp (fun {a b} h => ?_)
  have := h.1
  simp only [leI, decide_eq_true_eq] at this
  have := h.2
  omega
theorem cnt_held {c : ByteArray} {s : DS} (h : Wait c s) : cntF s.hs.length (s.hs.map Prod.fst) 1 = pfx (heldL s) 1 := by
  have hp := List.mergeSort_perm (s.hs.map Prod.fst) leI
  exact cnt_pfx _ _ _ _ hp (heldL_sorted s h.nd) (fun x hx => by have := h.lo x (hp.mem_iff.1 hx); omega) (by show (heldL s).length ≤ _; rw [heldL_len]; exact Nat.le_refl _)
/-- The loop over the ascending list. -/
theorem pfx_drop : ∀ (L : List Int) (v : Int) (i : Nat) (h : i < L.length), (∀ j (hj : j < i), L[j]'(by omega) = v + 1 + j) → (L[i] = v + 1 + i → pfx L v ≥ i + 1) ∧ (L[i] ≠ v + 1 + i → pfx L v = i) := by
  intro L
  induction L with
  | nil => intro v i h; simp at h
  | cons x l ih =>
    intro v i h hj
    cases i with
    | zero =>
      simp only [List.getElem_cons_zero, pfx]
      exact ⟨fun e => by rw [if_pos (by simpa using e)]; omega, fun e => by rw [if_neg (fun e' => e (by rw [e']; simp))]⟩
    | succ i =>
      have hx : x = v + 1 := by have := hj 0 (by omega); simpa using this
      have := ih (v + 1) i (by simpa using h) (fun j hji => by have := hj (j + 1) (by omega); simp only [List.getElem_cons_succ] at this; rw [this]; omega)
      simp only [List.getElem_cons_succ, pfx]
      rw [if_pos hx]
      refine ⟨fun e => by have := this.1 (by rw [e]; omega); omega, fun e => by have := this.2 (fun e' => e (by rw [e']; omega)); omega⟩
theorem pfx_full : ∀ (L : List Int) (v : Int), (∀ j (hj : j < L.length), L[j] = v + 1 + j) → pfx L v = L.length := by
  intro L
  induction L with
  | nil => intro v _; rfl
  | cons x l ih =>
    intro v hj
    have hx : x = v + 1 := by have := hj 0 (by simp); simpa using this
    simp only [pfx, List.length_cons]
    rw [if_pos hx, ih (v + 1) (fun j h => by have := hj (j + 1) (by simpa using h); simp only [List.getElem_cons_succ] at this; rw [this]; omega)]

end Go.Proofs.Ytkehgoailhpenaa

/- The contract of Edit. It has no condition on how many states are remembered. -/
namespace Go.Proofs.Ytkehgoailhpenaa
open Go.RowKit Go.Shelf Go.Maps
set_option linter.unusedVariables false

/-- The error of an edit of the server. -/
def edtE (s : DS) (es : List Er) : Int := if 0 < s.hs.length then 23 else if s.v = 1099511627776 then 5 else advE s es

set_option maxRecDepth 100000 in
set_option maxHeartbeats 4000000 in
theorem edit_any (T G : Nat → Prop) (p : Nat) (s : DS) (w : World) (h : DocI T G w p s) (a : Option Addr) (cap : Nat) (es : List Er) (hE : ES w.heap.size w a cap es) (hn : es.length ≤ 1000) (hf : ∀ e ∈ es, e.Fit) :
    Calls Try.prog 20 #[.pointer (some ⟨p, 0, none⟩), .slice a es.length cap] w fun e w' =>
      (edtE s es ≠ 0 ∧ e = .returned (.tuple #[.int .i64 0, .int .i64 (edtE s es)]) ∧ Below w.heap.size w w') ∨
      (edtE s es = 0 ∧ e = .returned (.tuple #[.int .i64 (s.v + 1), .int .i64 0]) ∧ ∃ T' G', DocI T' G' w' p (advS s es) ∧ Stp T G T' G' w w') := by
  have hv0 := h.ok.v0
  have hv1 := h.ok.v1
  obtain ⟨g, cp, m, n', D, _, _, c0, _, c2, hm, hh, hTm, hpW⟩ := h.full
  have hlen := hm.len Try.underlying70 3
  rw [hh.size] at hlen
  obtain ⟨R, hR⟩ : ∃ r, edtE s es = r := ⟨_, rfl⟩
  have hRE : R = if 0 < s.hs.length then 23 else if s.v = 1099511627776 then 5 else advE s es := by rw [← hR]; rfl
  rw [hR]
  have HAD : Hid (s.v + 1 ≤ 1099511627776 → ∀ W, Below w.heap.size w W → ∀ a' c', ES W.heap.size W a' c' es → (∀ b, blkOf a' b → ¬ T b) → _) := Lib.hid (fun hv W hW a' c' hEs hT => advance_any T G p s W (h.below hW) hv a' c' es hEs hn hf hT)
  have HCL := Lib.hid (clonee_any a cap es w (by omega) hE)
  have HTL : Hid (∀ b, T b → b < w.heap.size) := h.lt
  obtain ⟨n, hn'⟩ : ∃ n, es.length = n := ⟨_, rfl⟩
  rw [hn'] at HAD HCL ⊢
  obtain ⟨H, hH⟩ : ∃ n, s.hs.length = n := ⟨_, rfl⟩
  rw [hH] at hlen hRE
  obtain ⟨S2, hS2⟩ : ∃ q, advS s es = q := ⟨_, rfl⟩
  obtain ⟨A, hA⟩ : ∃ q, advE s es = q := ⟨_, rfl⟩
  have hS2v : S2.v = s.v + 1 := by rw [← hS2]; rfl
  rw [hS2, hA] at HAD
  rw [hA] at hRE
  rw [hS2]
  obtain ⟨v, hv⟩ : ∃ v, s.v = v := ⟨_, rfl⟩
  rw [hv] at hv0 hv1 c0 hRE hS2v HAD ⊢
  have HRE := Lib.hid hRE; have HSV := Lib.hid hS2v
  clear h hm hh hE hf hR hRE hn' hH hS2 hA hv hS2v
  by_cases h1 : 0 < H
  · have h2 : (0 : Int) < (H : Int) := by omega
    have hr := HRE.out
    rw [if_pos h1] at hr
    subst hr
    go_enter Try.func20, Try.ntmps20
    go_wp2_with fail
    go_ret2
    first | exact .inl ⟨by decide, rfl, Below.refl _ _⟩ | exact ⟨rfl, Below.refl _ _⟩
  obtain rfl : H = 0 := by omega
  by_cases h3 : v = 1099511627776
  · have hr := HRE.out
    rw [if_neg (by omega), if_pos h3] at hr
    subst hr
    subst h3
    go_enter Try.func20, Try.ntmps20
    go_wp2_with fail
    go_ret2
    first | exact .inl ⟨by decide, rfl, Below.refl _ _⟩ | exact ⟨rfl, Below.refl _ _⟩
  have hr := HRE.out
  rw [if_neg (by omega), if_neg h3] at hr
  subst hr
  have hvb : (v == 1099511627776) = false := by simp [h3]
  have HA := HAD.out (by omega)
  have HAD2 := Lib.hid HA
  clear HA HAD h3
  go_enter Try.func20, Try.ntmps20
  go_wp2_with fail
  refine HCL.out.mono ?_
  rintro e w1 ⟨a1, c1, rfl, hE1, hf1, b1⟩
  have B1 := Lib.hid b1; have HF1 := Lib.hid hf1
  have HC := Lib.hid (HAD2.out w1 b1 a1 c1 hE1 (fun b hb hT => by have := hf1 b hb; have := HTL.out b hT; omega))
  clear b1 hf1 hE1
  go_wp2_with fail
  refine HC.out.mono ?_
  rintro e w2 ⟨rfl, hw⟩
  have HW := Lib.hid hw
  clear hw
  by_cases h5 : R = 0
  · subst h5
    have hX : ∃ T' G', DocI T' G' w2 p S2 ∧ Stp T G T' G' w w2 := by
      rcases HW.out with ⟨q, _⟩ | ⟨_, q2, q3⟩
      · exact absurd rfl q
      · have hz := B1.out.size
        refine ⟨_, _, q2, (Only.of_below B1.out).trans q3, fun b hb => hb.imp id (fun h => by omega), fun b hb => hb.imp id (fun h => HF1.out b h.2)⟩
    obtain ⟨T2, G2, hd2, hs2⟩ := hX
    obtain ⟨g2, cp2, m2, n2, D2, _, _, d0, _⟩ := hd2.full
    rw [HSV.out] at d0
    have HD2 := Lib.hid hd2; have HS2 := Lib.hid hs2
    clear hd2 hs2
    go_wp2_with fail
    go_ret2
    first | exact .inr ⟨trivial, rfl, T2, G2, HD2.out, HS2.out⟩ | exact ⟨rfl, T2, G2, HD2.out, HS2.out⟩ | exact .inr ⟨rfl, rfl, T2, G2, HD2.out, HS2.out⟩
  · have hq : (R != 0) = true := by simp [h5]
    have H5 := Lib.hid h5
    have hX : Below w.heap.size w w2 := by
      rcases HW.out with ⟨_, q2⟩ | ⟨q, _⟩
      · exact B1.out.trans (q2.mono B1.out.size)
      · exact absurd q h5
    have HX := Lib.hid hX
    clear hX h5
    go_wp2_with fail
    go_ret2
    exact .inl ⟨H5.out, rfl, HX.out⟩

end Go.Proofs.Ytkehgoailhpenaa

/- The contract of Since where no composition has an error. Conditions: as SncOk says. -/
namespace Go.Proofs.Ytkehgoailhpenaa
open Go.RowKit Go.Shelf Go.Maps
set_option linter.unusedVariables false

/-- The compositions go through, and end at r. -/
def SncOk (t : ByteArray) : List Er → List (List Er) → List Er → Prop
  | x, [], r => x = r
  | x, y :: l, r => cmE t x y = 0 ∧ (apS t x).size ≤ 1000000 ∧ (apS (apS t x) y).size ≤ 1000000 ∧ (∀ e ∈ cmS t x y, e.Fit) ∧ (cmS t x y).length ≤ 64 ∧ SncOk t (cmS t x y) l r
/-- The edits of the versions behind the k-th state. -/
def nexts (s : DS) (k : Nat) : List (List Er) := ((s.ss.drop k).take (s.ss.length - k - 1)).map Prod.snd
theorem nexts_len {s : DS} {k : Nat} (hk : k < s.ss.length) : (nexts s k).length = s.ss.length - k - 1 := by
  unfold nexts
  rw [List.length_map, List.length_take, List.length_drop]
  omega
theorem nexts_at {s : DS} {k i : Nat} (hk : k < s.ss.length) (hi : i < (nexts s k).length) : (nexts s k)[i]? = (s.ss[k + i]?).map Prod.snd := by
  rw [nexts_len hk] at hi
  unfold nexts
  rw [List.getElem?_map, List.getElem?_take, if_pos (by omega), List.getElem?_drop]
theorem nexts_get {s : DS} {k i : Nat} (hk : k < s.ss.length) (hi : i < (nexts s k).length) : (nexts s k)[i] = (s.ss[k + i]'(by rw [nexts_len hk] at hi; omega)).2 := by
  simp [nexts]

set_option maxRecDepth 100000 in
set_option maxHeartbeats 4000000 in
theorem since_any (T G : Nat → Prop) (p : Nat) (s : DS) (w : World) (h : DocI T G w p s) (x : Int) (hx1 : -9223372036854775808 ≤ x) (hx2 : x ≤ 9223372036854775807) (hin : oldS s ≤ x ∧ x ≤ s.v) (k : Nat) (hkx : (k : Int) = x - oldS s) (hk : k < s.ss.length) (R : List Er) (hok : SncOk (s.ss[k]).1 [] (nexts s k) R) :
    Calls Try.prog 24 #[.pointer (some ⟨p, 0, none⟩), .int .i64 x] w (NewES w R 0) := by
  have CF := Lib.hid (from_any T G p s w h x hx1 hx2)
  have HNG : Hid (∀ i, i < (nexts s k).length → (nexts s k)[i]? = (s.ss[k + i]?).map Prod.snd) := fun i hi => nexts_at hk hi
  have hlen := h.ok.len
  have hets := h.ok.eds
  obtain ⟨t, ht⟩ : ∃ t, (s.ss[k]).1 = t := ⟨_, rfl⟩
  rw [ht] at hok
  have htz : t.size ≤ 4096 := by rw [← ht]; exact h.ok.text _ (List.getElem_mem _)
  have hTl := h.lt
  have hGl := h.glt
  obtain ⟨n, hn⟩ : ∃ n, s.ss.length = n := ⟨_, rfl⟩
  have hnl := nexts_len hk
  have HET := Lib.hid hets; have HTX := Lib.hid ht; have HTL := Lib.hid hTl; have HGL := Lib.hid hGl; have HIN := Lib.hid hin; have HNL := Lib.hid hnl; have HNN := Lib.hid hn
  obtain ⟨L, hL⟩ : ∃ l, nexts s k = l := ⟨_, rfl⟩
  have HL := Lib.hid hL
  rw [hL] at hok
  have HOK := Lib.hid hok
  have HKX := Lib.hid hkx
  have HK := Lib.hid hk
  have hk' : k < n := by omega
  have hn17 : n ≤ 17 := by omega
  clear hok hL hnl hets hTl hGl hin ht hkx h hn hlen
  go_enter Try.func24, Try.ntmps24
  go_wp2_with fail
  refine CF.out.mono ?_
  rintro e w1 ⟨b1, hw⟩
  have B1 := Lib.hid b1
  obtain ⟨g, cap, vs, k2, hk2, hk3, he, hcap, hTg, h3, hst⟩ := (hw.resolve_left (fun hh => hh.1 HIN.out)).2
  obtain rfl : k2 = k := by have := HKX.out; omega
  subst he
  have hvl := h3.len
  have hglt := HTL.out g hTg
  have hgk : ∀ V, Below w.heap.size w V → V.heap[g]? = w.heap[g]? := fun V hV => hV.block g hglt
  rw [HNN.out] at hcap ⊢
  have hvn : vs.length = n := by rw [hvl]; exact HNN.out
  have HALL : Hid (∀ i, k2 + i < n → ∃ (y : ByteArray × List Er) (nx : Value), s.ss[k2 + i]? = some y ∧ EsG G w nx y.2 ∧ ∀ V, Below w.heap.size w V → V.cell? ⟨g, k2 * 2 + i * 2, none⟩ = some (.string y.1) ∧ V.cell? ⟨g, k2 * 2 + i * 2 + 1, none⟩ = some nx) := fun i hi => by
    have h9 := h3.at_ (k2 + i) (by omega) (by omega)
    refine ⟨s.ss[k2 + i]'(by omega), (vs[k2 + i]'(by omega)).2, List.getElem?_eq_getElem _, h9.2, fun V hV => ?_⟩
    have := hst V (hgk V hV) (k2 + i) (by omega)
    rw [show (k2 + i) * 2 = k2 * 2 + i * 2 by omega, h9.1] at this
    exact this
  obtain ⟨y0, nx0, hy0, _, hc0⟩ := HALL.out 0 (by omega)
  have c0 := (hc0 w1 B1.out).1
  have ht0 : y0.1 = t := by
    have hk9 := HK.out
    rw [Nat.add_zero, List.getElem?_eq_getElem hk9] at hy0
    rw [← Option.some.inj hy0]; exact HTX.out
  rw [ht0] at c0
  simp only [Nat.zero_mul, Nat.add_zero] at c0
  obtain ⟨N, hN⟩ : ∃ N, n - k2 = N := ⟨_, rfl⟩
  obtain ⟨M, hM⟩ : ∃ M, M + 1 = N := ⟨N - 1, by omega⟩
  have hML : L.length = M := by rw [← HL.out, HNL.out, HNN.out]; omega
  obtain ⟨cp, hcp⟩ : ∃ c, cap - k2 = c := ⟨_, rfl⟩
  rw [hN, hcp]
  have hN1 : IntKind.i64.wrap ((N : Int) - 1) = (M : Int) := by simp [IntKind.wrap, IntKind.signed, IntKind.bits]; omega
  have hNn : ¬ (N : Int) = 0 := by omega
  have hN0 : (0 : Int) < (N : Int) := by omega
  have hMN : (M : Int) ≤ (cp : Int) := by omega
  have hM17 : M ≤ 17 := by omega
  have hNz : ((N : Int) == 0) = false := by simp; omega
  have HVN := Lib.hid hvn; have HMM := Lib.hid (And.intro hM hN); have HML := Lib.hid hML
  have HE0 : Hid (ES w1.heap.size w1 none 0 [] ∧ (∀ e ∈ ([] : List Er), e.Fit) ∧ ([] : List Er).length ≤ 64 ∧ SncOk t [] (L.drop 0) R) := ⟨ES.none _ _, fun e he => by simp at he, Nat.zero_le _, HOK.out⟩
  clear hw b1 hk2 hk3 h3 hst hvl hgk hvn ht0 hN hM hML hcp hc0 hy0
  go_wp2_with fail
  go_loopw [8, 29] (fun u q wr => ∃ (i : Nat) (xs : List Er) (ax : Option Addr) (cx : Nat), i ≤ M ∧ q = .int .i64 (i : Int) ∧ u = .slice ax xs.length cx ∧ Hid (ES wr.heap.size wr ax cx xs ∧ (∀ e ∈ xs, e.Fit) ∧ xs.length ≤ 64 ∧ SncOk t xs (L.drop i) R) ∧ Hid (Below w.heap.size w wr)) (fun _ q _ => M - (intOf q).toNat)
  case atStart => exact ⟨0, [], none, 0, by omega, rfl, rfl, HE0, B1.out⟩
  case round =>
    obtain ⟨i, xs, ax, cx, hi, rfl, rfl, HX, HR⟩ := hrel
    by_cases hlt : i < M
    · have hkk : (i : Int) < (M : Int) := by omega
      obtain ⟨y, nx, hy, hnx, hcl⟩ := HALL.out i (by have := HMM.out; omega)
      obtain ⟨an, cn, rfl, hEn⟩ := hnx.es
      obtain ⟨d0, d1⟩ := hcl wr HR.out
      obtain ⟨yt, ye⟩ := y
      simp only at d0 d1 hEn hnx
      obtain ⟨e1, e2, e3, e4⟩ := HX.out
      have hLi : L.drop i = ye :: L.drop (i + 1) := by
        have h8 : i < L.length := by rw [HML.out]; exact hlt
        rw [List.drop_eq_getElem_cons h8]
        congr 1
        have := HNG.out i (by rw [HL.out]; exact h8)
        rw [hy, HL.out, List.getElem?_eq_getElem h8] at this
        simpa using this
      rw [hLi] at e4
      obtain ⟨q1, q2, q3, q4, q5, q6⟩ := e4
      have hye := HET.out (yt, ye) (List.mem_of_getElem? hy)
      simp only at hye
      obtain ⟨ln, hln⟩ : ∃ n, ye.length = n := ⟨_, rfl⟩
      rw [hln] at d1
      have HC : Hid (∀ W, Below wr.heap.size wr W → Calls Try.prog 51 #[.string t, .slice ax xs.length cx, .slice an ln cn] W fun e w' => NewES W (cmS t xs ye) 0 e w') := fun W hW => by
        have h1 : ES W.heap.size W an cn ye := hEn.on (HR.out.trans (hW.mono HR.out.size))
        have := pcompose_any t ax an cx cn xs ye W (by omega) q2 q3 (by omega) (by omega) e2 hye.2 (e1.on hW) h1
        rw [q1, hln] at this
        exact this
      obtain ⟨X, hX⟩ : ∃ x, cmS t xs ye = x := ⟨_, rfl⟩
      rw [hX] at q4 q5 q6 HC
      have HQ : Hid ((∀ e ∈ X, e.Fit) ∧ X.length ≤ 64 ∧ SncOk t X (L.drop (i + 1)) R) := ⟨q4, q5, q6⟩
      have HBW : Hid (Below wr.heap.size wr (wr.alloc (.cells #[.string yt, .slice an ln cn] 68))) := (Below.refl _ _).alloc (Nat.le_refl _) _
      clear hy hnx hcl hEn e1 e2 e3 hLi q1 q2 q3 q4 q5 q6 hye hln hX
      go_wp2_with fail
      refine (HC.out _ HBW.out).mono ?_
      rintro e w7 ⟨a7, c7, rfl, hE7, b7⟩
      have HX7 : Hid (ES w7.heap.size w7 a7 c7 X ∧ (∀ e ∈ X, e.Fit) ∧ X.length ≤ 64 ∧ SncOk t X (L.drop (i + 1)) R) := ⟨hE7, HQ.out.1, HQ.out.2.1, HQ.out.2.2⟩
      have H7 : Hid (Below w.heap.size w w7) := HR.out.trans ((HBW.out.trans (b7.mono HBW.out.size)).mono HR.out.size)
      clear hE7 b7
      go_wp2
      go_roundw
      case rel => exact ⟨i + 1, X, a7, c7, by omega, by go_num, rfl, HX7, H7⟩
      case measure => simp [intOf]; omega
    · obtain rfl : M = i := by omega
      have hR := HX.out.2.2.2
      rw [List.drop_eq_nil_of_le (by rw [HML.out]; omega)] at hR
      have hRR : xs = R := hR
      subst hRR
      clear hR
      go_wp2_with fail
      go_ret2
      exact ⟨ax, cx, rfl, HX.out.1, HR.out⟩

end Go.Proofs.Ytkehgoailhpenaa
