/- The examples of the chapter hold. It has no conditions. -/
import Derived.Test.YtfhpllcdlejfjaaEIp
import Derived.Test.YtfhpllcdlejfjaaEMp
import Derived.Test.YtfhpllcdlejfjaaEDf
namespace Go.Proofs.Ytfhpllcdlejfjaa
open Go.RowKit Go.Shelf
set_option linter.unusedVariables false

def exS : ByteArray := ⟨#[97, 98, 99, 100]⟩
def exT : ByteArray := ⟨#[97, 120, 121, 99, 122, 100]⟩
def exE : List Er := [⟨1, 2, ⟨#[120, 121]⟩⟩, ⟨3, 3, ⟨#[122]⟩⟩]
theorem ex_err : vErr (exS.size : Int) exE = 0 := by decide +kernel
theorem ex_app : apS exS exE = exT := by
  apply sb_inj
  rw [apS_ok ex_err]
  decide +kernel
theorem ex_inv : ∃ e1 e2 : Er, ivS exS exE = [e1, e2] ∧ e2.f = 4 := by
  refine ⟨_, _, by unfold ivS; rw [if_pos ex_err]; rfl, ?_⟩
  decide +kernel
theorem ex_map1 : mpV exE 3 true = 5 := by decide +kernel
theorem ex_map2 : mpV exE 3 false = 4 := by decide +kernel
theorem ex_fit : ∀ e ∈ exE, e.Fit := by
  intro e he
  simp only [exE, List.mem_cons, List.not_mem_nil, or_false] at he
  rcases he with rfl | rfl <;> exact ⟨by decide, by decide, by decide, by decide, by decide⟩
theorem ex_near : ∀ e ∈ exE, Near e.f ∧ Near e.t := by
  intro e he
  simp only [exE, List.mem_cons, List.not_mem_nil, or_false] at he
  rcases he with rfl | rfl <;> exact ⟨⟨by decide, by decide⟩, ⟨by decide, by decide⟩⟩
theorem ex_dif {es : List Er} (h : DifR ⟨#[97, 97]⟩ ⟨#[97]⟩ es) : ∃ e : Er, es = [e] ∧ e.f = 1 := by
  have h1 : Pre (sb ⟨#[97, 97]⟩) (sb ⟨#[97]⟩) 1 := by
    refine ⟨by decide +kernel, by decide +kernel, fun i hi => ?_, .inr (.inl (by decide +kernel))⟩
    obtain rfl : i = 0 := by omega
    decide +kernel
  have h2 : Suf (sb ⟨#[97, 97]⟩) (sb ⟨#[97]⟩) 1 0 := ⟨by decide +kernel, by decide +kernel, fun i hi => by omega, .inr (.inl (by decide +kernel))⟩
  have h3 : (⟨#[97, 97]⟩ : ByteArray) ≠ ⟨#[97]⟩ := by decide +kernel
  have := h.det (.inr ⟨h3, 1, 0, h1, h2, rfl⟩)
  exact ⟨_, this, rfl⟩

set_option maxRecDepth 100000 in
set_option maxHeartbeats 4000000 in
theorem lives_any (w : World) : Calls Try.prog 17 #[] w fun e w' => e = .returned (.bool true) ∧ Below w.heap.size w w' := by
  obtain ⟨B, hB⟩ : ∃ B, w.heap.size = B := ⟨_, rfl⟩
  obtain ⟨W0, hW0⟩ : ∃ W, w.alloc (.cells (rv exE).toArray 32) = W := ⟨_, rfl⟩
  have b0 : Below B w W0 := by rw [← hW0, ← hB]; exact (Below.refl _ _).alloc (Nat.le_refl _) _
  have z0 : W0.heap.size = B + 1 := by rw [← hW0, ← hB]; simp
  have k0 : Blk W0 B 32 (rv exE).toArray := by rw [← hW0, ← hB]; exact Blk.new _ _ _
  have hES : ∀ W, Below W0.heap.size W0 W → ES W.heap.size W (some ⟨B, 0, none⟩) 2 exE := by
    intro W hW
    refine ⟨by decide, by omega, (fun h => by cases h), .inr ⟨B, 0, rfl, by have := hW.size; omega, fun k hk i hi => ?_⟩⟩
    rw [hW.cell (p := ⟨B, 0 + k * 3 + i, none⟩) (by show B < W0.heap.size; omega), k0.cell, List.getElem?_toArray, Nat.zero_add]
    exact rv_get exE k i hk hi
  have C1 := Lib.hid (papply_any exS (some ⟨B, 0, none⟩) 2 exE W0 (by decide) (by decide) ex_fit (hES W0 (Below.refl _ _)))
  have C2 := Lib.hid (fun W hW => pinvert_any exS (some ⟨B, 0, none⟩) 2 exE W (by decide) (by decide) ex_fit (hES W hW))
  have C3 := Lib.hid (fun W hW af => pmap_any (some ⟨B, 0, none⟩) 2 exE 3 af W (by decide) ex_fit ex_near ⟨by decide, by decide⟩ (hES W hW))
  have C4 := Lib.hid (fun W => pdiff_all ⟨#[97, 97]⟩ ⟨#[97]⟩ W (by decide) (by decide))
  have HW0 := Lib.hid hW0; have HB := Lib.hid hB; have HB0 := Lib.hid b0
  clear hW0 hB b0 k0 hES
  go_enter Try.func17, Try.ntmps17
  go_wp2_with fail
  rw [show w.alloc (.cells #[.int .i64 1, .int .i64 2, .string ⟨#[120, 121]⟩, .int .i64 3, .int .i64 3, .string ⟨#[122]⟩] 32) = W0 from HW0.out, HB.out]
  refine C1.out.mono ?_
  rintro e w1 ⟨he1, b1⟩
  rw [ex_app, ex_err] at he1
  subst he1
  have HB1 := Lib.hid b1
  have D2 := C2.out w1 b1
  clear b1
  go_wp2_with fail
  refine D2.mono ?_
  rintro e w2 ⟨ai, ci, he2, hE2, b2⟩
  obtain ⟨e1, e2, hinv, he2f⟩ := ex_inv
  rw [hinv] at he2 hE2
  rw [ex_err] at he2
  subst he2
  have hb2 : Below W0.heap.size W0 w2 := HB1.out.trans (b2.mono HB1.out.size)
  obtain ⟨bi, offi, habi, hcelli⟩ := hE2.cells.core
  obtain ⟨hai, hbi⟩ := habi.resolve_left (by simp)
  subst hai
  have hci := hE2.le
  have HB2 := Lib.hid hb2
  have HC2 := Lib.hid hcelli
  clear hE2 b2 hb2 hcelli
  go_wp2_with fail
  refine (C4.out w2).mono ?_
  rintro e w3 ⟨ds, hds, ad, cd, rfl, hE3, b3⟩
  obtain ⟨d0, rfl, hd0⟩ := ex_dif hds
  have hb3 : Below W0.heap.size W0 w3 := HB2.out.trans (b3.mono HB2.out.size)
  obtain ⟨bd, offd, habd, hcelld⟩ := hE3.cells.core
  obtain ⟨had, hbd⟩ := habd.resolve_left (by simp)
  subst had
  have hcd := hE3.le
  have cI : ∀ W, Below w3.heap.size w3 W → W.cell? ⟨bi, offi + 3, none⟩ = some (.int .i64 4) := by
    intro W hW
    have h := (HC2.out 1 (by simp) w2 rfl).1
    rw [show (eg [e1, e2] 1).f = 4 from he2f] at h
    rw [(b3.trans (hW.mono b3.size)).cell (p := ⟨bi, offi + 3, none⟩) hbi]
    simpa using h
  have cD : ∀ W, Below w3.heap.size w3 W → W.cell? ⟨bd, offd, none⟩ = some (.int .i64 1) := by
    intro W hW
    have h := (hcelld 0 (by simp) w3 rfl).1
    rw [show (eg [d0] 0).f = 1 from hd0] at h
    rw [hW.cell (p := ⟨bd, offd, none⟩) hbd]
    simpa using h
  have D3 := fun af => C3.out w3 hb3 af
  have HB3 := Lib.hid hb3
  have HCI := Lib.hid cI; have HCD := Lib.hid cD
  have cI0 := cI w3 (Below.refl _ _)
  have hq1 : (exT.toList == exT.toList) = true := by simp
  clear hE3 b3 hb3 hcelld hds cI cD
  simp only [List.length_cons, List.length_nil, Nat.zero_add, Nat.reduceAdd] at hci hcd
  have hq2 : (exT.toList == [97, 120, 121, 99, 122, 100]) = true := by rw [ByteArray.toList_eq]; decide
  clear hq1
  go_wp2_with fail
  refine (D3 true).mono ?_
  rintro e w4 ⟨rfl, b4⟩
  rw [ex_map1]
  have cI4 := HCI.out w4 b4
  have HB4 := Lib.hid (HB3.out.trans (b4.mono HB3.out.size))
  have D4 := C3.out w4 HB4.out false
  have B4 := Lib.hid b4
  clear b4
  go_wp2_with fail
  refine D4.mono ?_
  rintro e w5 ⟨rfl, b5⟩
  rw [ex_map2]
  have b35 := B4.out.trans (b5.mono B4.out.size)
  have cD5 := HCD.out w5 b35
  have HF : Hid (Below w.heap.size w w5) := by
    rw [HB.out]
    exact HB0.out.trans ((HB3.out.trans (b35.mono HB3.out.size)).mono (by omega))
  clear b5 b35
  go_wp2
  go_ret
  exact ⟨rfl, HF.out⟩

end Go.Proofs.Ytfhpllcdlejfjaa
