/- Tokens: the reference's Part: a text of at most 20 bytes. It has no conditions. -/
import Derived.Test.YtgfhhpodcnohpaaDoorLRa
import Derived.Test.YtgfhhpodcnohpaaDoorAround
namespace Go.Proofs.YtgfhhpodcnohpaaDoor
open Go.RowKit Go.Shelf
set_option linter.unusedVariables false

def PTb : List ByteArray := [⟨#[120]⟩, ⟨#[121, 49]⟩, ⟨#[97, 95, 98]⟩, ⟨#[83, 111, 109, 101]⟩, ⟨#[78, 48, 110, 101]⟩, ⟨#[48]⟩, ⟨#[52, 50]⟩, ⟨#[49, 48, 57, 57, 53, 49, 49, 54, 50, 55, 55, 55, 54]⟩, ⟨#[49, 48, 57, 57, 53, 49, 49, 54, 50, 55, 55, 55, 55]⟩, ⟨#[34, 116, 34]⟩, ⟨#[34, 195, 169, 32, 98, 34]⟩, ⟨#[34, 111, 112, 101, 110]⟩, ⟨#[35, 110, 111, 116, 101]⟩, ⟨#[35]⟩, ⟨#[33]⟩, ⟨#[36]⟩, ⟨#[195, 169]⟩, ⟨#[38, 38]⟩, ⟨#[95]⟩, ⟨#[34]⟩, ⟨#[10]⟩, ⟨#[32]⟩, ⟨#[9, 32]⟩, ⟨#[97, 50, 51, 52, 53, 54, 55, 56, 57, 48, 49, 50, 51, 52, 53, 54, 55]⟩, ⟨#[66, 50, 51, 52, 53, 54, 55, 56, 57, 48, 49, 50, 51, 52, 53, 54]⟩]
theorem strs_size {w : World} {a : Addr} {L : List (List Int)} (h : Strs w a L) (hl : ∀ x ∈ L, x.length ≤ 20) {k : Nat} (hk : k < L.length) : ∃ x, w.cell? (a.add k) = some (.string x) ∧ x.size ≤ 20 := by
  obtain ⟨x, h1, h2⟩ := h k hk
  refine ⟨x, h1, ?_⟩
  have := hl _ (List.mem_of_getElem? h2)
  rwa [sb_len] at this
theorem kw20 : ∀ x ∈ KW, x.length ≤ 20 := by decide
theorem sy20 : ∀ x ∈ SY, x.length ≤ 20 := by decide
theorem pt20 : ∀ x ∈ PTb.map sb, x.length ≤ 20 := by decide
/-- A text of at most 20 bytes. -/
def Sm20 (w : World) (e : Ending) (w' : World) : Prop := ∃ x : ByteArray, e = .returned (.string x) ∧ x.size ≤ 20 ∧ Below w.heap.size w w'
set_option maxRecDepth 100000 in
set_option maxHeartbeats 4000000 in
theorem part_any (n : Int) (w : World) (h1 : -9223372036854775808 ≤ n) (h2 : n ≤ 9223372036854775807) : Calls Tryd.prog 52 #[.int .i64 n] w (Sm20 w) := by
  unfold Sm20
  obtain ⟨W1, hW1⟩ : ∃ W, w.alloc (.cells #[.string ⟨#[120]⟩, .string ⟨#[121, 49]⟩, .string ⟨#[97, 95, 98]⟩, .string ⟨#[83, 111, 109, 101]⟩, .string ⟨#[78, 48, 110, 101]⟩, .string ⟨#[48]⟩, .string ⟨#[52, 50]⟩, .string ⟨#[49, 48, 57, 57, 53, 49, 49, 54, 50, 55, 55, 55, 54]⟩, .string ⟨#[49, 48, 57, 57, 53, 49, 49, 54, 50, 55, 55, 55, 55]⟩, .string ⟨#[34, 116, 34]⟩, .string ⟨#[34, 195, 169, 32, 98, 34]⟩, .string ⟨#[34, 111, 112, 101, 110]⟩, .string ⟨#[35, 110, 111, 116, 101]⟩, .string ⟨#[35]⟩, .string ⟨#[33]⟩, .string ⟨#[36]⟩, .string ⟨#[195, 169]⟩, .string ⟨#[38, 38]⟩, .string ⟨#[95]⟩, .string ⟨#[34]⟩, .string ⟨#[10]⟩, .string ⟨#[32]⟩, .string ⟨#[9, 32]⟩, .string ⟨#[97, 50, 51, 52, 53, 54, 55, 56, 57, 48, 49, 50, 51, 52, 53, 54, 55]⟩, .string ⟨#[66, 50, 51, 52, 53, 54, 55, 56, 57, 48, 49, 50, 51, 52, 53, 54]⟩] 9) = W := ⟨_, rfl⟩
  have hS : Strs W1 ⟨w.heap.size, 0, none⟩ (PTb.map sb) := by rw [← hW1]; exact strs_new w _ PTb
  have hb : Below w.heap.size w W1 := by rw [← hW1]; exact (Below.refl _ _).alloc (Nat.le_refl _) _
  have HW := Lib.hid hW1
  have HS := Lib.hid hS
  have HB := Lib.hid hb
  have HAR := Lib.hid (fun W => around_any n 99 W h1 h2 (by omega) (by omega))
  clear hW1 hS hb
  go_enter Tryd.func52, Tryd.ntmps52
  go_wp2_with fail
  rw [HW.out]
  refine (rkeywords_any _).mono ?_
  rintro e wa ⟨ga, rfl, hSa, hba⟩
  have HBa := Lib.hid hba
  clear hSa hba
  go_wp2_with fail
  refine (rsymbols_any _).mono ?_
  rintro e wb ⟨gb, rfl, hSb, hbb⟩
  have HBb := Lib.hid (HBa.out.trans (hbb.mono HBa.out.size))
  clear hSb hbb
  go_wp2_with fail
  refine (HAR.out _).mono ?_
  rintro e wc ⟨k, hk, rfl, rfl⟩
  have HBw : Hid (Below w.heap.size w wb) := Lib.hid (HB.out.trans (HBb.out.mono HB.out.size))
  by_cases k1 : k < 25
  · have q1 : (k : Int) < 25 := by omega
    obtain ⟨x, hx, hx2⟩ := strs_size (HS.out.below HBb.out) pt20 (k := k) (by rw [show (PTb.map sb).length = 25 from rfl]; exact k1)
    have hx3 : wb.cell? ⟨w.heap.size, k, none⟩ = some (.string x) := by
      rw [← hx]; congr 1
      by_cases h0 : k = 0 <;> simp [Addr.add, h0]
    clear k1
    go_wp2
    go_ret
    exact ⟨_, rfl, hx2, HBw.out⟩
  · have q1 : ¬ (k : Int) < 25 := by omega
    obtain ⟨j, hj⟩ : ∃ j : Nat, (k : Int) - 25 = (j : Int) := ⟨k - 25, by omega⟩
    by_cases k2 : j < 26
    · have q2 : (j : Int) < 26 := by omega
      clear k1
      go_wp2_with fail
      refine (rkeywords_any _).mono ?_
      rintro e wd ⟨gd, rfl, hSd, hbd⟩
      have HBd := Lib.hid (HBw.out.trans (hbd.mono HBw.out.size))
      clear hSd hbd
      go_wp2_with fail
      refine (rkeywords_any _).mono ?_
      rintro e we ⟨ge, rfl, hSe, hbe⟩
      have HBe := Lib.hid (HBd.out.trans (hbe.mono HBd.out.size))
      obtain ⟨x, hx, hx2⟩ := strs_size hSe kw20 (k := j) (by rw [show KW.length = 26 from rfl]; exact k2)
      have hx3 : we.cell? ⟨ge, j, none⟩ = some (.string x) := by
        rw [← hx]; congr 1
        by_cases h0 : j = 0 <;> simp [Addr.add, h0]
      clear hSe hbe k2
      go_wp2
      go_ret
      exact ⟨_, rfl, hx2, HBe.out⟩
    · have q2 : ¬ (j : Int) < 26 := by omega
      obtain ⟨m, hm⟩ : ∃ m : Nat, (j : Int) - 26 = (m : Int) := ⟨j - 26, by omega⟩
      obtain ⟨r, hr⟩ : ∃ r : Nat, m % 24 = r := ⟨_, rfl⟩
      have hr24 : r < 24 := by omega
      have hmod : (m : Int).tmod 24 = (r : Int) := by rw [← hr, Int.tmod_eq_emod_of_nonneg (by omega)]; omega
      clear k1
      go_wp2_with fail
      refine (rkeywords_any _).mono ?_
      rintro e wd ⟨gd, rfl, hSd, hbd⟩
      have HBd := Lib.hid (HBw.out.trans (hbd.mono HBw.out.size))
      clear hSd hbd
      go_wp2_with fail
      refine (rsymbols_any _).mono ?_
      rintro e we ⟨ge, rfl, hSe, hbe⟩
      have HBe := Lib.hid (HBd.out.trans (hbe.mono HBd.out.size))
      have HSe := Lib.hid hSe
      clear hSe hbe
      go_wp2_with fail
      refine (rkeywords_any _).mono ?_
      rintro e wf ⟨gf, rfl, hSf, hbf⟩
      have HBf := Lib.hid (HBe.out.trans (hbf.mono HBe.out.size))
      have HSf := Lib.hid (HSe.out.below hbf)
      clear hSf hbf
      go_wp2_with fail
      refine (rsymbols_any _).mono ?_
      rintro e wg ⟨gg, rfl, hSg, hbg⟩
      have HBg := Lib.hid (HBf.out.trans (hbg.mono HBf.out.size))
      obtain ⟨x, hx, hx2⟩ := strs_size (HSf.out.below hbg) sy20 (k := r) (by rw [show SY.length = 24 from rfl]; exact hr24)
      have hx3 : wg.cell? ⟨ge, r, none⟩ = some (.string x) := by
        rw [← hx]; congr 1
        by_cases h0 : r = 0 <;> simp [Addr.add, h0]
      have q3 : (r : Int) < 24 := by omega
      clear hSg hbg k2 hr
      go_wp2
      go_ret
      exact ⟨_, rfl, hx2, HBg.out⟩

end Go.Proofs.YtgfhhpodcnohpaaDoor
