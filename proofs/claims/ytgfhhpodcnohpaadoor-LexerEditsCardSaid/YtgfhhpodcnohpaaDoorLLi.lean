/- Tokens: the chapter's examples. Conditions: the tables lie in memory. -/
import Derived.Test.YtgfhhpodcnohpaaDoorLJq
import Derived.Test.YtgfhhpodcnohpaaDoorLRg
namespace Go.Proofs.YtgfhhpodcnohpaaDoor
open Go.RowKit Go.Shelf
set_option linter.unusedVariables false

/-- The examples' tokens. -/
def exL : List Tk := [(2, [120], 0), (6, [60, 45], 1), (4, [49], 3), (0, [32], 4), (8, [33], 5), (2, [121], 6), (1, [35, 122], 7)]
theorem ex_lex : lex (sb ⟨#[120, 60, 45, 49, 32, 33, 121, 35, 122]⟩) 0 = exL := by kernel_rfl
theorem ex_quo1 : quoV ⟨#[97, 32, 98]⟩ = (⟨#[34, 97, 32, 98, 34]⟩, 0) := by kernel_rfl
theorem ex_quo2 : quoV ⟨#[97, 10, 98]⟩ = (⟨#[]⟩, 1) := by kernel_rfl
def exB : List ByteArray := [⟨#[108, 101, 116]⟩, ⟨#[120]⟩, ⟨#[61]⟩, ⟨#[61]⟩, ⟨#[35, 99]⟩, ⟨#[49]⟩]
theorem ex_join : joB exB = ⟨#[108, 101, 116, 32, 120, 61, 32, 61, 35, 99, 10, 49]⟩ := by kernel_rfl

set_option maxRecDepth 100000 in
set_option maxHeartbeats 4000000 in
theorem lives_any (w : World) (hT : LexW w) :
    Calls Tryd.prog 16 #[] w fun e w' => e = .returned (.bool true) ∧ Below w.heap.size w w' := by
  have c0 := ptoks_any ⟨#[120, 60, 45, 49, 32, 33, 121, 35, 122]⟩ (by show 9 ≤ 100000; omega) w hT.t
  rw [ex_lex] at c0
  have d1 := fun W h => quote_any ⟨#[97, 32, 98]⟩ (by show 3 ≤ 100000; omega) W h
  rw [ex_quo1] at d1
  have d2 := fun W h => quote_any ⟨#[97, 10, 98]⟩ (by show 3 ≤ 100000; omega) W h
  rw [ex_quo2] at d2
  have C0 := Lib.hid c0
  have D1 := Lib.hid d1
  have D2 := Lib.hid d2
  have HT := Lib.hid hT
  clear c0 d1 d2 hT
  go_enter Tryd.func16, Tryd.ntmps16
  go_wp2_with fail
  refine C0.out.mono ?_
  rintro e w1 ⟨u, rfl, hown, hb1⟩
  have ho7 : w1.ownsRow w.heap.size 31 3 u 7 (tks exL) := hown
  obtain ⟨a, cap, rfl, hc⟩ := trow ho7 rfl
  obtain ⟨g, rfl, hg, hcell⟩ := hc (by omega)
  have HT1 := Lib.hid (HT.out.below hb1)
  have HB1 := Lib.hid hb1
  have HC := Lib.hid hcell
  clear hown ho7 hc hb1 hcell
  go_wp2_with fail
  refine (D1.out _ HT1.out).mono ?_
  rintro e w2 ⟨rfl, hb⟩
  have hsz2 := hb.size
  have HT2 := Lib.hid (HT1.out.below hb)
  have HB12 := Lib.hid hb
  have HB2 := Lib.hid (HB1.out.trans (hb.mono HB1.out.size))
  clear hb
  go_wp2_with fail
  refine (D2.out _ HT2.out).mono ?_
  rintro e w3 ⟨rfl, hb⟩
  have HT3 := Lib.hid (HT2.out.below hb)
  have HB13 := Lib.hid (HB12.out.trans (hb.mono hsz2))
  have HB3 := Lib.hid (HB2.out.trans (hb.mono HB2.out.size))
  clear hb
  have hcell := HC.out w3 (HB13.out.block g hg)
  have e0 : w3.cell? ⟨g, 0, none⟩ = some (.int .i64 2) := (hcell 0 (by omega)).1
  have e4 : w3.cell? ⟨g, 4, none⟩ = some (.string ⟨#[60, 45]⟩) := (hcell 1 (by omega)).2.1
  have e6 : w3.cell? ⟨g, 6, none⟩ = some (.int .i64 4) := (hcell 2 (by omega)).1
  have e9 : w3.cell? ⟨g, 9, none⟩ = some (.int .i64 0) := (hcell 3 (by omega)).1
  have e12 : w3.cell? ⟨g, 12, none⟩ = some (.int .i64 8) := (hcell 4 (by omega)).1
  have e16 : w3.cell? ⟨g, 16, none⟩ = some (.string ⟨#[121]⟩) := (hcell 5 (by omega)).2.1
  have e18 : w3.cell? ⟨g, 18, none⟩ = some (.int .i64 1) := (hcell 6 (by omega)).1
  have e20 : w3.cell? ⟨g, 20, none⟩ = some (.int .i64 7) := (hcell 6 (by omega)).2.2
  obtain ⟨W5, hW5⟩ : ∃ W, w3.alloc (.cells (exB.map Value.string).toArray 9) = W := ⟨_, rfl⟩
  have hS5 : StrIn W5 (some ⟨w3.heap.size, 0, none⟩) exB := by
    obtain ⟨a5, c5, e5, _, h5⟩ := strIn_own (World.ownsRow_lit (base := 0) (e := 9) (size := 1) w3 (exB.map Value.string).toArray 6 (Nat.zero_le _) (by unfold maxLen; omega) (by rfl))
    cases e5
    rw [← hW5]
    exact h5
  have hb5 : Below w3.heap.size w3 W5 := by rw [← hW5]; exact (Below.refl _ _).alloc (Nat.le_refl _) _
  have c5 := join_any exB (some ⟨w3.heap.size, 0, none⟩) 6 6 rfl (by omega) (by intro s hs; simp [exB] at hs; rcases hs with rfl | rfl | rfl | rfl | rfl <;> (show _ ≤ 40000) <;> simp [ByteArray.size]) W5 (HT3.out.t.below hb5) hS5
  rw [ex_join] at c5
  have C5 := Lib.hid c5
  have HB5 := Lib.hid (HB3.out.trans (hb5.mono HB3.out.size))
  have HW5 : Hid (w3.alloc (.cells #[.string ⟨#[108, 101, 116]⟩, .string ⟨#[120]⟩, .string ⟨#[61]⟩, .string ⟨#[61]⟩, .string ⟨#[35, 99]⟩, .string ⟨#[49]⟩] 9) = W5) := Lib.hid hW5
  clear hcell hW5 hS5 hb5 c5
  go_wp2_with fail
  rw [show w3.alloc (.cells #[.string ⟨#[108, 101, 116]⟩, .string ⟨#[120]⟩, .string ⟨#[61]⟩, .string ⟨#[61]⟩, .string ⟨#[35, 99]⟩, .string ⟨#[49]⟩] 9) = W5 from HW5.out]
  refine C5.out.mono ?_
  rintro e w6 ⟨rfl, hb⟩
  have HB6 := Lib.hid (HB5.out.trans (hb.mono HB5.out.size))
  clear hb
  go_wp2
  go_ret
  exact ⟨rfl, HB6.out⟩

end Go.Proofs.YtgfhhpodcnohpaaDoor
