/- The contract of Same, where the values are equal. Conditions: values that fit. -/
import Derived.Test.YtfnpnomfdfdonaaWDec
import Derived.Test.YtfnpnomfdfdonaaSameInts
namespace Go.Proofs.Ytfnpnomfdfdonaa
open Go.RowKit Go.Shelf
set_option linter.unusedVariables false

set_option maxRecDepth 100000 in
set_option maxHeartbeats 4000000 in
theorem same_any (v : V) (ab : Option Addr) (cb : Nat) (al : Option Addr) (cl : Nat) (ab' : Option Addr) (cb' : Nat) (al' : Option Addr) (cl' : Nat) (w : World)
    (h1 : Sli .u8 w ab cb v.b) (h2 : Sli .i64 w al cl v.l) (h3 : Sli .u8 w ab' cb' v.b) (h4 : Sli .i64 w al' cl' v.l) (hb : v.b.length ≤ 100000) (hl : v.l.length ≤ 100000) :
    Calls Try.prog 21 #[.agg #[.int .i64 v.kind, .int .u64 v.u, .int .i64 v.n, .slice ab v.b.length cb, .slice al v.l.length cl], .agg #[.int .i64 v.kind, .int .u64 v.u, .int .i64 v.n, .slice ab' v.b.length cb', .slice al' v.l.length cl']] w
      fun e w' => e = .returned (.bool true) ∧ Below w.heap.size w w' := by
  obtain ⟨k, u, n, b, l⟩ := v
  simp only at h1 h2 h3 h4 hb hl ⊢
  have b1 := (below_new w (.cells #[.int .i64 k, .int .u64 u, .int .i64 n, .slice ab b.length cb, .slice al l.length cl] 28)).trans
    ((below_new (w.alloc (.cells #[.int .i64 k, .int .u64 u, .int .i64 n, .slice ab b.length cb, .slice al l.length cl] 28)) (.cells #[.int .i64 k, .int .u64 u, .int .i64 n, .slice ab' b.length cb', .slice al' l.length cl'] 28)).mono (by simp))
  have c1 := sameBytes_any ab ab' cb cb' b b _ (Sli.below h1 b1) (Sli.below h3 b1) (by omega) (by omega)
  simp only [decide_true] at c1
  have c2 := fun W (hW : Below w.heap.size w W) => sameInts_any al al' cl cl' l l W (Sli.below h2 hW) (Sli.below h4 hW) (by omega) (by omega)
  simp only [decide_true] at c2
  have C1 := Lib.hid c1; have C2 := Lib.hid c2; have B1 := Lib.hid b1
  clear c1 c2 b1 h1 h2 h3 h4
  go_enter Try.func21, Try.ntmps21
  go_wp2_with fail
  refine C1.out.mono ?_
  rintro e w2 ⟨rfl, hb2⟩
  have B2 := Lib.hid (B1.out.trans (hb2.mono (by simp; omega)))
  have q0 := hb2.cell (p := ⟨w.heap.size, 0, none⟩) (by simp; omega)
  have q1 := hb2.cell (p := ⟨w.heap.size, 1, none⟩) (by simp; omega)
  have q2 := hb2.cell (p := ⟨w.heap.size, 2, none⟩) (by simp; omega)
  have q3 := hb2.cell (p := ⟨w.heap.size, 3, none⟩) (by simp; omega)
  have q4 := hb2.cell (p := ⟨w.heap.size, 4, none⟩) (by simp; omega)
  have p0 := hb2.cell (p := ⟨w.heap.size + 1, 0, none⟩) (by simp)
  have p1 := hb2.cell (p := ⟨w.heap.size + 1, 1, none⟩) (by simp)
  have p2 := hb2.cell (p := ⟨w.heap.size + 1, 2, none⟩) (by simp)
  have p3 := hb2.cell (p := ⟨w.heap.size + 1, 3, none⟩) (by simp)
  have p4 := hb2.cell (p := ⟨w.heap.size + 1, 4, none⟩) (by simp)
  have hz2 := hb2.size
  simp at q0 q1 q2 q3 q4 p0 p1 p2 p3 p4 hz2
  clear hb2
  go_wp2_with fail
  refine (C2.out _ B2.out).mono ?_
  rintro e w3 ⟨rfl, hb3⟩
  have B3 := Lib.hid (B2.out.trans (hb3.mono (by omega)))
  rw [← hb3.cell (p := ⟨w.heap.size, 0, none⟩) (by show w.heap.size < w2.heap.size; omega)] at q0
  rw [← hb3.cell (p := ⟨w.heap.size, 1, none⟩) (by show w.heap.size < w2.heap.size; omega)] at q1
  rw [← hb3.cell (p := ⟨w.heap.size, 2, none⟩) (by show w.heap.size < w2.heap.size; omega)] at q2
  rw [← hb3.cell (p := ⟨w.heap.size + 1, 0, none⟩) (by show w.heap.size + 1 < w2.heap.size; omega)] at p0
  rw [← hb3.cell (p := ⟨w.heap.size + 1, 1, none⟩) (by show w.heap.size + 1 < w2.heap.size; omega)] at p1
  rw [← hb3.cell (p := ⟨w.heap.size + 1, 2, none⟩) (by show w.heap.size + 1 < w2.heap.size; omega)] at p2
  clear q3 q4 p3 p4 hb3 hz2
  go_wp2
  go_ret
  exact ⟨rfl, B3.out⟩

end Go.Proofs.Ytfnpnomfdfdonaa
