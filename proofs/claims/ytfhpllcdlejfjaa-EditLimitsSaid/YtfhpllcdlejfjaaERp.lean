/- The contract of around's closure: one edit for what is between two pieces, if it differs. Conditions: texts of at most 1000000000 bytes, at most 100000 edits. -/
import Derived.Test.YtfhpllcdlejfjaaEKb
import Derived.Test.YtfhpllcdlejfjaaEIp
import Derived.Test.YtfhpllcdlejfjaaEDf
import Derived.BigRegion
namespace Go.Proofs.Ytfhpllcdlejfjaa
open Go.RowKit Go.Shelf
set_option linter.unusedVariables false

set_option maxRecDepth 100000 in
set_option maxHeartbeats 4000000 in
theorem rep_any (s u : ByteArray) (bf bu bq bs bl lo f q to e : Nat) (T : Nat → Prop) (es : List Er) (w : World) (hs : s.size ≤ 1000000000) (hu : u.size ≤ 1000000000) (hf : f ≤ to) (ht : to ≤ s.size) (hq : q ≤ e) (he : e ≤ u.size) (hn : es.length ≤ 100000)
    (kf : Boxed w bf 3 (.int .i64 (f : Int))) (ku : Boxed w bu 9 (.string u)) (kq : Boxed w bq 3 (.int .i64 (q : Int))) (ks : Boxed w bs 9 (.string s)) (hI : Iv bl lo T es w) (hlo : lo ≤ bl) :
    Calls Try.prog 63 #[.int .i64 (to : Int), .int .i64 (e : Int), .pointer (some ⟨bf, 0, none⟩), .pointer (some ⟨bu, 0, none⟩), .pointer (some ⟨bq, 0, none⟩), .pointer (some ⟨bs, 0, none⟩), .pointer (some ⟨bl, 0, none⟩)] w
      fun en w' => (∃ v, en = .returned v) ∧ (∃ T', Iv bl lo T' (es ++ gap s u f to q e) w' ∧ Rnd T T' w w') ∧ Below lo w w' := by
  obtain ⟨i3, hi3, jy0, jy1, jy2⟩ := info_parts infoEd
  have hlt := hI.lt
  have hI0 := hI
  obtain ⟨v, hk, hown, hvn, hT⟩ := hI
  have hkl := hk.lt
  have a0 := kf.cell; have a1 := ku.cell; have a2 := kq.cell; have a3 := ks.cell
  obtain ⟨x, hx⟩ : ∃ x, u.extract q e = x := ⟨_, rfl⟩
  obtain ⟨y, hy⟩ : ∃ y, s.extract f to = y := ⟨_, rfl⟩
  obtain ⟨W, hW⟩ : ∃ V, w.alloc (.cells #[.int .i64 (f : Int), .int .i64 (to : Int), .string x] 32) = V := ⟨_, rfl⟩
  have z0 := (kf.alloc (.cells #[.int .i64 0, .int .i64 0, .string ⟨#[]⟩] 32)).cell
  have z1 := (ku.alloc (.cells #[.int .i64 0, .int .i64 0, .string ⟨#[]⟩] 32)).cell
  have z2 := (kq.alloc (.cells #[.int .i64 0, .int .i64 0, .string ⟨#[]⟩] 32)).cell
  have HX := Lib.hid hx; have HY := Lib.hid hy
  go_enter Try.func63, Try.ntmps63
  go_wp2_with fail
  go_region
  have kW : Blk W w.heap.size 32 #[.int .i64 (f : Int), .int .i64 (to : Int), .string x] := by rw [← hW]; exact Blk.new _ _ _
  have bW : Below w.heap.size w W := by rw [← hW]; exact (Below.refl _ _).alloc (Nat.le_refl _) _
  have k0 : W.cell? ⟨w.heap.size, 0, none⟩ = some (.int .i64 (f : Int)) := by simpa using kW.cell 0
  have k1 : W.cell? ⟨w.heap.size, 1, none⟩ = some (.int .i64 (to : Int)) := by simpa using kW.cell 1
  have k2 : W.cell? ⟨w.heap.size, 2, none⟩ = some (.string x) := by simpa using kW.cell 2
  have f0 : W.cell? ⟨bf, 0, none⟩ = some (.int .i64 (f : Int)) := (bW.cell (p := ⟨bf, 0, none⟩) kf.lt).trans a0
  have f1 : W.cell? ⟨bs, 0, none⟩ = some (.string s) := (bW.cell (p := ⟨bs, 0, none⟩) ks.lt).trans a3
  have f2 : W.cell? ⟨bl, 0, none⟩ = some v := (bW.cell (p := ⟨bl, 0, none⟩) hkl).trans (by simpa using hk.cell 0)
  have HW := Lib.hid hW; have HBW := Lib.hid bW; have HKW := Lib.hid kW
  have hff : ((f : Int) == (f : Int)) = true := by simp
  have htt : ((to : Int) == (to : Int)) = true := by simp
  clear hW bW kW a0 a1 a2 a3 z0 z1 z2 hx
  by_cases hxy : x = y
  · have hq1 : (x.toList == y.toList) = true := by rw [hxy]; simp
    have hg : gap s u f to q e = [] := by unfold gap; rw [HX.out, HY.out, if_pos hxy]
    have HG := Lib.hid hg
    clear hg
    go_wp2_with fail
    go_region
    go_wp2_with fail
    have hF : Below w.heap.size w W.drew.drew := HBW.out.drew.drew
    refine bodyPost_end (results_none rfl _ _ _) rfl ?_
    refine ⟨⟨_, rfl⟩, ⟨T, ?_, Rnd.of_below hF⟩, hF.mono (by omega)⟩
    rw [HG.out, List.append_nil]
    exact hI0.oth (Oth.of_below hF : Oth T 0 w _)
  · have hq1 : (x.toList == y.toList) = false := str_ne hxy
    have hg : gap s u f to q e = [⟨(f : Int), (to : Int), x⟩] := by unfold gap; rw [HX.out, HY.out, if_neg hxy]
    have HG := Lib.hid hg
    have HOW : Hid (World.ownsRow (W.alloc (.cells #[.int .i64 (f : Int), .int .i64 (to : Int), .string x] 32)).drew.drew lo 32 3 v es.length (rv es)) := own_same hown (fun g hg => (HBW.out.alloc HBW.out.size _).drew.drew.block g (hown.lt g hg).2)
    clear hg
    go_wp2_with fail
    go_region
    have HCN : Hid (∀ j z, ([.int .i64 (f : Int), .int .i64 (to : Int), .string x] : List Value)[j]? = some z → World.cell? (W.alloc (.cells #[.int .i64 (f : Int), .int .i64 (to : Int), .string x] 32)).drew.drew ((⟨W.heap.size, 0, none⟩ : Addr).add j) = some z) := cells_news W [.int .i64 (f : Int), .int .i64 (to : Int), .string x] _
    have HK9 : Hid (∀ w6, ((W.alloc (.cells #[.int .i64 (f : Int), .int .i64 (to : Int), .string x] 32)).drew.drew).grownBy w6 v.ownBlock → Blk w6 bl 22 #[v]) := fun w6 hg => by
      have b1 : Below W.heap.size W (W.alloc (.cells #[.int .i64 (f : Int), .int .i64 (to : Int), .string x] 32)).drew.drew := ((Below.refl _ W).alloc (Nat.le_refl _) _).drew.drew
      have hz := b1.size
      have hz2 := HBW.out.size
      have h1 : Blk W bl 22 #[v] := hk.same (HBW.out.block bl hkl)
      exact (h1.same (b1.block bl (by omega))).same (hg.block bl (by omega) (fun e => hvn e.symm))
    go_wp2_with (at_builtin; refine wpList_append_own_at _ rfl _ _ 22 rfl lo 32 i3 (.agg #[.int .i64 0, .int .i64 0, .string ⟨#[]⟩]) 3 32 Try.underlying22 hi3 jy0 jy1 jy2 rfl (by decide) v es.length (rv es) rfl HOW.out ⟨W.heap.size, 0, none⟩ 1 1 [.int .i64 (f : Int), .int .i64 (to : Int), .string x] rfl rfl HCN.out (fun x hx => by simp at hx; rcases hx with rfl | rfl | rfl <;> rfl) (by unfold maxLen; omega) (by omega) (by have := HBW.out.size; have := hown.1; show lo ≤ (World.alloc W _).heap.size; rw [World.size_alloc]; omega) ?_; intro v' w6 hown6 hgrow6 _ hat6; obtain ⟨ao, co, rfl⟩ := own_slice hown6; have hk6 := HK9.out w6 hgrow6; have c8 : w6.cell? ⟨bl, 0, none⟩ = some v := (by simpa using hk6.cell 0); have f8 := hk6.frozen 0)
    have hb1 : Below w.heap.size w (W.alloc (.cells #[.int .i64 (f : Int), .int .i64 (to : Int), .string x] 32)).drew.drew := (HBW.out.alloc HBW.out.size _).drew.drew
    obtain ⟨T', hI', hR'⟩ := Iv.step (e := ⟨(f : Int), (to : Int), x⟩) hk hvn hT hown hb1 hown6 hgrow6 hat6
    have hF7 : Below lo w (w6.setCell ⟨bl, 0, none⟩ (.slice ao (es.length + 1) co)) := ((hb1.mono (by omega)).grown hgrow6 (by have := hb1.size; omega) (fun g hg => (hown.lt g hg).1)).setCell (p := ⟨bl, 0, none⟩) hlo _
    refine bodyPost_end (results_none rfl _ _ _) rfl ?_
    refine ⟨⟨_, rfl⟩, ⟨T', ?_, hR'⟩, hF7⟩
    rw [HG.out]
    exact hI'

end Go.Proofs.Ytfhpllcdlejfjaa
