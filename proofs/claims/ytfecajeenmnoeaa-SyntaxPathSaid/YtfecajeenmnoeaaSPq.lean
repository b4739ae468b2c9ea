/- The law's paths: both Paths agree. Conditions: tidy trees of at most 100000 nodes and 1000000 bytes. -/
import Derived.Test.YtfecajeenmnoeaaSRq
import Derived.Test.YtfecajeenmnoeaaSameInts
namespace Go.Proofs.Ytfecajeenmnoeaa
open Go.RowKit Go.Shelf
set_option linter.unusedVariables false

set_option maxRecDepth 100000 in
set_option maxHeartbeats 8000000 in
theorem paths_any (t : Nd) (a : Option Addr) (n cap : Nat) (o : Int) (w : World) (G : Nat → Prop) (hK : KV G w a n cap t.kids) (htd : t.tidy) (hc : t.cnt ≤ 100000) (hw : t.pw ≤ 1000000) (ho1 : -9223372036854775808 ≤ o) (ho2 : o ≤ 9223372036854775807) :
    Calls Try.prog 15 #[ndv t a n cap, .int .i64 o] w fun e w' => e = .returned (.bool true) ∧ Below w.heap.size w w' := by
  obtain ⟨q, hq⟩ : ∃ q, w.heap.size = q := ⟨_, rfl⟩
  obtain ⟨w2, hw2⟩ : ∃ W, w.alloc (.cells (ndc t a n cap) 25) = W := ⟨_, rfl⟩
  have b2 : Below w.heap.size w w2 := by rw [← hw2]; exact (Below.refl _ _).alloc (Nat.le_refl _) _
  have k2 : Blk w2 q 25 (ndc t a n cap) := by rw [← hw2, ← hq]; exact Blk.new _ _ _
  have hkv2 := hK.on b2
  have hpl := pw_lf t htd
  have HS : Hid (∀ W, Below w2.heap.size w2 W → W.cell? ⟨q, 0, none⟩ = some (.int .i64 t.id) ∧ W.cell? ⟨q, 1, none⟩ = some (.int .i64 t.kind) ∧ W.cell? ⟨q, 2, none⟩ = some (.string t.text) ∧ W.cell? ⟨q, 3, none⟩ = some (.slice a n cap)) := fun W hW => by
    have kk := k2.same (hW.block q k2.lt)
    exact ⟨kk.cell 0, kk.cell 1, kk.cell 2, kk.cell 3⟩
  obtain ⟨ST, hST⟩ : ∃ z, cat t.lf = z := ⟨_, rfl⟩
  have hsz : ST.size ≤ 1000000 := by rw [← hST, cat_size]; omega
  have HRT : Hid (∀ W, Below w2.heap.size w2 W → Calls Try.prog 37 #[ndv t a n cap] W fun e w' => e = .returned (.string ST) ∧ Below W.heap.size W w') := fun W hW => by rw [← hST]; exact rText_any t a n cap W _ (hkv2.on hW) hc (by omega)
  have HPP : Hid (∀ W (o' : Int), Below w2.heap.size w2 W → -9223372036854775808 ≤ o' → o' ≤ 9223372036854775807 → Calls Try.prog 33 #[ndv t a n cap, .int .i64 o'] W (PathP t o' W)) := fun W o' hW h1 h2 => ppath_any t a n cap o' W _ (hkv2.on hW) hc (by omega) ⟨h1, h2⟩
  have HRP : Hid (∀ W (o' : Int), Below w2.heap.size w2 W → -9223372036854775808 ≤ o' → o' ≤ 9223372036854775807 → Calls Try.prog 49 #[ndv t a n cap, .int .i64 o'] W (RPathP t o' W)) := fun W o' hW h1 h2 => rpath_any t.dep t a n cap o' W _ (Nat.le_refl _) (hkv2.on hW) hc hw htd h1 h2
  have HD : Hid (∀ (o' : Int) s s', s ∈ lspots t → s' ∈ lspots t → Hit o' s → Hit o' s' → s = s') := fun o' s s' h1 h2 h3 h4 => hit_det htd h1 h2 h3 h4
  have HL : Hid (∀ s ∈ lspots t, s.path.length ≤ 100000) := fun s hs => by have h1 := (off_leaf hs).2; have h2 := t.dep_cnt; omega
  obtain ⟨id, hid⟩ : ∃ x, t.id = x := ⟨_, rfl⟩
  obtain ⟨kd, hkd⟩ : ∃ x, t.kind = x := ⟨_, rfl⟩
  obtain ⟨tx, htx⟩ : ∃ x, t.text = x := ⟨_, rfl⟩
  obtain ⟨S, hS⟩ : ∃ x, ST.size = x := ⟨_, rfl⟩
  unfold ndv at HRT HPP HRP
  unfold ndc at hw2
  rw [hid, hkd, htx] at HRT HPP HRP HS hw2
  rw [hS] at hsz
  have HW2 := Lib.hid hw2; have HQ := Lib.hid hq; have HB2 := Lib.hid b2; have HSZ := Lib.hid hS
  unfold ndv
  rw [hid, hkd, htx]
  clear hK htd hc hw hq hw2 b2 k2 hkv2 hpl hST hid hkd htx
  go_enter Try.func15, Try.ntmps15
  go_wp2_with fail
  rw [HW2.out, HQ.out]
  go_loopw [5] (fun g wr => ∃ j : Int, g = .int .i64 j ∧ -2 ≤ j ∧ j ≤ (S : Int) + 1 ∧ Hid (Below w2.heap.size w2 wr)) (fun g _ => ((S : Int) + 1 - (match g with | .int _ z => z | _ => 0)).toNat)
  case atStart => exact ⟨-2, rfl, by omega, by omega, Lib.hid (Below.refl _ _)⟩
  case round =>
    obtain ⟨j, rfl, hj1, hj2, HR⟩ := hrel
    obtain ⟨c0, c1, c2, c3⟩ := HS.out wr HR.out
    have m1 : IntKind.i64.wrap (j + 1) = j + 1 := by simp [IntKind.wrap, IntKind.signed, IntKind.bits]; omega
    by_cases hjs : j ≤ (S : Int)
    · have hjs2 : j ≤ (ST.size : Int) := by omega
      by_cases hje : j = -2
      · subst hje
        go_wp2_with fail
        refine (HRT.out wr HR.out).mono ?_
        rintro e w3 ⟨rfl, b3⟩
        have HR3 : Hid (Below w2.heap.size w2 w3) := HR.out.trans (b3.mono HR.out.size)
        clear b3 c0 c1 c2 c3
        obtain ⟨c0, c1, c2, c3⟩ := HS.out w3 HR3.out
        go_wp2_with fail
        refine (HPP.out w3 o HR3.out (by omega) (by omega)).mono ?_
        rintro e w4 ⟨b4, ⟨k, s, v, hk, _, hh, rfl, hown⟩ | ⟨hno, rfl⟩⟩
        · have HR4 : Hid (Below w2.heap.size w2 w4) := HR3.out.trans (b4.mono HR3.out.size)
          have hs := List.mem_of_getElem? hk
          have HHIT := Lib.hid (And.intro hs hh)
          have HOWN := Lib.hid hown
          clear b4 hk hs hh hown c0 c1 c2 c3
          obtain ⟨c0, c1, c2, c3⟩ := HS.out w4 HR4.out
          go_wp2_with fail
          refine (HRP.out w4 o HR4.out (by omega) (by omega)).mono ?_
          rintro e w5 ⟨b5, ⟨s', v', hs', hh', rfl, hown'⟩ | ⟨hno', _⟩⟩
          · have he := HD.out o s s' HHIT.out.1 hs' HHIT.out.2 hh'
            subst he
            have HR5 : Hid (Below w2.heap.size w2 w5) := HR4.out.trans (b5.mono HR4.out.size)
            have hown5 := own_same HOWN.out (C := w5) (fun g hg => b5.block g (HOWN.out.lt g hg).2)
            obtain ⟨pa, pc, rfl, hpa⟩ := sli_intsP hown5
            obtain ⟨qa, qc, rfl, hqa⟩ := sli_intsP hown'
            have hlz : (zi s.path).length = s.path.length := by simp
            have hl5 := HL.out s HHIT.out.1
            have hSI := sameInts_any pa qa pc qc (zi s.path) (zi s.path) w5 hpa hqa (by omega) (by omega)
            rw [decide_eq_true rfl, hlz] at hSI
            obtain ⟨L, hLL⟩ : ∃ z, s.path.length = z := ⟨_, rfl⟩
            rw [hLL] at hSI ⊢
            have HSI := Lib.hid hSI
            clear hs' hh' hown' hown5 hpa hqa hlz hl5 hSI hLL b5 c0 c1 c2 c3
            go_wp2_with fail
            refine HSI.out.mono ?_
            rintro e w6 ⟨rfl, b6⟩
            have HR6 : Hid (Below w2.heap.size w2 w6) := HR5.out.trans (b6.mono HR5.out.size)
            clear b6
            go_wp2
            go_roundw
            case rel => exact ⟨_, by go_num, by omega, by omega, HR6⟩
            case measure => simp; omega
          · exact absurd HHIT.out.2 (hno' s HHIT.out.1)
        · have HR4 : Hid (Below w2.heap.size w2 w4) := HR3.out.trans (b4.mono HR3.out.size)
          have HNO := Lib.hid hno
          clear b4 hno c0 c1 c2 c3
          obtain ⟨c0, c1, c2, c3⟩ := HS.out w4 HR4.out
          go_wp2_with fail
          refine (HRP.out w4 o HR4.out (by omega) (by omega)).mono ?_
          rintro e w5 ⟨b5, ⟨s', v', hs', hh', _⟩ | ⟨hno', rfl⟩⟩
          · exact absurd hh' (HNO.out s' hs')
          · have HR5 : Hid (Below w2.heap.size w2 w5) := HR4.out.trans (b5.mono HR4.out.size)
            have hSI := sameInts_any none none 0 0 [] [] w5 ⟨Nat.le_refl _, by omega, fun _ => rfl, .inl rfl⟩ ⟨Nat.le_refl _, by omega, fun _ => rfl, .inl rfl⟩ (by simp) (by simp)
            rw [decide_eq_true rfl] at hSI
            have HSI : Hid (Calls Try.prog 27 #[.slice none 0 0, .slice none 0 0] w5 fun e w' => e = .returned (.bool true) ∧ Below w5.heap.size w5 w') := hSI
            clear hno' hSI b5 c0 c1 c2 c3
            go_wp2_with fail
            refine HSI.out.mono ?_
            rintro e w6 ⟨rfl, b6⟩
            have HR6 : Hid (Below w2.heap.size w2 w6) := HR5.out.trans (b6.mono HR5.out.size)
            clear b6
            go_wp2
            go_roundw
            case rel => exact ⟨_, by go_num, by omega, by omega, HR6⟩
            case measure => simp; omega
      · skip
        go_wp2_with fail
        refine (HRT.out wr HR.out).mono ?_
        rintro e w3 ⟨rfl, b3⟩
        have HR3 : Hid (Below w2.heap.size w2 w3) := HR.out.trans (b3.mono HR.out.size)
        clear b3 c0 c1 c2 c3
        obtain ⟨c0, c1, c2, c3⟩ := HS.out w3 HR3.out
        go_wp2_with fail
        refine (HPP.out w3 j HR3.out (by omega) (by omega)).mono ?_
        rintro e w4 ⟨b4, ⟨k, s, v, hk, _, hh, rfl, hown⟩ | ⟨hno, rfl⟩⟩
        · have HR4 : Hid (Below w2.heap.size w2 w4) := HR3.out.trans (b4.mono HR3.out.size)
          have hs := List.mem_of_getElem? hk
          have HHIT := Lib.hid (And.intro hs hh)
          have HOWN := Lib.hid hown
          clear b4 hk hs hh hown c0 c1 c2 c3
          obtain ⟨c0, c1, c2, c3⟩ := HS.out w4 HR4.out
          go_wp2_with fail
          refine (HRP.out w4 j HR4.out (by omega) (by omega)).mono ?_
          rintro e w5 ⟨b5, ⟨s', v', hs', hh', rfl, hown'⟩ | ⟨hno', _⟩⟩
          · have he := HD.out j s s' HHIT.out.1 hs' HHIT.out.2 hh'
            subst he
            have HR5 : Hid (Below w2.heap.size w2 w5) := HR4.out.trans (b5.mono HR4.out.size)
            have hown5 := own_same HOWN.out (C := w5) (fun g hg => b5.block g (HOWN.out.lt g hg).2)
            obtain ⟨pa, pc, rfl, hpa⟩ := sli_intsP hown5
            obtain ⟨qa, qc, rfl, hqa⟩ := sli_intsP hown'
            have hlz : (zi s.path).length = s.path.length := by simp
            have hl5 := HL.out s HHIT.out.1
            have hSI := sameInts_any pa qa pc qc (zi s.path) (zi s.path) w5 hpa hqa (by omega) (by omega)
            rw [decide_eq_true rfl, hlz] at hSI
            obtain ⟨L, hLL⟩ : ∃ z, s.path.length = z := ⟨_, rfl⟩
            rw [hLL] at hSI ⊢
            have HSI := Lib.hid hSI
            clear hs' hh' hown' hown5 hpa hqa hlz hl5 hSI hLL b5 c0 c1 c2 c3
            go_wp2_with fail
            refine HSI.out.mono ?_
            rintro e w6 ⟨rfl, b6⟩
            have HR6 : Hid (Below w2.heap.size w2 w6) := HR5.out.trans (b6.mono HR5.out.size)
            clear b6
            go_wp2
            go_roundw
            case rel => exact ⟨_, by go_num, by omega, by omega, HR6⟩
            case measure => simp; omega
          · exact absurd HHIT.out.2 (hno' s HHIT.out.1)
        · have HR4 : Hid (Below w2.heap.size w2 w4) := HR3.out.trans (b4.mono HR3.out.size)
          have HNO := Lib.hid hno
          clear b4 hno c0 c1 c2 c3
          obtain ⟨c0, c1, c2, c3⟩ := HS.out w4 HR4.out
          go_wp2_with fail
          refine (HRP.out w4 j HR4.out (by omega) (by omega)).mono ?_
          rintro e w5 ⟨b5, ⟨s', v', hs', hh', _⟩ | ⟨hno', rfl⟩⟩
          · exact absurd hh' (HNO.out s' hs')
          · have HR5 : Hid (Below w2.heap.size w2 w5) := HR4.out.trans (b5.mono HR4.out.size)
            have hSI := sameInts_any none none 0 0 [] [] w5 ⟨Nat.le_refl _, by omega, fun _ => rfl, .inl rfl⟩ ⟨Nat.le_refl _, by omega, fun _ => rfl, .inl rfl⟩ (by simp) (by simp)
            rw [decide_eq_true rfl] at hSI
            have HSI : Hid (Calls Try.prog 27 #[.slice none 0 0, .slice none 0 0] w5 fun e w' => e = .returned (.bool true) ∧ Below w5.heap.size w5 w') := hSI
            clear hno' hSI b5 c0 c1 c2 c3
            go_wp2_with fail
            refine HSI.out.mono ?_
            rintro e w6 ⟨rfl, b6⟩
            have HR6 : Hid (Below w2.heap.size w2 w6) := HR5.out.trans (b6.mono HR5.out.size)
            clear b6
            go_wp2
            go_roundw
            case rel => exact ⟨_, by go_num, by omega, by omega, HR6⟩
            case measure => simp; omega
    · have hjs2 : ¬ j ≤ (ST.size : Int) := by omega
      go_wp2_with fail
      refine (HRT.out wr HR.out).mono ?_
      rintro e w3 ⟨rfl, b3⟩
      have HF := Lib.hid (HB2.out.trans ((HR.out.trans (b3.mono HR.out.size)).mono HB2.out.size))
      clear b3
      go_wp2
      go_ret
      exact ⟨rfl, HF.out⟩

end Go.Proofs.Ytfecajeenmnoeaa
