/- Tokens: the walk of LexerWhole. Conditions: the tables lie in memory. -/
import Derived.Test.YtgfhhpodcnohpaaDoorLWt
import Derived.Test.YtgfhhpodcnohpaaDoorLMc
namespace Go.Proofs.YtgfhhpodcnohpaaDoor
open Go.RowKit Go.Shelf
set_option linter.unusedVariables false

theorem nonempty_str {u : ByteArray} (h : 0 < u.size) : u.toList.isEmpty = false := by
  rw [Lib.toList_data, List.isEmpty_eq_false_iff]
  intro e
  have := congrArg List.length e
  rw [List.length_nil] at this
  have h2 : u.data.toList.length = u.size := rfl
  omega

set_option maxRecDepth 100000 in
set_option maxHeartbeats 8000000 in
theorem walkWhole (s : ByteArray) (a : Option Addr) (cap : Nat) (ls : List Int) (w : World) (hT : LexW w) (hs : s.size ≤ 9223372036854775807) (h : Sli .i64 w a cap ls) (hi : ∀ n ∈ ls, -9223372036854775808 ≤ n ∧ n ≤ 9223372036854775807) :
    Calls Tryd.prog 4 #[.string s, .slice a ls.length cap] w fun e w' => e = .returned (.bool true) ∧ Below w.heap.size w w' := by
  have c1 := sources_any s a cap ls w hs h hi
  have C1 := Lib.hid c1
  have HT := Lib.hid hT
  clear c1 h hi hT
  go_enter Tryd.func4, Tryd.ntmps4
  go_wp2_with fail
  refine C1.out.mono ?_
  rintro e w2 ⟨X, rfl, hX0, hX, hdt, hb2⟩
  have HDT := Lib.hid hdt
  have HB2 := Lib.hid hb2
  have HT2 := Lib.hid (HT.out.below hb2)
  clear hdt hb2
  go_wp2_with fail
  go_loopw [6] (fun i wr => ∃ j : Nat, j ≤ 2 ∧ i = .int .i64 j ∧ Hid (Below w2.heap.size w2 wr)) (fun i _ => 2 - (intOf i).toNat)
  case atStart => exact ⟨0, by omega, rfl, Below.refl _ _⟩
  case round =>
    obtain ⟨j, hj, rfl, HR⟩ := hrel
    by_cases hlt : j < 2
    · obtain ⟨z, hc, hzl⟩ := HDT.out j hlt
      have hcr := (HR.out.cell (p := ⟨X, j, none⟩) hX).trans hc
      have hXr : X < wr.heap.size := by have := HR.out.size; omega
      have HCW : Hid (∀ W, Below wr.heap.size wr W → W.cell? ⟨X, j, none⟩ = some (.string z)) := Lib.hid fun W hW => (hW.cell (p := ⟨X, j, none⟩) hXr).trans hcr
      have HTr := Lib.hid (HT2.out.t.below HR.out)
      have hLl := lex_len (sb z).length (sb z) 0
      rw [sb_len] at hLl
      have k1 := ptoks_any z (by omega) wr HTr.out
      have hL0 : lex ((sb z).drop 0) 0 = lex (sb z) 0 := by rw [List.drop_zero]
      obtain ⟨L, hL⟩ : ∃ L, lex (sb z) 0 = L := ⟨_, rfl⟩
      rw [show lexF z.size (sb z) 0 = L by rw [← hL]; unfold lex; rw [sb_len]] at hLl
      rw [hL] at k1 hL0
      have HL0 : Hid (lex ((sb z).drop 0) 0 = L.drop 0) := hL0
      unfold NewTs at k1
      have K1 := Lib.hid k1
      have hjj : (j : Int) < 2 := by omega
      clear hc hL hL0 k1
      go_wp2_with fail
      refine K1.out.mono ?_
      rintro e w3 ⟨u, rfl, hown, hb3⟩
      obtain ⟨av, cv, rfl, hcl⟩ := trow hown rfl
      have HCL := Lib.hid hcl
      have HB3 := Lib.hid hb3
      have hsz3 := hb3.size
      obtain ⟨n, hn⟩ : ∃ n, L.length = n := ⟨_, rfl⟩
      rw [hn] at HCL hLl ⊢
      have HN := Lib.hid hn
      clear hcl hb3 hown hn
      go_wp2_with fail
      go_loopw [8, 9] (fun v8 v9 wi => ∃ k p : Nat, v9 = .int .i64 (k : Int) ∧ k ≤ n ∧ p ≤ z.size ∧ v8 = .string (z.extract 0 p) ∧ Hid (lex ((sb z).drop p) p = L.drop k) ∧ Hid (Below w3.heap.size w3 wi)) (fun _ v9 _ => n - (intOf v9).toNat)
      case atStart => exact ⟨0, 0, rfl, Nat.zero_le _, Nat.zero_le _, by rw [show z.extract 0 0 = ⟨#[]⟩ from sbInj (by rw [sbExt]; rfl)], HL0, Below.refl _ _⟩
      case round =>
        obtain ⟨k, p, rfl, hk, hp, rfl, HP, HI⟩ := hrel
        have hvs : (z.extract 0 p).size = p := by rw [ByteArray.size_extract]; omega
        by_cases hkn : k < n
        · obtain ⟨kd, m, hm0, hpm, hus, htg, hdr, _, hone, _⟩ := lex_at HP.out (show k < L.length by have := HN.out; omega)
          have hvu := ext_join z p m
          obtain ⟨v, hv⟩ : ∃ v, z.extract 0 p = v := ⟨_, rfl⟩
          obtain ⟨u, hu⟩ : ∃ u, z.extract p (p + m) = u := ⟨_, rfl⟩
          rw [hu] at hus htg hone hvu
          rw [hv] at hvs hvu ⊢
          have HVU := Lib.hid hvu
          have HDR : Hid (lex ((sb z).drop (p + m)) (p + m) = L.drop (k + 1)) := hdr
          obtain ⟨g, hg0, hg, hcell⟩ := HCL.out (by omega)
          subst hg0
          obtain ⟨c0, c1, c2⟩ := hcell wr (HI.out.block g hg) k hkn
          rw [htg] at c0 c1 c2
          simp only [tbs_sb] at c0 c1 c2
          have hu0 := nonempty_str (u := u) (by omega)
          have k2 := ptoks_any u (by omega) wr (HTr.out.below (HB3.out.trans (HI.out.mono hsz3)))
          rw [hone] at k2
          unfold NewTs at k2
          have K2 := Lib.hid k2
          have hkk : (k : Int) < (n : Int) := by omega
          have hcat : v.size + u.size ≤ 9223372036854775807 := by omega
          have hgi : g < wr.heap.size := by have := HI.out.size; omega
          have HCC : Hid (∀ W, Below wr.heap.size wr W → W.cell? ⟨g, k * 3, none⟩ = some (.int .i64 kd) ∧ W.cell? ⟨g, k * 3 + 1, none⟩ = some (.string u)) := Lib.hid fun W hW => ⟨(hW.cell (p := ⟨g, k * 3, none⟩) hgi).trans c0, (hW.cell (p := ⟨g, k * 3 + 1, none⟩) hgi).trans c1⟩
          clear hv hu htg hdr hone hcell k2 hvu
          go_wp2_with fail
          refine K2.out.mono ?_
          rintro e w4 ⟨u2, rfl, hown2, hb4⟩
          obtain ⟨a2, cap2, rfl, hcl2⟩ := trow hown2 rfl
          obtain ⟨g2, rfl, hg2, hcell2⟩ := hcl2 (by simp)
          obtain ⟨d0, d1, _⟩ := hcell2 w4 rfl 0 (by simp)
          have d0' : w4.cell? ⟨g2, 0, none⟩ = some (.int .i64 kd) := d0
          have d1' : w4.cell? ⟨g2, 1, none⟩ = some (.string u) := by
            have : tbs (tg [((kd, sb u, 0) : Tk)] 0).2.1 = u := tbs_sb u
            rw [this] at d1
            exact d1
          obtain ⟨e0, e1⟩ := HCC.out w4 hb4
          have HI4 : Hid (Below w3.heap.size w3 w4) := HI.out.trans (hb4.mono HI.out.size)
          clear hown2 hb4 hcl2 hcell2 d0 d1 c0 c1 c2
          go_wp2_with fail
          go_quiet (fail)
          go_wp2
          go_roundw
          case rel => exact ⟨k + 1, p + m, by go_num, by omega, by omega, by rw [HVU.out], HDR, below_drewN HI4.out _⟩
          case measure => simp only [RowKit.intOf, Int.toNat_natCast]; omega
        · obtain rfl : n = k := by omega
          have hpz := lex_end HP.out (by have := HN.out; omega) hp
          subst hpz
          rw [ext_all] at hvs ⊢
          have hci := HCW.out wr (HB3.out.trans (HI.out.mono hsz3))
          have HRI : Hid (Below w2.heap.size w2 wr) := HR.out.trans ((HB3.out.trans (HI.out.mono hsz3)).mono HR.out.size)
          go_wp2
          go_roundw
          case rel => exact ⟨j + 1, by omega, by go_num, HRI⟩
          case measure => simp only [RowKit.intOf, Int.toNat_natCast]; omega
    · obtain rfl : 2 = j := by omega
      have HTR := Lib.hid (HT2.out.below HR.out)
      go_wp2_with fail
      refine (lives_any _ HTR.out).mono ?_
      rintro e wf ⟨rfl, hbf⟩
      have HFF : Hid (Below w.heap.size w wf) := (HB2.out.trans (HR.out.mono HB2.out.size)).trans (hbf.mono (by have := HR.out.size; have := HB2.out.size; omega))
      clear hbf
      go_wp2
      go_ret
      exact ⟨rfl, HFF.out⟩

end Go.Proofs.YtgfhhpodcnohpaaDoor
