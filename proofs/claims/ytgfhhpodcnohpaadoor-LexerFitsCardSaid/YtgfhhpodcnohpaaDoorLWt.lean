/- Tokens: the sources of a law; the walk of LexerTokens. Conditions: the tables lie in memory. -/
import Derived.Test.YtgfhhpodcnohpaaDoorLLi
import Derived.Test.YtgfhhpodcnohpaaDoorLRi
import Derived.Test.YtgfhhpodcnohpaaDoorLRf
import Derived.Test.YtgfhhpodcnohpaaDoorShort
import Derived.Shelf.RegionOpen
namespace Go.Proofs.YtgfhhpodcnohpaaDoor
open Go.RowKit Go.Shelf
set_option linter.unusedVariables false

set_option maxRecDepth 100000 in
set_option maxHeartbeats 1000000 in
theorem sources_any (s : ByteArray) (a : Option Addr) (cap : Nat) (ls : List Int) (w : World) (hs : s.size ≤ 9223372036854775807) (h : Sli .i64 w a cap ls) (hi : ∀ n ∈ ls, -9223372036854775808 ≤ n ∧ n ≤ 9223372036854775807) :
    Calls Tryd.prog 12 #[.string s, .slice a ls.length cap] w fun e w' => ∃ X, e = .returned (.slice (some ⟨X, 0, none⟩) 2 2) ∧ w.heap.size ≤ X ∧ X < w'.heap.size ∧ (∀ j, j < 2 → ∃ z, w'.cell? ⟨X, j, none⟩ = some (.string z) ∧ z.size ≤ 400) ∧ Below w.heap.size w w' := by
  have c1 := source_any a cap ls w h hi
  have C1 := Lib.hid c1
  clear c1 h hi
  obtain ⟨S, hS⟩ : ∃ S, shS s 60 = S := ⟨_, rfl⟩
  have cS := fun W => short_any s 60 W hs (by omega)
  have hSl : S.size ≤ 60 := by rw [← hS]; exact shS_size s 60
  rw [hS] at cS
  have CS := Lib.hid cS
  clear cS hS
  go_enter Tryd.func12, Tryd.ntmps12
  go_wp2_with fail
  refine (CS.out _).mono ?_
  rintro e w' ⟨rfl, rfl⟩
  go_wp2_with fail
  refine C1.out.mono ?_
  rintro e w1 ⟨T, rfl, hTl, hb1⟩
  obtain ⟨w2, hw2⟩ : ∃ W, w1.alloc (.cells #[.string S, .string T] 9) = W := ⟨_, rfl⟩
  obtain ⟨X, hX⟩ : ∃ X, w1.heap.size = X := ⟨_, rfl⟩
  have bX : Blk w2 X 9 #[.string S, .string T] := by rw [← hw2, ← hX]; exact Blk.new _ _ _
  have hb2 : Below w.heap.size w w2 := by rw [← hw2]; exact hb1.alloc (by have := hb1.size; omega) _
  have hs2 : w2.heap.size = X + 1 := by rw [← hw2, World.size_alloc, hX]
  have HDT : Hid (∀ j, j < 2 → ∃ z, w2.cell? ⟨X, j, none⟩ = some (.string z) ∧ z.size ≤ 400) := by
    intro j hj
    have : j = 0 ∨ j = 1 := by omega
    rcases this with rfl | rfl
    · exact ⟨S, bX.cell 0, by omega⟩
    · exact ⟨T, bX.cell 1, by omega⟩
  have hsz1 := hb1.size
  have HX := Lib.hid hX; have HW2 := Lib.hid hw2; have HS2 := Lib.hid hs2; have HB2 := Lib.hid hb2
  clear hX hw2 bX hs2 hb2 hb1
  go_wp2_with fail
  rw [HX.out, show w1.alloc (.cells #[.string S, .string T] 9) = w2 from HW2.out]
  go_ret
  exact ⟨X, rfl, by have := HX.out; omega, by have := HS2.out; omega, HDT.out, HB2.out⟩

set_option maxRecDepth 100000 in
set_option maxHeartbeats 8000000 in
theorem walkTokens (s : ByteArray) (a : Option Addr) (cap : Nat) (ls : List Int) (w : World) (hT : LexW w) (hs : s.size ≤ 9223372036854775807) (h : Sli .i64 w a cap ls) (hi : ∀ n ∈ ls, -9223372036854775808 ≤ n ∧ n ≤ 9223372036854775807) :
    Calls Tryd.prog 3 #[.string s, .slice a ls.length cap] w fun e w' => e = .returned (.bool true) ∧ Below w.heap.size w w' := by
  have c1 := sources_any s a cap ls w hs h hi
  have C1 := Lib.hid c1
  have HT := Lib.hid hT
  clear c1 h hi hT
  go_enter Tryd.func3, Tryd.ntmps3
  go_wp2_with fail
  refine C1.out.mono ?_
  rintro e w2 ⟨X, rfl, hX0, hX, hdt, hb2⟩
  have HDT := Lib.hid hdt
  have HB2 := Lib.hid hb2
  have HT2 := Lib.hid (HT.out.below hb2)
  clear hdt hb2
  go_wp2_with fail
  go_loopw [6] (fun i wr => ∃ j : Nat, j ≤ 2 ∧ i = .int .i64 j ∧ Hid (Below w2.heap.size w2 wr)) (fun i _ => 2 - (intOf i).toNat)
  case atStart => exact ⟨0, by omega, rfl, Below.refl _ _⟩
  case round =>
    obtain ⟨j, hj, rfl, HR⟩ := hrel
    by_cases hlt : j < 2
    · obtain ⟨z, hc, hzl⟩ := HDT.out j hlt
      have hcr := (HR.out.cell (p := ⟨X, j, none⟩) hX).trans hc
      have hXr : X < wr.heap.size := by have := HR.out.size; omega
      have hcw : ∀ W, Below wr.heap.size wr W → W.cell? ⟨X, j, none⟩ = some (.string z) := fun W hW => (hW.cell (p := ⟨X, j, none⟩) hXr).trans hcr
      have hTr : LexT wr := HT2.out.t.below HR.out
      have hLl := lex_len (sb z).length (sb z) 0
      rw [sb_len] at hLl
      have hrs := rsame_any (lex (sb z) 0)
      have k1 := fun W h => ptoks_any z (by omega) W h
      have k2 := fun W => rtoks_any z (by omega) W
      obtain ⟨L, hL⟩ : ∃ L, lex (sb z) 0 = L := ⟨_, rfl⟩
      rw [show lexF z.size (sb z) 0 = L by rw [← hL]; unfold lex; rw [sb_len]] at hLl
      rw [hL] at hrs k1 k2
      unfold NewTs at k1 k2
      have K1 : Hid (∀ W, Below wr.heap.size wr W → Calls Tryd.prog 14 #[.string z] W fun e w' => ∃ u, e = .returned u ∧ w'.ownsRow W.heap.size 31 3 u L.length (tks L) ∧ Below W.heap.size W w' ∧ Below wr.heap.size wr w' ∧ w'.cell? ⟨X, j, none⟩ = some (.string z)) := by
        intro W hW
        refine (k1 W (hTr.below hW)).mono ?_
        rintro e w' ⟨u, rfl, ho, hb⟩
        have hb2 := hW.trans (hb.mono hW.size)
        exact ⟨u, rfl, ho, hb, hb2, hcw _ hb2⟩
      have K2 : Hid (∀ W, Below wr.heap.size wr W → Calls Tryd.prog 15 #[.string z] W fun e w' => ∃ u, e = .returned u ∧ w'.ownsRow W.heap.size 31 3 u L.length (tks L) ∧ Below W.heap.size W w' ∧ Below wr.heap.size wr w' ∧ w'.cell? ⟨X, j, none⟩ = some (.string z)) := by
        intro W hW
        refine (k2 W).mono ?_
        rintro e w' ⟨u, rfl, ho, hb⟩
        have hb2 := hW.trans (hb.mono hW.size)
        exact ⟨u, rfl, ho, hb, hb2, hcw _ hb2⟩
      have K5 : Hid (∀ W b1 b2 u v, W.ownsRow b1 31 3 u L.length (tks L) → W.ownsRow b2 31 3 v L.length (tks L) → Below wr.heap.size wr W → Calls Tryd.prog 13 #[u, v] W fun e w' => e = .returned (.bool true) ∧ Below wr.heap.size wr w' ∧ w'.cell? ⟨X, j, none⟩ = some (.string z)) := by
        intro W b1 b2 u v h1 h2 hW
        refine (hrs u v b1 b2 W (by omega) h1 h2).mono ?_
        rintro e w' ⟨rfl, hb⟩
        exact ⟨rfl, hW.trans (hb.mono hW.size), hcw _ (hW.trans (hb.mono hW.size))⟩
      have KS : Hid (∀ (W W' : World) (b : Nat) (u : Value), W.ownsRow b 31 3 u L.length (tks L) → Below W.heap.size W W' → W'.ownsRow b 31 3 u L.length (tks L)) := Lib.hid fun W W' b u ho hb => own_same ho (fun g hg => hb.block g (ho.lt g hg).2)
      have hjj : (j : Int) < 2 := by omega
      have b0 : Below wr.heap.size wr wr.drew := (Below.refl _ _).drew
      clear hc hcw hL hLl hrs k1 k2 hTr
      go_wp2_with fail
      go_region_held3 (fun w' => w'.cell? ⟨X, j, none⟩ = some (.string z)) (first | exact cF | exact cE | exact cD | exact hcr)
        (first
        | (go_at_call 14; refine (K1.out _ (by first | exact bE | exact b0)).mono ?_; rintro e wD ⟨uD, rfl, oD, tD, bD, cD⟩)
        | (go_at_call 15; refine (K2.out _ (by first | exact bD | exact b0)).mono ?_; rintro e wE ⟨uE, rfl, oE, tE, bE, cE⟩)
        | (go_at_call 13; refine (K5.out _ _ _ _ _ (by first | exact oD | exact KS.out _ _ _ _ oD tE) (by first | exact oE | exact KS.out _ _ _ _ oE tD) (by first | exact bE | exact bD)).mono ?_; rintro e wF ⟨rfl, bF, cF⟩; have H6 : Hid (Below w2.heap.size w2 wF) := HR.out.trans (bF.mono HR.out.size); clear bF))
      all_goals
        go_wp2
        go_roundw
        case rel => exact ⟨j + 1, by omega, by go_num, H6⟩
        case measure => simp [intOf]; omega
    · obtain rfl : 2 = j := by omega
      have HTR := Lib.hid (HT2.out.below HR.out)
      go_wp2_with fail
      refine (lives_any _ HTR.out).mono ?_
      rintro e wf ⟨rfl, hbf⟩
      have HFF : Hid (Below w.heap.size w wf) := (HB2.out.trans (HR.out.mono HB2.out.size)).trans (hbf.mono (by have := HR.out.size; have := HB2.out.size; omega))
      clear hbf
      go_wp2
      go_ret
      exact ⟨rfl, HFF.out⟩

end Go.Proofs.YtgfhhpodcnohpaaDoor
