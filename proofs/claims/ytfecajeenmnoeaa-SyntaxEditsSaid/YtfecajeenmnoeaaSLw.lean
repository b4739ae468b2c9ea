/- The program's leaves: its iterator's contract. Conditions: trees of at most 100000 nodes and 1000000000 bytes. -/
import Derived.Test.YtfecajeenmnoeaaSLv
namespace Go.Proofs.Ytfecajeenmnoeaa
open Go.RowKit Go.Shelf
set_option linter.unusedVariables false
attribute [local go_sem] Oper.semAt_some

theorem SH.kind {w : World} {ad : List Nat → Nat × Nat} {t : Nd} {p : List Nat} (h : SH w ad t p) : w.cell? ⟨(ad p).1, (ad p).2 + 1, none⟩ = some (.int .i64 t.kind) := by
  cases h with
  | mk hb h1 h2 h3 hle hmx ha hk => exact h1
theorem SH.txt {w : World} {ad : List Nat → Nat × Nat} {t : Nd} {p : List Nat} (h : SH w ad t p) : w.cell? ⟨(ad p).1, (ad p).2 + 2, none⟩ = some (.string t.text) := by
  cases h with
  | mk hb h1 h2 h3 hle hmx ha hk => exact h2
/-- A row of cells is not the record of a loop. -/
theorem own_row_ne {w : World} {b n l g : Nat} {e : TypeId} {v : Value} {xs : List Value} (h : w.ownsRow b e 1 v n xs) (hl : ∃ r, w.heap[l]? = some (.loop r)) (hg : v.ownBlock = some g) : g ≠ l := by
  rintro rfl
  obtain ⟨r, hr⟩ := hl
  rcases h.2 with ⟨rfl, _⟩ | ⟨g', cap, cur, rfl, h1, h2, _⟩
  · simp [Value.ownBlock] at hg
  · simp only [Value.ownBlock, Option.some.injEq] at hg
    subst hg
    rw [hr] at h2; cases h2

set_option maxRecDepth 100000 in
set_option maxHeartbeats 4000000 in
theorem leaves_giw (ad : List Nat → Nat × Nat) (t : Nd) (bl : Nat) (w : World) (hbl : Boxed w bl 82 (.pointer (some ⟨(ad []).1, (ad []).2, none⟩))) (hc : t.cnt ≤ 100000) (hw : t.pw ≤ 1000000000) :
    Giw 68 #[.pointer (some ⟨bl, 0, none⟩)] ad t (lspots t) w := by
  intro l J St T₀ W hW hlW hZ hO hOs hSh hY h0
  obtain ⟨y, hy⟩ : ∃ y, W.heap.size = y := ⟨_, rfl⟩
  rw [hy] at hO hOs hY hlW
  have hbw : Boxed W bl 82 (.pointer (some ⟨(ad []).1, (ad []).2, none⟩)) := (hW.block bl hbl.lt).trans hbl
  obtain ⟨W2, hW2⟩ : ∃ W2, (W.alloc (.cells #[.func (.yield l) #[] #[]] 107)).alloc (.cells #[.pointer (some ⟨(ad []).1, (ad []).2, none⟩)] 82) = W2 := ⟨_, rfl⟩
  have hb2 : Below y W W2 := by rw [← hW2, ← hy]; exact ((Below.refl _ W).alloc (Nat.le_refl _) _).alloc (by simp) _
  have hs2 : W2.heap.size = y + 2 := by rw [← hW2, ← hy]; simp
  have e1 : Boxed W2 y 107 (.func (.yield l) #[] #[]) := by rw [← hW2, ← hy]; exact (Boxed.new W _ _).alloc _
  have e2 : Boxed W2 (y + 1) 82 (.pointer (some ⟨(ad []).1, (ad []).2, none⟩)) := by
    rw [← hW2, ← hy]
    have := Boxed.new (W.alloc (.cells #[.func (.yield l) #[] #[]] 107)) 82 (.pointer (some ⟨(ad []).1, (ad []).2, none⟩))
    rwa [World.size_alloc] at this
  have HG := Lib.hid (places_giw ad t (y + 1) W2 e2 hc hw)
  have cz := (hbw.alloc (.cells #[.func (.yield l) #[] #[]] 107)).cell
  have HZ := Lib.hid hZ; have HO := Lib.hid hO; have HOS := Lib.hid hOs; have HSH := Lib.hid hSh; have HY := Lib.hid hY; have HW := Lib.hid hy; have H0 := Lib.hid h0
  have HW2 := Lib.hid hW2; have HS2 := Lib.hid hs2; have HB2 := Lib.hid hb2; have HE1 := Lib.hid e1
  have HT0 : Hid (∀ j, T₀ j → j < y) := fun j hj => by rw [← hy]; exact hZ _ _ _ h0 j hj
  have hmx : Try.prog.follows .mixedOrders = true := by kernel_rfl
  obtain ⟨rp, hrp⟩ : ∃ rp, (some ⟨(ad []).1, (ad []).2, none⟩ : Option Addr) = rp := ⟨_, rfl⟩
  rw [hrp] at cz HW2
  clear hW hbl hc hw hZ hO hOs hSh hY h0 hbw e1 e2 hW2 hs2 hb2 hy hrp
  refine callsIn_of_wp_marks Try.func68 rfl trivial ?_ rfl
  simp only [Try.ntmps68, List.size_toArray, List.length_cons, List.length_nil, Nat.reduceAdd, Nat.reduceSub, Array.replicate_succ, Array.replicate_zero, List.push_toArray, List.append_toArray, List.nil_append, List.cons_append]
  gi_wp2_with (first | (refine ⟨trivial, rfl, ?_⟩; gi_at_call 55; refine (callsIn_wide.2 (places_any _ _)).mono ?_; rintro e w' ⟨rfl, rfl⟩))
  rw [show (W.alloc (.cells #[.func (.yield l) #[] #[]] 107)).alloc (.cells #[.pointer rp] 82) = W2 from HW2.out]
  have hG := HG.out
  rw [HW.out]
  refine wpIn_giw (gf := 65) (lb := #[.pointer (some ⟨y + 1, 0, none⟩)]) rfl (enters_of Try.func65 (by kernel_rfl) rfl) hG rfl
    (fun k T A => ∃ T1, (∀ j, T j ↔ (T1 j ∨ j = l)) ∧ J (lcn t k) T1 A ∧ Boxed A y 107 (.func (.yield l) #[] #[]) ∧ ¬ T1 y ∧ y + 2 ≤ A.heap.size)
    (fun T A => ∃ T1, (∀ j, T j ↔ (T1 j ∨ j = l)) ∧ St T1 A)
    ?hI ?hSt ?hS ?hSh (fun j => T₀ j ∨ j = l) ?hT ?h0 ?hround ?hdone ?hret
  case hI =>
    rintro k T A C ⟨T1, h1, h2, h3, h4, h5⟩ ho
    rw [HS2.out] at ho
    have ho1 : Oth T1 y A C := ho.mono (by omega) (fun j hj => (h1 j).2 (.inl hj))
    exact ⟨T1, h1, HO.out _ _ _ _ h2 ho1, (ho.block y (by omega) (.inl (by omega))).trans h3, h4, by have := ho.size; omega⟩
  case hSt =>
    rintro T A C ⟨T1, h1, h2⟩ ho
    rw [HS2.out] at ho
    exact ⟨T1, h1, HOS.out _ _ _ h2 (ho.mono (by omega) (fun j hj => (h1 j).2 (.inl hj)))⟩
  case hS =>
    rintro k T A ⟨T1, h1, h2, h3, h4, h5⟩ j hj
    rcases (h1 j).1 hj with h | rfl
    · exact HZ.out _ _ _ h2 j h
    · omega
  case hSh =>
    rintro k T A ⟨T1, h1, h2, _⟩
    exact HSH.out _ _ _ h2
  case hT =>
    intro k hk
    rw [HS2.out]
    exact hk.elim (fun h => by have := HT0.out k h; omega) (fun h => by omega)
  case h0 =>
    refine ⟨T₀, fun j => Iff.rfl, ?_, HE1.out, fun h => by have := HT0.out y h; omega, by rw [HS2.out]; omega⟩
    rw [lcn_zero]
    exact HO.out _ _ _ _ H0.out (Oth.of_below (by rw [HW.out]; exact HB2.out))
  case hround =>
    rintro l' k hk T A pa pc hl hlA hlr hTl ⟨T1, h1, h2, h3, h4, h5⟩ hrow hnR
    obtain ⟨s, hs⟩ : ∃ s, (spots t [] 0)[k] = s := ⟨_, rfl⟩
    have hSHs := SH.spot t.dep t [] 0 (Nat.le_refl _) (HSH.out _ _ _ h2) s (by rw [← hs]; exact List.getElem_mem hk)
    rw [HS2.out] at hl hrow
    rw [hs] at hrow hnR ⊢
    refine ⟨?a1, ?W3, ?hb, ?asg, ?bo⟩
    case asg =>
      intro K hK
      gi_wp2
      exact hK
    case hb => exact (Below.refl _ _).alloc (Nat.le_refl _) _
    case bo =>
      intro A3 hA3 hsame hl3 hI3
      obtain ⟨T2, g1, g2, g3, g4, g5⟩ := hI3
      obtain rfl : T = fun j => T2 j ∨ j = l := funext fun j => propext (g1 j)
      have hS3 := SH.spot t.dep t [] 0 (Nat.le_refl _) (HSH.out _ _ _ g2) s (by rw [← hs]; exact List.getElem_mem hk)
      obtain ⟨b, hb⟩ : ∃ b, (ad s.path).1 = b := ⟨_, rfl⟩
      obtain ⟨f, hf⟩ : ∃ b, (ad s.path).2 = b := ⟨_, rfl⟩
      have d1 := hS3.kind
      obtain ⟨n, hn⟩ : ∃ n, s.path.length = n := ⟨_, rfl⟩
      have hBk : Blk A3 A.heap.size 84 #[.pointer (some ⟨b, f, none⟩), .slice pa n pc, .int .i64 (s.off : Int)] := by
        rw [← hb, ← hf, ← hn]
        exact (hsame A.heap.size (by omega)).trans (Blk.new A _ _)
      have p0 := hBk.cell 0
      have p1 := hBk.cell 1
      have p2 := hBk.cell 2
      simp only [List.getElem?_toArray, List.getElem?_cons_zero, List.getElem?_cons_succ] at p0 p1 p2
      have cy := g3.cell
      rw [hb, hf] at d1
      have CL := Lib.hid (pisleaf_any s.nd b f A3 d1)
      have hrow3 : A3.ownsRow y 3 1 (.slice pa s.path.length pc) s.path.length (ints s.path) := by
        refine own_base2 (own_same hrow (fun g hg => ?_)) (by omega : y ≤ y + 2 + 2)
        have hg2 := (hrow.lt g hg).2
        exact (hsame g (own_row_ne hrow hlr hg)).trans (((Below.refl _ A).alloc (Nat.le_refl _) _).block g hg2)
      have hnR3 : ∀ g, (Value.slice pa s.path.length pc).ownBlock = some g → ¬ T2 g := fun g hg h => hnR g hg (.inl h)
      by_cases hlf : s.nd.leaf
      · obtain ⟨hm1, hm, hget⟩ := lcn_leaf hk (by rw [hs]; exact hlf)
        have hY1 := HY.out (lcn t k) hm T2 A3 (.slice pa s.path.length pc) (by omega) g2 (by rw [hget, hs]; exact hrow3) hnR3
        rw [hget, hs, hb, hf, hn] at hY1
        obtain ⟨fn, tm, asg, bo, hy, hR1⟩ := hY1
        have HR1 := Lib.hid hR1
        have HM1 := Lib.hid hm1
        have HG3 := Lib.hid g3
        have HG5 := Lib.hid g5
        rw [show decide s.nd.leaf = true by simp [hlf]] at CL
        rw [hb, hf, hn]
        clear hR1 hm1 hm hget hrow3 hnR3 hlf d1 hS3 hBk hsame g3 hrow hnR hlr h1 h2 h3 h5 hA3 hSHs g1 hs
        gi_wp2_with (first | (refine ⟨trivial, rfl, ?_⟩; gi_at_call 67; refine (CallsIn.inRound l' (callsIn_wide.2 CL.out)).mono ?_; rintro e w' ⟨rfl, rfl⟩))
        refine ⟨rfl, HR1.out.mono ?_⟩
        rintro e w6 ⟨T6, ⟨rfl, hr, hJ6⟩ | ⟨rfl, hr, hJ6⟩⟩
        · have hr2 := hr.or (fun j => j = l)
          have hb6 : Boxed w6 y 107 (.func (.yield l) #[] #[]) := (hr.block y HG3.out.lt g4).trans HG3.out
          have hnt : ¬ T6 y := fun h => (hr.grew y h).elim g4 (fun e => by have := HG3.out.lt; omega)
          have hz6 := hr.size
          have HFIN := Lib.hid (And.intro hr2 (And.intro hb6 (And.intro hnt hJ6)))
          clear hr2 hb6 hnt hr hJ6 hy HR1
          gi_wp2
          obtain ⟨k1, k2, k3, k4⟩ := HFIN.out
          refine ⟨fun j => T6 j ∨ j = l, ⟨T6, fun _ => Iff.rfl, ?_, k2, k3, by have := HG5.out; omega⟩, k1⟩
          rw [HM1.out]; exact k4
        · have HFIN := Lib.hid (And.intro hr hJ6)
          clear hr hJ6 hy HR1
          gi_wp2
          exact ⟨fun j => T6 j ∨ j = l, ⟨T6, fun _ => Iff.rfl, HFIN.out.2⟩, HFIN.out.1⟩
      · have hm1 := lcn_not hk (by rw [hs]; exact hlf)
        have HFIN : Hid (J (lcn t (k + 1)) T2 A3 ∧ Boxed A3 y 107 (.func (.yield l) #[] #[]) ∧ ¬ T2 y ∧ y + 2 ≤ A3.heap.size) := ⟨by rw [hm1]; exact g2, g3, g4, g5⟩
        rw [show decide s.nd.leaf = false by simp [hlf]] at CL
        rw [hb, hf, hn]
        clear hm1 hrow3 hnR3 hlf d1 hS3 hBk hsame g3 hrow hnR hlr h1 h2 h3 h5 hA3 hSHs g1 hs
        gi_wp2_with (first | (refine ⟨trivial, rfl, ?_⟩; gi_at_call 67; refine (CallsIn.inRound l' (callsIn_wide.2 CL.out)).mono ?_; rintro e w' ⟨rfl, rfl⟩))
        refine ⟨fun _ h => (by cases h), ?_⟩
        gi_wp2
        exact ⟨fun j => T2 j ∨ j = l, ⟨T2, fun _ => Iff.rfl, HFIN.out⟩, Rnd.refl _ _⟩
  case hdone =>
    rintro T A hA ⟨T1, h1, h2, h3, h4, h5⟩ hTw hK
    rw [lcn_all] at h2
    have HJJ := Lib.hid h2
    have hT1 : ¬ T1 W2.heap.size := fun h => hTw ((h1 _).2 (.inl h))
    clear h1 h2 h3 h4
    gi_wp2
    refine ⟨by simp, .inl ⟨_, _, rfl, run_takeDeferred hK, ?_⟩⟩
    exact ⟨_, results_none rfl _ _ _, ⟨_, rfl⟩, T1, .inl (HO.out _ _ _ _ HJJ.out (Oth.putObj _ (by rw [HS2.out]; omega) hT1))⟩
  case hret =>
    rintro T A hA ⟨T1, h1, h2⟩ hTw hK
    have HJJ := Lib.hid h2
    have hT1 : ¬ T1 W2.heap.size := fun h => hTw ((h1 _).2 (.inl h))
    clear h1 h2
    gi_wp2
    refine ⟨by simp, .inl ⟨_, _, rfl, run_takeDeferred hK, ?_⟩⟩
    exact ⟨_, results_none rfl _ _ _, ⟨_, rfl⟩, T1, .inr (HOS.out _ _ _ HJJ.out (Oth.putObj _ (by rw [HS2.out]; omega) hT1))⟩

end Go.Proofs.Ytfecajeenmnoeaa
