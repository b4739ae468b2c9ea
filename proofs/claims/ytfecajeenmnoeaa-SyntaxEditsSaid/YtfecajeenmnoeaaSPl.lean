/- The program's places: its iterator's contract. Conditions: trees of at most 100000 nodes and 1000000000 bytes. -/
import Derived.Test.YtfecajeenmnoeaaSGw
import Derived.Laws.EntriesVeiled
namespace Go.Proofs.Ytfecajeenmnoeaa
open Go.RowKit Go.Shelf
set_option linter.unusedVariables false
attribute [local go_sem] Oper.semAt_some

set_option maxRecDepth 100000 in
set_option maxHeartbeats 1000000 in
theorem places_any (v : Option Addr) (w : World) :
    Calls Try.prog 55 #[.pointer v] w fun e w' => e = .returned (.func (.func 65) #[] #[.pointer (some ⟨w.heap.size, 0, none⟩)]) ∧ w' = w.alloc (.cells #[.pointer v] 82) := by
  go_enter Try.func55, Try.ntmps55
  go_wp2
  go_ret
  exact ⟨rfl, rfl⟩
set_option maxRecDepth 100000 in
set_option maxHeartbeats 1000000 in
theorem leaves_any (v : Option Addr) (w : World) :
    Calls Try.prog 57 #[.pointer v] w fun e w' => e = .returned (.func (.func 68) #[] #[.pointer (some ⟨w.heap.size, 0, none⟩)]) ∧ w' = w.alloc (.cells #[.pointer v] 82) := by
  go_enter Try.func57, Try.ntmps57
  go_wp2
  go_ret
  exact ⟨rfl, rfl⟩

set_option maxRecDepth 100000 in
set_option maxHeartbeats 4000000 in
theorem places_giw (ad : List Nat → Nat × Nat) (t : Nd) (bl : Nat) (w : World) (hbl : Boxed w bl 82 (.pointer (some ⟨(ad []).1, (ad []).2, none⟩))) (hc : t.cnt ≤ 100000) (hw : t.pw ≤ 1000000000) :
    Giw 65 #[.pointer (some ⟨bl, 0, none⟩)] ad t (spots t [] 0) w := by
  intro l J St T₀ W hW _ hZ hO _ hSh hY h0
  obtain ⟨y, hy⟩ : ∃ y, W.heap.size = y := ⟨_, rfl⟩
  rw [hy] at hO hY
  have hbw : Boxed W bl 82 (.pointer (some ⟨(ad []).1, (ad []).2, none⟩)) := (hW.block bl hbl.lt).trans hbl
  obtain ⟨B, hB⟩ : ∃ B, (ad []).1 = B := ⟨_, rfl⟩
  obtain ⟨F, hF⟩ : ∃ F, (ad []).2 = F := ⟨_, rfl⟩
  rw [hB, hF] at hbw
  have hbl0 := hbw.lt
  have c0 := hbw.cell
  have HZ := Lib.hid hZ; have HO := Lib.hid hO; have HSH := Lib.hid hSh; have HY := Lib.hid hY; have HW := Lib.hid hy; have H0 := Lib.hid h0; have HB := Lib.hid hB; have HF := Lib.hid hF; have HC := Lib.hid hc; have HWD := Lib.hid hw; have HBW := Lib.hid hbw
  clear hW hbl hc hw hZ hO hSh hY h0 hbw hB hF hy
  refine callsIn_of_wp Try.func65 rfl trivial ?_ rfl
  simp only [Try.ntmps65, List.size_toArray, List.length_cons, List.length_nil, Nat.reduceAdd, Nat.reduceSub, Array.replicate_succ, Array.replicate_zero, List.push_toArray, List.append_toArray, List.nil_append, List.cons_append]
  obtain ⟨W4, hW4⟩ : ∃ W4, (((W.alloc (.cells #[.func (.yield l) #[] #[]] 107)).alloc (.cells #[.slice none 0 0] 22)).alloc (.cells #[.int .i64 0] 3)).alloc (.cells #[vstF W.heap.size] 108) = W4 := ⟨_, rfl⟩
  have hb4 : Below W.heap.size W W4 := by rw [← hW4]; exact ((((Below.refl _ W).alloc (Nat.le_refl _) _).alloc (by simp) _).alloc (by simp; omega) _).alloc (by simp; omega) _
  have HV4 : Hid (VSt l y J 0 T₀ [] 0 (.slice none 0 0) W4) := by
    have hT : ∀ j, y ≤ j → ¬ T₀ j := fun j hj h => by have := HZ.out _ _ _ H0.out j h; have := HW.out; omega
    have e1 := Boxed.new W 107 (.func (.yield l) #[] #[])
    have e2 := Boxed.new (W.alloc (.cells #[.func (.yield l) #[] #[]] 107)) 22 (.slice none 0 0)
    have e3 := Boxed.new ((W.alloc (.cells #[.func (.yield l) #[] #[]] 107)).alloc (.cells #[.slice none 0 0] 22)) 3 (.int .i64 0)
    have e4 := Boxed.new (((W.alloc (.cells #[.func (.yield l) #[] #[]] 107)).alloc (.cells #[.slice none 0 0] 22)).alloc (.cells #[.int .i64 0] 3)) 108 (vstF W.heap.size)
    have e1' := ((e1.alloc (.cells #[.slice none 0 0] 22)).alloc (.cells #[.int .i64 0] 3)).alloc (.cells #[vstF W.heap.size] 108)
    have e2' := (e2.alloc (.cells #[.int .i64 0] 3)).alloc (.cells #[vstF W.heap.size] 108)
    have e3' := e3.alloc (.cells #[vstF W.heap.size] 108)
    rw [hW4] at e1' e2' e3' e4
    rw [World.size_alloc] at e2'
    rw [World.size_alloc, World.size_alloc] at e3'
    rw [World.size_alloc, World.size_alloc, World.size_alloc] at e4
    have hw := HW.out
    have hs : W4.heap.size = y + 4 := by rw [← hW4, ← hw]; simp
    have hb := hb4
    rw [hw] at e1' e2' e3' e4 hb
    exact ⟨HO.out _ _ _ _ H0.out (Oth.of_below hb4), by omega, e1', e2', e3', e4, World.ownsRow_nil _ _ _ _, fun j h1 _ => hT j h1, fun g hg => by simp [Value.ownBlock] at hg⟩
  have HCL : Hid (CallsIn Fence.wide 0 Try.prog 66 #[.pointer (some ⟨B, F, none⟩), .pointer (some ⟨W.heap.size, 0, none⟩), .pointer (some ⟨W.heap.size + 1, 0, none⟩), .pointer (some ⟨W.heap.size + 1 + 1, 0, none⟩), .pointer (some ⟨W.heap.size + 1 + 1 + 1, 0, none⟩)] W4
        fun e V' => ∃ bb : Bool, e = .returned (.bool bb) ∧ ∃ T', J (spots t [] 0).length T' V' ∨ St T' V') := by
    have h := visit_any l y ad (spots t [] 0) J St HO HZ HY t.dep t [] 0 0 T₀ _ W4 (Nat.le_refl _) HC.out (by have := Nd.dep_cnt t; have := HC.out; simp; omega) (by have := HWD.out; omega) HSH.out ⟨[], [], by simp, rfl⟩ HV4.out
    rw [HB.out, HF.out] at h
    rw [HW.out]
    refine CallsIn.mono h ?_
    rintro e V' (⟨rfl, T', pv', hv⟩ | ⟨rfl, T', hs⟩)
    · refine ⟨true, rfl, T', .inl ?_⟩
      rw [spots_len]
      have := hv.j
      rwa [Nat.zero_add] at this
    · exact ⟨false, rfl, T', .inr hs⟩
  have cz : W4.cell? ⟨bl, 0, none⟩ = some (.pointer (some ⟨B, F, none⟩)) := (show Boxed W4 bl 82 _ from (hb4.block bl hbl0).trans HBW.out).cell
  rw [← hW4] at cz
  have HW4 := Lib.hid hW4
  clear hb4 hW4 HV4
  gi_wp2_with (refine ⟨trivial, rfl, ?_⟩; gi_at_call 66; rw [show (((W.alloc (.cells #[.func (.yield l) #[] #[]] 107)).alloc (.cells #[.slice none 0 0] 22)).alloc (.cells #[.int .i64 0] 3)).alloc (.cells #[vstF W.heap.size] 108) = W4 from HW4.out]; refine HCL.out.mono ?_; rintro e w8 ⟨bb, rfl, H8⟩)
  go_end0
  exact ⟨⟨_, rfl⟩, H8⟩

end Go.Proofs.Ytfecajeenmnoeaa
