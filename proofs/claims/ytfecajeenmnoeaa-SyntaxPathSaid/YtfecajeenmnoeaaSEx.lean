/- The tree of the documented examples. It has no conditions. -/
import Derived.Test.YtfecajeenmnoeaaSGe
namespace Go.Proofs.Ytfecajeenmnoeaa
open Go.RowKit Go.Shelf
set_option linter.unusedVariables false

/-- The tree of the documented examples. -/
def exT : Nd := .mk 0 37 ⟨#[]⟩ [.mk 0 50 ⟨#[]⟩ [.mk 0 2 ⟨#[97]⟩ []], .mk 0 6 ⟨#[43]⟩ [], .mk 0 49 ⟨#[]⟩ [.mk 0 0 ⟨#[32]⟩ [], .mk 0 4 ⟨#[49]⟩ []]]

set_option maxRecDepth 100000 in
set_option maxHeartbeats 4000000 in
theorem example_any (w : World) :
    Calls Try.prog 48 #[] w fun e w' => ∃ a, e = .returned (ndv exT a 3 3) ∧ KV (fun b => w.heap.size ≤ b) w' a 3 3 exT.kids ∧ Below w.heap.size w w' := by
  go_enter Try.func48, Try.ntmps48
  go_wp2_with fail
  obtain ⟨q, hq⟩ : ∃ q, w.heap.size = q := ⟨_, rfl⟩
  rw [hq]
  obtain ⟨v0, h0⟩ : ∃ c : Array Value, c = #[.int .i64 0, .int .i64 37, .string ⟨#[]⟩, .slice (some ⟨q + 1 + 1 + 1 + 1 + 1, 0, none⟩) 3 3] := ⟨_, rfl⟩
  obtain ⟨v1, h1⟩ : ∃ c : Array Value, c = #[.int .i64 0, .int .i64 2, .string ⟨#[97]⟩, .slice none 0 0] := ⟨_, rfl⟩
  obtain ⟨v2, h2⟩ : ∃ c : Array Value, c = #[.int .i64 0, .int .i64 50, .string ⟨#[]⟩, .slice (some ⟨q + 1, 0, none⟩) 1 1] := ⟨_, rfl⟩
  obtain ⟨v3, h3⟩ : ∃ c : Array Value, c = #[.int .i64 0, .int .i64 0, .string ⟨#[32]⟩, .slice none 0 0, .int .i64 0, .int .i64 4, .string ⟨#[49]⟩, .slice none 0 0] := ⟨_, rfl⟩
  obtain ⟨v4, h4⟩ : ∃ c : Array Value, c = #[.int .i64 0, .int .i64 49, .string ⟨#[]⟩, .slice (some ⟨q + 1 + 1 + 1, 0, none⟩) 2 2] := ⟨_, rfl⟩
  obtain ⟨v5, h5⟩ : ∃ c : Array Value, c = #[.int .i64 0, .int .i64 50, .string ⟨#[]⟩, .slice (some ⟨q + 1, 0, none⟩) 1 1, .int .i64 0, .int .i64 6, .string ⟨#[43]⟩, .slice none 0 0, .int .i64 0, .int .i64 49, .string ⟨#[]⟩, .slice (some ⟨q + 1 + 1 + 1, 0, none⟩) 2 2] := ⟨_, rfl⟩
  rw [← h0, ← h1, ← h2, ← h3, ← h4, ← h5]
  obtain ⟨W, hW⟩ : ∃ W, (((((w.alloc (.cells v0 25)).alloc (.cells v1 25)).alloc (.cells v2 25)).alloc (.cells v3 25)).alloc (.cells v4 25)).alloc (.cells v5 25) = W := ⟨_, rfl⟩
  have k0 : Blk W q 25 v0 := by rw [← hW, ← hq]; exact (((((Blk.new w _ _).alloc _).alloc _).alloc _).alloc _).alloc _
  have k1 : Blk W (q + 1) 25 v1 := by
    have := Blk.new (w.alloc (.cells v0 25)) 25 v1
    simp only [World.size_alloc, hq] at this
    rw [← hW]; exact (((this.alloc _).alloc _).alloc _).alloc _
  have k3 : Blk W (q + 1 + 1 + 1) 25 v3 := by
    have := Blk.new (((w.alloc (.cells v0 25)).alloc (.cells v1 25)).alloc (.cells v2 25)) 25 v3
    simp only [World.size_alloc, hq] at this
    rw [← hW]; exact (this.alloc _).alloc _
  have k5 : Blk W (q + 1 + 1 + 1 + 1 + 1) 25 v5 := by
    have := Blk.new (((((w.alloc (.cells v0 25)).alloc (.cells v1 25)).alloc (.cells v2 25)).alloc (.cells v3 25)).alloc (.cells v4 25)) 25 v5
    simp only [World.size_alloc, hq] at this
    rw [← hW]; exact this
  have hb : Below q w W := by
    rw [← hW, ← hq]
    exact ((((((Below.refl _ w).alloc (Nat.le_refl _) _).alloc (by simp) _).alloc (by simp; omega) _).alloc (by simp; omega) _).alloc (by simp; omega) _).alloc (by simp; omega) _
  rw [hW]
  have r0 := k0.cell 0
  have r1 := k0.cell 1
  have r2 := k0.cell 2
  have r3 := k0.cell 3
  have kz1 := k1.lt
  have kz3 := k3.lt
  have kz5 := k5.lt
  subst h0 h1 h3 h5
  simp only [List.getElem?_toArray, List.getElem?_cons_zero, List.getElem?_cons_succ] at r0 r1 r2 r3
  refine bodyPost_ret (v := .agg #[.int .i64 0, .int .i64 37, .string ⟨#[]⟩, .slice (some ⟨q + 1 + 1 + 1 + 1 + 1, 0, none⟩) 3 3]) (by simp [results, Try.results48, go_sem, r0, r1, r2, r3]) rfl ?_
  refine ⟨_, rfl, ?_, hb⟩
  refine .cons (fun k => if k = 0 then some ⟨q + 1, 0, none⟩ else if k = 1 then none else some ⟨q + 1 + 1 + 1, 0, none⟩) (fun k => if k = 0 then 1 else if k = 1 then 0 else 2) (fun k => if k = 0 then 1 else if k = 1 then 0 else 2) rfl (by omega) (by omega) (by omega) kz5 (by omega) (fun k hk => ?_) (fun k hk => ?_)
  · match k, hk with
    | 0, _ => exact ⟨k5.cell 0, k5.cell 1, k5.cell 2, k5.cell 3⟩
    | 1, _ => exact ⟨k5.cell 4, k5.cell 5, k5.cell 6, k5.cell 7⟩
    | 2, _ => exact ⟨k5.cell 8, k5.cell 9, k5.cell 10, k5.cell 11⟩
  · match k, hk with
    | 0, _ =>
      refine KV.cons (fun _ => none) (fun _ => 0) (fun _ => 0) rfl (by simp) (by simp) (by simp) kz1 (by omega) (fun k hk => ?_) (fun k hk => ?_)
      · match k, hk with
        | 0, _ => exact ⟨k1.cell 0, k1.cell 1, k1.cell 2, k1.cell 3⟩
      · match k, hk with
        | 0, _ => exact .nil (fun _ => rfl) (by omega)
    | 1, _ => exact .nil (fun _ => rfl) (by simp)
    | 2, _ =>
      refine KV.cons (fun _ => none) (fun _ => 0) (fun _ => 0) rfl (by simp) (by simp) (by simp) kz3 (by omega) (fun k hk => ?_) (fun k hk => ?_)
      · match k, hk with
        | 0, _ => exact ⟨k3.cell 0, k3.cell 1, k3.cell 2, k3.cell 3⟩
        | 1, _ => exact ⟨k3.cell 4, k3.cell 5, k3.cell 6, k3.cell 7⟩
      · match k, hk with
        | 0, _ => exact .nil (fun _ => rfl) (by omega)
        | 1, _ => exact .nil (fun _ => rfl) (by omega)

theorem ex_lspots : lspots exT = [⟨[0, 0], .mk 0 2 ⟨#[97]⟩ [], 0⟩, ⟨[1], .mk 0 6 ⟨#[43]⟩ [], 1⟩, ⟨[2, 0], .mk 0 0 ⟨#[32]⟩ [], 2⟩, ⟨[2, 1], .mk 0 4 ⟨#[49]⟩ [], 3⟩] := by
  simp [lspots, exT, spots, spotsL, Nd.leaf, Nd.kind, Nd.pw, pws, ByteArray.size]
theorem ex_cnt : exT.cnt = 7 := by simp [exT, Nd.cnt, cnts]
theorem ex_dep : exT.dep = 3 := by simp [exT, Nd.dep, deps]
theorem ex_pw : exT.pw = 4 := by simp [exT, Nd.pw, pws, ByteArray.size]
theorem ex_text : bs (ltx (lspots exT)) = ⟨#[97, 43, 32, 49]⟩ := by
  rw [ex_lspots]; rfl
theorem ex_get : getN exT [2] = some (.mk 0 49 ⟨#[]⟩ [.mk 0 0 ⟨#[32]⟩ [], .mk 0 4 ⟨#[49]⟩ []], 2) := by
  simp [getN, exT, Nd.kids, pws, Nd.pw, ByteArray.size]
theorem ex_path2 {w w' : World} {e : Ending} (h : PathP exT 2 w e w') : ∃ a c, e = .returned (.tuple #[.slice a 2 c, .bool true]) ∧ Sli .i64 w' a c [2, 0] ∧ Below w.heap.size w w' := by
  obtain ⟨hb, ⟨k, s, v, h1, h2, h3, rfl, h5⟩ | ⟨h1, rfl⟩⟩ := h
  · rw [ex_lspots] at h1 h2
    have hs : s = ⟨[2, 0], .mk 0 0 ⟨#[32]⟩ [], 2⟩ := by
      match k, h1 with
      | 0, h1 => simp at h1; subst h1; simp [Hit, Nd.text, ByteArray.size] at h3
      | 1, h1 => simp at h1; subst h1; simp [Hit, Nd.text, ByteArray.size] at h3
      | 2, h1 => simp at h1; exact h1.symm
      | 3, h1 => simp at h1; subst h1; simp [Hit, Nd.text, ByteArray.size] at h3
      | n + 4, h1 => simp at h1
    subst hs
    obtain ⟨_, a, c, rfl, hs⟩ := sli_of_own (zs := [2, 0]) (by simpa [ints] using h5)
    exact ⟨a, c, rfl, hs, hb⟩
  · exact absurd ⟨by simp, by simp [Nd.text, ByteArray.size]⟩ (h1 ⟨[2, 0], .mk 0 0 ⟨#[32]⟩ [], 2⟩ (by rw [ex_lspots]; simp))
theorem ex_path4 {w w' : World} {e : Ending} (h : PathP exT 4 w e w') : e = .returned (.tuple #[.slice none 0 0, .bool false]) ∧ Below w.heap.size w w' := by
  obtain ⟨hb, ⟨k, s, v, h1, h2, h3, rfl, h5⟩ | ⟨h1, rfl⟩⟩ := h
  · rw [ex_lspots] at h1
    exfalso
    match k, h1 with
    | 0, h1 => simp at h1; subst h1; simp [Hit, Nd.text, ByteArray.size] at h3
    | 1, h1 => simp at h1; subst h1; simp [Hit, Nd.text, ByteArray.size] at h3
    | 2, h1 => simp at h1; subst h1; simp [Hit, Nd.text, ByteArray.size] at h3
    | 3, h1 => simp at h1; subst h1; simp [Hit, Nd.text, ByteArray.size] at h3
    | n + 4, h1 => simp at h1
  · exact ⟨rfl, hb⟩

end Go.Proofs.Ytfecajeenmnoeaa
