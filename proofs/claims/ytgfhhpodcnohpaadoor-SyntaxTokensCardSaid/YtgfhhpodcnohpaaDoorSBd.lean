/- The contracts of strings.Builder's WriteString and String. Conditions: fewer than 2^46 bytes. -/
import Derived.Test.YtgfhhpodcnohpaaDoorEMath
import Derived.Test.YtgfhhpodcnohpaaDoorStr
import Derived.Test.YtgfhhpodcnohpaaDoorGiv
import Derived.Lib.Builder
import Derived.Lib.AppendStr
import Derived.Lib.UnsafeStr
import Derived.Laws.Externs
import Derived.Shelf.RegionOpenPlain
namespace Go.Proofs.YtgfhhpodcnohpaaDoor
open Go.RowKit Go.Shelf
set_option linter.unusedVariables false

/-! Bytes of texts. -/
theorem sb_cut (s : ByteArray) (f t : Nat) : sb (s.extract f t) = ((sb s).drop f).take (t - f) := by
  simp only [sb, ByteArray.data_extract, Array.toList_extract, List.map_take, List.map_drop, List.extract_eq_take_drop]
theorem sb_add (a b : ByteArray) : sb (a ++ b) = sb a ++ sb b := by simp [sb, ByteArray.data_append]
theorem bs_sb (s : ByteArray) : bs (sb s) = s := by
  unfold bs sb
  rw [List.map_map]
  have : ((fun c : Int => UInt8.ofNat c.toNat) ∘ fun c : UInt8 => (c.toNat : Int)) = id := by funext c; simp
  rw [this, List.map_id]
theorem sb_inj {a b : ByteArray} (h : sb a = sb b) : a = b := by rw [← bs_sb a, ← bs_sb b, h]
theorem bs_add {a b : List Int} : bs (a ++ b) = bs a ++ bs b := by
  apply ByteArray.ext; simp [bs, ByteArray.data_append]
theorem bs_cut (s : ByteArray) (f t : Nat) : bs (((sb s).drop f).take (t - f)) = s.extract f t := by rw [← sb_cut, bs_sb]

theorem str_cells (s : ByteArray) : Lib.strCells s = (sb s).map (Value.int .u8) := by
  simp [Lib.strCells, sb, List.map_map, Function.comp_def]

/-- Appending a string's bytes to an owned row: where the row then lies. -/
theorem append_str_at {P : Program} (w : World) (base : Nat) (t u ty e : TypeId) (i : TypeInfo) (ht : P.underlying t = some (.slice e)) (hu : P.underlying u = some .string) (hi : P.info? e = some i) (hz : i.zero = some (.int .u8 0))
    (hsize : i.size = 1) (hby : i.bytes = 1) (v : Value) (n : Nat) (xs : List Value) (hown : w.ownsRow base e 1 v n xs) (s : ByteArray)
    (h63 : n + s.size ≤ maxLen) (hbytes : n + s.size ≤ 140737488355328) (hbase : base ≤ w.heap.size) :
    ∃ v' w', (Builtin.append_ #[t, u] ty #[v, .string s]).run P w = .ok v' w' ∧ w'.ownsRow base e 1 v' (n + s.size) (xs ++ Lib.strCells s) ∧ w.grownBy w' v.ownBlock ∧
      (∀ g, v'.ownBlock = some g → v.ownBlock = some g ∨ w.heap.size ≤ g) ∧ (v' = .slice none 0 0 ↔ v = .slice none 0 0 ∧ s.size = 0) := by
  obtain ⟨v', w', hr, h2, h3, h4⟩ := Lib.run_append_own_string (P := P) w base t u ty e i ht hu hi hz hsize hby v n xs hown s h63 hbytes hbase
  refine ⟨v', w', hr, h2, h3, fun g hg => ?_, h4⟩
  have hxl : xs.length = n := by simpa using hown.1
  rcases hown.2 with ⟨rfl, rfl⟩ | ⟨g0, cap, cur, rfl, hbg, hg0, hnc, hcm, hcs, htake⟩
  · have hx : xs = [] := List.eq_nil_of_length_eq_zero hxl
    subst hx
    obtain ⟨v2, w2, hr2, k2, _⟩ := Lib.run_append_own_string (P := P) w w.heap.size t u ty e i ht hu hi hz hsize hby (.slice none 0 0) 0 [] (World.ownsRow_nil _ _ _ _) s h63 hbytes (Nat.le_refl _)
    rw [hr] at hr2
    cases hr2
    exact .inr (k2.lt g hg).1
  · by_cases hroom : n + s.size ≤ cap
    · have hcs' : cur.size = cap := by simpa using hcs
      have hr2 := Lib.run_append_room_string (P := P) w t u ty e i ht hu hi hsize g0 n cap cur hg0 s hroom (by omega)
      rw [hr] at hr2
      cases hr2
      exact .inl hg
    · have holds : ∀ j u, xs[j]? = some u → w.cell? ((⟨g0, 0, none⟩ : Addr).add j) = some u := hown.cells (g := g0) rfl
      have hr2 := Lib.run_append_grow_string (P := P) w t u ty e i (.int .u8 0) ht hu hi hz ⟨g0, 0, none⟩ n cap xs (by rw [hsize]; simpa using hxl) holds s (by omega) (by simp only [maxLen] at h63; omega) (by rw [hby]; exact growslice_fits (by omega) (by omega))
      rw [hr] at hr2
      cases hr2
      simp only [Value.ownBlock, Option.some.injEq] at hg
      exact .inr (by omega)
theorem wpList_append_str_at {P : Program} {w : World} {ops : Array Oper} {rest : List Oper} {o : Oper} {a : Act} {Q : Exit → Act → World → Prop} (hgd : o.guard = none) (sl x : Operand) (t u : TypeId)
    (ho : o.op = .call { callee := .builtin .append, args := #[sl, x], argTypes := #[t, u] })
    (base : Nat) (e : TypeId) (i : TypeInfo) (ht : P.underlying t = some (.slice e)) (hu : P.underlying u = some .string) (hi : P.info? e = some i) (hz : i.zero = some (.int .u8 0))
    (hsize : i.size = 1) (hby : i.bytes = 1) (v : Value) (n : Nat) (xs : List Value) (hs : a.eval sl = v) (hown : w.ownsRow base e 1 v n xs) (s : ByteArray) (hx : a.eval x = .string s)
    (h63 : n + s.size ≤ maxLen) (hbytes : n + s.size ≤ 140737488355328) (hbase : base ≤ w.heap.size)
    (h : ∀ v' w', w'.ownsRow base e 1 v' (n + s.size) (xs ++ Lib.strCells s) → w.grownBy w' v.ownBlock → (∀ g, v'.ownBlock = some g → v.ownBlock = some g ∨ w.heap.size ≤ g) → (v' = .slice none 0 0 ↔ v = .slice none 0 0 ∧ s.size = 0) → wpList P ops Q rest (a.put o.dst v') w') : wpList P ops Q (o :: rest) a w := by
  refine wpList_plain hgd fun K hK => ?_
  obtain ⟨v', w', hr, h2, h3, h4, h5⟩ := append_str_at (P := P) w base t u o.type e i ht hu hi hz hsize hby v n xs hown s h63 hbytes hbase
  unfold Oper.wp execOp
  simp only [ho, resolve, invoke, builtin, Sem.run_bind, Sem.run_pure, Result.andThen_ok, List.map_toArray, List.map_cons, List.map_nil, hs, hx, hr]
  exact hK _ _ (h v' w' h2 h3 h4 h5)

/-- The block b holds a builder with these bytes; T: the blocks that its methods may turn. -/
def Bl (b : Nat) (T : Nat → Prop) (Z : List Int) (w : World) : Prop :=
  ∃ p v, Blk w b 94 #[p, v] ∧ w.ownsRow (b + 1) 5 1 v Z.length (Z.map (Value.int .u8)) ∧ (p = .pointer none ∨ p = .pointer (some ⟨b, 0, none⟩)) ∧ (∀ j, T j ↔ (j = b ∨ v.ownBlock = some j)) ∧ (Z = [] → v = .slice none 0 0)
theorem Bl.lt {b : Nat} {T : Nat → Prop} {Z : List Int} {w : World} (h : Bl b T Z w) : ∀ j, T j → j < w.heap.size := by
  obtain ⟨p, v, hb, ho, _, hT, _⟩ := h
  intro j hj
  rcases (hT j).1 hj with rfl | h
  · exact hb.lt
  · exact (ho.lt j h).2
theorem Bl.at_ {b : Nat} {T : Nat → Prop} {Z : List Int} {w : World} (h : Bl b T Z w) : T b := by
  obtain ⟨p, v, hb, ho, _, hT, _⟩ := h
  exact (hT b).2 (.inl rfl)
theorem Bl.ge {b : Nat} {T : Nat → Prop} {Z : List Int} {w : World} (h : Bl b T Z w) : ∀ j, T j → b ≤ j := by
  obtain ⟨p, v, hb, ho, _, hT, _⟩ := h
  intro j hj
  rcases (hT j).1 hj with rfl | h
  · exact Nat.le_refl _
  · have := (ho.lt j h).1; omega
theorem Bl.keep {b : Nat} {T : Nat → Prop} {Z : List Int} {w w' : World} (h : Bl b T Z w) (hb : ∀ j, T j → w'.heap[j]? = w.heap[j]?) : Bl b T Z w' := by
  obtain ⟨p, v, hk, ho, hp, hT, hz⟩ := h
  exact ⟨p, v, hk.same (hb b ((hT b).2 (.inl rfl))), own_same ho (fun g hg => hb g ((hT g).2 (.inr hg))), hp, hT, hz⟩
theorem Bl.oth {b n : Nat} {T : Nat → Prop} {Z : List Int} {w w' : World} (h : Bl b T Z w) (ho : Oth T n w w') : Bl b T Z w' := h.keep (fun j hj => ho.block j (h.lt j hj) (.inr hj))

theorem infoBu : (Tryd.prog.info? 94).map (fun i => i.size) = some 2 := by kernel_rfl

set_option maxRecDepth 100000 in
set_option maxHeartbeats 1000000 in
theorem copy_used (b : Nat) (w : World) (h0 : w.cell? ⟨b, 0, none⟩ = some (.pointer (some ⟨b, 0, none⟩))) :
    Calls Tryd.prog 94 #[.pointer (some ⟨b, 0, none⟩)] w fun e w' => e = .returned (.tuple #[]) ∧ w' = w := by
  obtain ⟨j, hj, _⟩ := Option.map_eq_some_iff.1 infoBu
  go_enter Tryd.func94, Tryd.ntmps94
  go_wp2
  rw [Lib.run_neq_ptr_same w _ Tryd.underlying91 hj]
  go_wp2
  go_end0
  exact ⟨rfl, rfl⟩

set_option maxRecDepth 100000 in
set_option maxHeartbeats 1000000 in
theorem copy_fresh (b : Nat) (w : World) (h0 : w.cell? ⟨b, 0, none⟩ = some (.pointer none)) (hsh : w.shape? b = some (94, 2)) (hfz : w.frozen? ⟨b, 0, none⟩ = false) :
    Calls Tryd.prog 94 #[.pointer (some ⟨b, 0, none⟩)] w fun e w' => e = .returned (.tuple #[]) ∧ w' = w.setCell ⟨b, 0, none⟩ (.pointer (some ⟨b, 0, none⟩)) := by
  obtain ⟨j, hj, hjs⟩ := Option.map_eq_some_iff.1 infoBu
  go_enter Tryd.func94, Tryd.ntmps94
  go_wp2
  rw [Lib.run_to_unsafe w ⟨b, 0, none⟩ Tryd.underlying91 Tryd.underlying144 hj (by rw [hjs]; decide) hsh (Nat.zero_lt_succ 1)]
  simp only [Result.andThen]
  rw [Oper.upon_value]
  go_wp2
  rw [run_callFunc_extern Tryd.func115 (by kernel_rfl) (by kernel_rfl) (by kernel_rfl) (e := Extern.AbiNoEscape.same) (by kernel_rfl)]
  rw [Lib.run_noEscape]
  simp only [Result.andThen]
  rw [Oper.upon_value]
  go_wp2
  rw [Lib.run_from_unsafe w ⟨b, 0, none⟩ Tryd.underlying144 Tryd.underlying91 hj hsh (by kernel_rfl)]
  simp only [Result.andThen]
  rw [Oper.upon_value]
  go_wp2
  go_end0
  exact ⟨rfl, rfl⟩


set_option maxRecDepth 100000 in
set_option maxHeartbeats 1000000 in
theorem copy_any (b : Nat) (T : Nat → Prop) (Z : List Int) (w : World) (h : Bl b T Z w) :
    Calls Tryd.prog 94 #[.pointer (some ⟨b, 0, none⟩)] w fun e w' => e = .returned (.tuple #[]) ∧ (∃ v, Blk w' b 94 #[.pointer (some ⟨b, 0, none⟩), v] ∧ w'.ownsRow (b + 1) 5 1 v Z.length (Z.map (Value.int .u8)) ∧ (∀ j, T j ↔ (j = b ∨ v.ownBlock = some j)) ∧ (Z = [] → v = .slice none 0 0)) ∧ Below b w w' ∧ Rnd T T w w' := by
  obtain ⟨p, v, hb, ho, hp, hT, hz⟩ := h
  have hbT : T b := (hT b).2 (.inl rfl)
  rcases hp with rfl | rfl
  · have c0 : w.cell? ⟨b, 0, none⟩ = some (.pointer none) := by simpa using hb.cell 0
    refine (copy_fresh b w c0 (by unfold Blk at hb; simp [World.shape?, hb]) (hb.frozen 0)).mono ?_
    rintro e w' ⟨rfl, rfl⟩
    have hb' := hb.set 0 (.pointer (some ⟨b, 0, none⟩))
    refine ⟨rfl, ⟨v, by simpa using hb', own_same ho (fun g hg => Below.heap_setCell w _ _ g (fun e => by have := (ho.lt g hg).1; simp at e; omega)), hT, hz⟩, (Below.refl b w).setCell (p := ⟨b, 0, none⟩) (Nat.le_refl _) _, ?_⟩
    exact ⟨by simp [World.setCell], fun k _ hk => Below.heap_setCell w _ _ k (fun e => hk (by simp at e; exact e ▸ hbT)), fun _ h => .inl h⟩
  · have c0 : w.cell? ⟨b, 0, none⟩ = some (.pointer (some ⟨b, 0, none⟩)) := by simpa using hb.cell 0
    refine (copy_used b w c0).mono ?_
    rintro e w' ⟨rfl, rfl⟩
    exact ⟨rfl, ⟨v, hb, ho, hT, hz⟩, Below.refl _ _, Rnd.refl _ _⟩

theorem infoU8 : (Tryd.prog.info? 5).map (fun i => (i.zero, i.size, i.bytes)) = some (some (.int .u8 0), 1, 1) := by kernel_rfl

set_option maxRecDepth 100000 in
set_option maxHeartbeats 1000000 in
/-- WriteString. -/
theorem write_any (b : Nat) (T : Nat → Prop) (Z : List Int) (s : ByteArray) (w : World) (h : Bl b T Z w) (hl : Z.length + s.size ≤ 70000000000) :
    Calls Tryd.prog 65 #[.pointer (some ⟨b, 0, none⟩), .string s] w fun e w' => (∃ r, e = .returned (.tuple #[.int .i64 s.size, r])) ∧ (∃ T', Bl b T' (Z ++ sb s) w' ∧ Rnd T T' w w') ∧ Below b w w' := by
  obtain ⟨i0, hi, hz0, hz1, hz2⟩ := info_parts infoU8
  have C := Lib.hid (copy_any b T Z w h)
  have hTl := Lib.hid h.lt
  clear h
  go_enter Tryd.func65, Tryd.ntmps65
  go_wp2_with fail
  refine C.out.mono ?_
  rintro e w1 ⟨rfl, ⟨v, hb1, ho1, hT1, hz⟩, hB1, hR1⟩
  have HZ := Lib.hid hz
  have c0 : w1.cell? ⟨b, 0, none⟩ = some (.pointer (some ⟨b, 0, none⟩)) := by simpa using hb1.cell 0
  have c1 : w1.cell? ⟨b, 1, none⟩ = some v := by simpa using hb1.cell 1
  have HB1 := Lib.hid hb1; have HT1 := Lib.hid hT1; have HBw := Lib.hid hB1; have HR1 := Lib.hid hR1; have HO1 := Lib.hid ho1
  have hlb : b + 1 ≤ w1.heap.size := hb1.lt
  clear hb1 hT1 hB1 hR1 ho1 C hz
  go_wp2_with (at_builtin; refine wpList_append_str_at rfl _ _ 92 9 rfl (b + 1) 5 i0 Tryd.underlying92 Tryd.underlying9 hi hz0 hz1 hz2 _ _ _ rfl HO1.out s rfl ?c3 ?c4 ?c5 ?_)
  case c3 => unfold maxLen; omega
  case c4 => omega
  case c5 => exact hlb
  intro v' w2 hown' hgrow hat hnil
  have hb2 : Blk w2 b 94 #[.pointer (some ⟨b, 0, none⟩), v] := HB1.out.same (hgrow.block b (by omega) (fun e => by have := (HO1.out.lt b e.symm).1; omega))
  have d0 : w2.cell? ⟨b, 0, none⟩ = some (.pointer (some ⟨b, 0, none⟩)) := by simpa using hb2.cell 0
  have d1 : w2.cell? ⟨b, 1, none⟩ = some v := by simpa using hb2.cell 1
  have f1 : w2.frozen? ⟨b, 1, none⟩ = false := hb2.frozen 1
  obtain ⟨ao, cp, rfl⟩ := own_slice hown'
  have HB2 := Lib.hid hb2; have HO := Lib.hid hown'; have HG := Lib.hid hgrow; have HAT := Lib.hid hat; have HNL := Lib.hid hnil
  clear hb2 hown' hgrow hat hnil c0 c1
  go_wp2
  go_ret2
  refine ⟨⟨_, rfl⟩, ⟨fun j => j = b ∨ (Value.slice ao (Z.length + s.size) cp).ownBlock = some j, ⟨_, _, by simpa using HB2.out.set 1 (.slice ao (Z.length + s.size) cp), ?_, .inr rfl, fun j => Iff.rfl, fun hz0 => HNL.out.2 ⟨HZ.out (List.append_eq_nil_iff.1 hz0).1, by rw [← bs_sb s, (List.append_eq_nil_iff.1 hz0).2]; rfl⟩⟩, ?_⟩, ?_⟩
  · have h1 := own_same (C := w2.setCell ⟨b, 1, none⟩ (.slice ao (Z.length + s.size) cp)) HO.out (fun g hg => Below.heap_setCell w2 _ _ g (fun e => by have := (HO.out.lt g hg).1; simp at e; omega))
    rw [List.length_append, sb_len, List.map_append, ← str_cells]
    exact h1
  · refine ⟨by have := HR1.out.size; have := HG.out.size; simp [World.setCell]; omega, fun k hk hkT => ?_, fun k hk => ?_⟩
    · rw [Below.heap_setCell w2 _ _ k (fun e => hkT (by simp at e; exact (HT1.out k).2 (.inl e))), HG.out.block k (by have := HR1.out.size; omega) (fun e => hkT ((HT1.out k).2 (.inr e.symm)))]
      exact HR1.out.block k hk hkT
    · rcases hk with rfl | hk
      · exact .inl ((HT1.out k).2 (.inl rfl))
      · rcases HAT.out k hk with h | h
        · exact .inl ((HT1.out k).2 (.inr h))
        · exact .inr (by have := HR1.out.size; omega)
  · exact (HBw.out.grown HG.out (by omega) (fun k hk => by have := (HO1.out.lt k hk).1; omega)).setCell (p := ⟨b, 1, none⟩) (Nat.le_refl _) _

theorem cellsU8 : Tryd.prog.cellsOf 5 = 1 := by kernel_rfl

theorem rnd_freeze {T : Nat → Prop} (w : World) (g n : Nat) (hT : T g) : Rnd T T w (w.drew.freeze ⟨g, 0, none⟩ n) := by
  unfold World.freeze
  split
  · exact Rnd.of_below (Below.refl _ _).drew
  · refine ⟨by simp, fun k _ hk => ?_, fun _ h => .inl h⟩
    simp only [Array.getElem?_modify]
    rw [if_neg (fun e => hk (by rw [← e]; exact hT))]
    rfl

set_option maxRecDepth 100000 in
set_option maxHeartbeats 2000000 in
/-- String. -/
theorem string_any (b : Nat) (T : Nat → Prop) (Z : List Int) (w : World) (h : Bl b T Z w) (hz : Byt Z) (hl : Z.length ≤ 70000000000) :
    Calls Tryd.prog 66 #[.pointer (some ⟨b, 0, none⟩)] w fun e w' => e = .returned (.string (bs Z)) ∧ Below b w w' ∧ Rnd T T w w' := by
  obtain ⟨p, v, hb, ho, hp, hT, hnil⟩ := h
  have hmx : Tryd.prog.follows .mixedOrders = true := by kernel_rfl
  by_cases h0 : Z = []
  · have hv := hnil h0
    subst hv h0
    have c1 : w.cell? ⟨b, 1, none⟩ = some (.slice none 0 0) := by simpa using hb.cell 1
    have HF := Lib.hid (And.intro ((Below.refl b w).drew) (Rnd.of_below (T := T) (Below.refl w.heap.size w).drew))
    have hSD : (Builtin.unsafeSliceData_ #[92] 125 #[.slice none 0 0]).run Tryd.prog w.drew = .ok (.pointer none) w.drew := rfl
    have hUS := Lib.run_unsafeString_none (P := Tryd.prog) w.drew 125 3 9 none
    clear ho hT hnil hb hp hz
    go_enter Tryd.func66, Tryd.ntmps66
    go_wp2
    go_region_o
    all_goals (go_wp2; go_ret; exact ⟨rfl, HF.out⟩)
  · obtain ⟨l, hle⟩ : ∃ l, Z.map (fun c => UInt8.ofNat c.toNat) = l := ⟨_, rfl⟩
    have hll : l.length = Z.length := by rw [← hle]; simp
    have hl0 : l ≠ [] := fun e => h0 (by have : Z.length = 0 := by rw [← hll, e]; rfl
                                         exact List.eq_nil_of_length_eq_zero this)
    have hl1 : l.length ≠ 0 := by simpa using hl0
    obtain ⟨g, cap, cur, rfl, hbg, hg, hnc, hcm, hcs, htake⟩ : ∃ g cap cur, v = .slice (some ⟨g, 0, none⟩) Z.length cap ∧ b + 1 ≤ g ∧ w.heap[g]? = some (.cells cur 5 (0, 0)) ∧ Z.length ≤ cap ∧ cap ≤ maxLen ∧ cur.size = cap * 1 ∧ True := by
      rcases ho.2 with ⟨_, hz⟩ | ⟨g, cap, cur, hv, r1, r2, r3, r4, r5, _⟩
      · exact absurd (List.eq_nil_of_length_eq_zero hz) h0
      · exact ⟨g, cap, cur, hv, r1, r2, r3, r4, r5, trivial⟩
    have c1 : w.cell? ⟨b, 1, none⟩ = some (.slice (some ⟨g, 0, none⟩) l.length cap) := by rw [hll]; simpa using hb.cell 1
    have hSD : (Builtin.unsafeSliceData_ #[92] 125 #[.slice (some ⟨g, 0, none⟩) l.length cap]).run Tryd.prog w.drew = .ok (.pointer (some ⟨g, 0, none⟩)) w.drew :=
      Lib.run_unsafeSliceData_row _ _ _ _ _ _ (by omega)
    have hUS : (Builtin.unsafeString_ #[125, 3] 9 #[.pointer (some ⟨g, 0, none⟩), .int .i64 l.length]).run Tryd.prog w.drew = .ok (.string ⟨l.toArray⟩) (w.drew.freeze ⟨g, 0, none⟩ l.length) := by
      refine Lib.run_unsafeString_row w.drew 125 3 9 5 Tryd.underlying125 cellsU8 g cur.size (by have hg' : w.drew.heap[g]? = some (.cells cur 5 (0, 0)) := hg; simp [World.shape?, hg']) l hl0 (by omega) (by unfold maxLen at hcm; omega) ?_
      intro j x hx
      have hj : j < Z.length := by rw [← hll]; exact (List.getElem?_eq_some_iff.1 hx).1
      have := ho.cells (g := g) rfl j (.int .u8 x.toNat) (by
        rw [← hle, List.getElem?_map] at hx
        rw [List.getElem?_map]
        rw [List.getElem?_eq_getElem hj] at hx ⊢
        simp only [Option.map_some, Option.some.injEq] at hx ⊢
        have hb := hz _ (List.getElem_mem hj)
        rw [← hx]
        simp only [UInt8.toNat_ofNat']
        congr 1
        omega)
      exact this
    have hbs : bs Z = ⟨l.toArray⟩ := by unfold bs; rw [hle]
    rw [hbs]
    have HF := Lib.hid (And.intro (Lib.below_freeze (Below.drew (Below.refl b w)) (p := ⟨g, 0, none⟩) (by show b ≤ g; omega) l.length) (rnd_freeze (T := T) w g l.length ((hT g).2 (.inr rfl))))
    rw [hll] at hSD hUS HF c1
    clear ho hT hnil hb hp hz hbs hg hle hcs htake hll hl0 hl1
    go_enter Tryd.func66, Tryd.ntmps66
    go_wp2
    go_region_o
    all_goals (go_wp2; go_ret; exact ⟨rfl, HF.out⟩)

end Go.Proofs.YtgfhhpodcnohpaaDoor
