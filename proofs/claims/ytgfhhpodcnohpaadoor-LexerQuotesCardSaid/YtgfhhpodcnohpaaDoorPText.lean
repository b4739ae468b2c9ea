/- The contract of the reference's Text: a text of whole characters, of at most 96 bytes. It has no conditions. -/
import Derived.Test.YtgfhhpodcnohpaaDoorPBord
import Derived.Test.YtgfhhpodcnohpaaDoorAround
import Derived.Test.YtgfhhpodcnohpaaDoorOnly
namespace Go.Proofs.YtgfhhpodcnohpaaDoor
open Go.RowKit Go.Shelf
set_option linter.unusedVariables false

/-- The text consists of whole characters: no byte of it could begin a character together with what follows. -/
inductive Whl : List Int → Prop
  | nil : Whl []
  | cons {Z : List Int} : Z ≠ [] → ((chr Z).1 ≠ 1 ∨ ab Z 0 < 128) → Whl (Z.drop (chr Z).1) → Whl Z
theorem ab_append {A B : List Int} {j : Nat} (h : j < A.length) : ab (A ++ B) j = ab A j := by unfold ab; rw [List.getElem?_append_left h]
theorem bt_append {A B : List Int} {j : Nat} {lo hi : Int} (h : bt A j lo hi = true) : bt (A ++ B) j lo hi = true := by
  have h1 := bt_true h
  unfold bt
  rw [ab_append h1.1, List.length_append]
  simp only [decide_eq_true_eq]
  exact ⟨by omega, h1.2⟩
theorem chr_append {A B : List Int} (hA : A ≠ []) (h : (chr A).1 ≠ 1 ∨ ab A 0 < 128) : chr (A ++ B) = chr A := by
  have h0 : ab (A ++ B) 0 = ab A 0 := ab_append (List.length_pos_iff.2 hA)
  rcases h with h | h
  · have hc : chr A = chr A := rfl
    conv at hc => rhs; unfold chr
    conv => lhs; unfold chr
    rw [h0]
    split at hc
    · rename_i k
      rw [if_pos ⟨k.1, k.2.1, bt_append k.2.2⟩, hc]
    · split at hc
      · rename_i k
        rw [if_neg (fun x => by omega), if_pos ⟨k.1, k.2.1, bt_append k.2.2.1, bt_append k.2.2.2⟩, hc]
      · split at hc
        · rename_i k
          rw [if_neg (fun x => by omega), if_neg (fun x => by omega), if_pos ⟨k.1, k.2.1, bt_append k.2.2.1, bt_append k.2.2.2.1, bt_append k.2.2.2.2⟩, hc]
        · rw [hc] at h; exact absurd rfl h
  · rw [chr_ascii h, chr_ascii (by rw [h0]; exact h)]
theorem Whl.append {A B : List Int} (h : Whl A) (k : Whl B) : Whl (A ++ B) := by
  induction h with
  | nil => exact k
  | @cons Z hz hw _ ih =>
    have hc := chr_append (B := B) hz hw
    have hl := chr_le hz
    refine Whl.cons (by simp [hz]) ?_ ?_
    · rw [hc, ab_append (List.length_pos_iff.2 hz)]; exact hw
    · rw [hc, List.drop_append_of_le_length hl]; exact ih
theorem Bord.append {A B : List Int} {i u : Nat} (h : Bord A i u) (w : Whl A) : Bord (A ++ B) i u := by
  induction h with
  | zero => exact Bord.zero _
  | @step Z i u hz h0 ih =>
    cases w with
    | nil => exact absurd rfl hz
    | cons _ hw hr =>
      have hc := chr_append (B := B) hz hw
      have hl := chr_le hz
      have := Bord.step (Z := Z ++ B) (i := i) (u := u) (by simp [hz]) (by rw [hc, List.drop_append_of_le_length hl]; exact ih hr)
      rwa [hc] at this
/-- The units of texts that are joined. -/
theorem Bord.join {A B : List Int} {j v : Nat} (w : Whl A) (h : Bord B j v) : Bord (A ++ B) (A.length + j) (unis A + v) := by
  refine ((Bord.full A).append w).add ?_
  rw [List.drop_left]; exact h

/-- The parts that texts are made of. -/
def prts : List ByteArray := [⟨#[97]⟩, ⟨#[98]⟩, ⟨#[32]⟩, ⟨#[10]⟩, ⟨#[10]⟩, ⟨#[195, 169]⟩, ⟨#[195, 159]⟩, ⟨#[226, 130, 172]⟩, ⟨#[232, 170, 158]⟩, ⟨#[240, 159, 152, 128]⟩, ⟨#[240, 157, 132, 158]⟩, ⟨#[120, 49]⟩, ⟨#[13, 10]⟩, ⟨#[40]⟩, ⟨#[34]⟩]
/-- Whole characters, as a test. -/
def whlB : Nat → List Int → Bool
  | 0, Z => Z.isEmpty
  | n + 1, Z => Z.isEmpty || ((decide ((chr Z).1 ≠ 1) || decide (ab Z 0 < 128)) && whlB n (Z.drop (chr Z).1))
theorem whl_of {n : Nat} : ∀ {Z : List Int}, whlB n Z = true → Whl Z := by
  induction n with
  | zero => intro Z h; have : Z = [] := by simpa [whlB] using h
            subst this; exact Whl.nil
  | succ n ih =>
    intro Z h
    by_cases hz : Z = []
    · subst hz; exact Whl.nil
    · have hz2 : Z.isEmpty = false := by cases Z with
        | nil => exact absurd rfl hz
        | cons _ _ => rfl
      simp only [whlB, hz2, Bool.false_or, Bool.and_eq_true, Bool.or_eq_true, decide_eq_true_eq] at h
      exact Whl.cons hz h.1 (ih h.2)
theorem prts_ok : ∀ p ∈ prts, p.size ≤ 4 ∧ Whl (sb p) := by
  have h : (prts.all fun p => decide (p.size ≤ 4) && whlB 5 (sb p)) = true := by decide +kernel
  intro p hp
  have := List.all_eq_true.1 h p hp
  simp only [Bool.and_eq_true, decide_eq_true_eq] at this
  exact ⟨this.1, whl_of this.2⟩
theorem psb_append (s t : ByteArray) : sb (s ++ t) = sb s ++ sb t := by unfold sb; simp

set_option maxRecDepth 100000 in
set_option maxHeartbeats 2000000 in
theorem rtext_any (a : Option Addr) (cap : Nat) (ls : List Int) (w : World) (h : Sli .i64 w a cap ls) (hi : ∀ n ∈ ls, -9223372036854775808 ≤ n ∧ n ≤ 9223372036854775807) :
    Calls Tryd.prog 24 #[.slice a ls.length cap] w fun e w' => ∃ s, e = .returned (.string s) ∧ s.size ≤ 96 ∧ Whl (sb s) ∧ Below w.heap.size w w' := by
  obtain ⟨n, hn⟩ : ∃ n, ls.length = n := ⟨_, rfl⟩
  obtain ⟨B, hB⟩ : ∃ B, w.heap.size = B := ⟨_, rfl⟩
  have hcore : ∃ bb off, (n = 0 ∨ (a = some ⟨bb, off, none⟩ ∧ bb < B)) ∧ ∀ j, j < n → w.cell? ⟨bb, off + j, none⟩ = some (.int .i64 (ls[j]?.getD 0)) := by
    rcases h.cells with rfl | ⟨bb, off, ha, hlt, hcb⟩
    · exact ⟨0, 0, .inl (by simpa using hn.symm), fun j hj => absurd hj (by simp at hn; omega)⟩
    · exact ⟨bb, off, .inr ⟨ha, by omega⟩, fun j hj => hcb j (by omega)⟩
  obtain ⟨bb, off, hab, hcb⟩ := hcore
  have hle := h.le
  have hmx := h.mx
  rw [hn] at hle ⊢
  have hat : ∀ k : Nat, -9223372036854775808 ≤ ls[k]?.getD 0 ∧ ls[k]?.getD 0 ≤ 9223372036854775807 := by
    intro k
    cases hk : ls[k]? with
    | none => simp
    | some x => exact hi x (List.mem_of_getElem? hk)
  obtain ⟨W1, hW1⟩ : ∃ W, w.alloc (.cells (prts.map Value.string).toArray 9) = W := ⟨_, rfl⟩
  have hblk : ∀ q, q < 15 → ∃ p, W1.cell? ⟨B, q, none⟩ = some (.string p) ∧ p.size ≤ 4 ∧ Whl (sb p) := by
    intro q hq
    have hq2 : q < prts.length := hq
    refine ⟨prts[q], ?_, prts_ok _ (List.getElem_mem hq2)⟩
    rw [← hW1, ← hB]
    have bk : Blk (w.alloc (.cells (prts.map Value.string).toArray 9)) w.heap.size 9 (prts.map Value.string).toArray := Blk.new _ _ _
    rw [bk.cell q]
    simp [hq2]
  have hb1 : Below B w W1 := by rw [← hW1, ← hB]; exact (Below.refl _ _).alloc (Nat.le_refl _) _
  have hs1 : B < W1.heap.size := by rw [← hW1, ← hB]; simp
  have HAB := Lib.hid hab; have HCB := Lib.hid hcb; have HI := Lib.hid hat; have HB := Lib.hid hB; have HBLK := Lib.hid hblk; have HB1 := Lib.hid hb1; have HW := Lib.hid hW1
  clear h hi hn hab hcb hB hat hblk hb1 hW1
  go_enter Tryd.func24, Tryd.ntmps24
  go_wp2_with fail
  rw [show w.alloc (.cells #[.string ⟨#[97]⟩, .string ⟨#[98]⟩, .string ⟨#[32]⟩, .string ⟨#[10]⟩, .string ⟨#[10]⟩, .string ⟨#[195, 169]⟩, .string ⟨#[195, 159]⟩, .string ⟨#[226, 130, 172]⟩, .string ⟨#[232, 170, 158]⟩, .string ⟨#[240, 159, 152, 128]⟩, .string ⟨#[240, 157, 132, 158]⟩, .string ⟨#[120, 49]⟩, .string ⟨#[13, 10]⟩, .string ⟨#[40]⟩, .string ⟨#[34]⟩] 9) = W1 from HW.out, HB.out]
  go_loopw [4, 5] (fun t q wr => ∃ (i : Nat) (s : ByteArray), i ≤ n ∧ i ≤ 24 ∧ s.size ≤ 4 * i ∧ q = .int .i64 (i : Int) ∧ t = .string s ∧ Hid (Whl (sb s)) ∧ wr = W1) (fun _ q _ => 24 - (intOf q).toNat)
  case atStart => exact ⟨0, ⟨#[]⟩, by omega, by omega, Nat.le_refl _, rfl, rfl, Whl.nil, by trivial⟩
  case round =>
    obtain ⟨i, s, hi, hi24, hss, rfl, rfl, HWH, rfl⟩ := hrel
    have hways : (i < n ∧ i < 24) ∨ ¬ i < n ∨ (i < n ∧ ¬ i < 24) := by omega
    rcases hways with ⟨h1, h2⟩ | h1 | ⟨h1, h2⟩
    case inl =>
      obtain ⟨ha, hbb⟩ := HAB.out.resolve_left (by omega)
      subst ha
      have hck := (HB1.out.cell (p := ⟨bb, off + i, none⟩) hbb).trans (HCB.out i h1)
      have hx := HI.out i
      generalize ls[i]?.getD 0 = x at hck hx
      obtain ⟨hx1, hx2⟩ := hx
      go_wp2_with fail
      refine (around_any x 15 _ hx1 hx2 (by omega) (by omega)).mono ?_
      rintro e w' ⟨q, hq, rfl, rfl⟩
      obtain ⟨p, hp1, hp2, hp3⟩ := HBLK.out q hq
      have HWH2 : Hid (Whl (sb (s ++ p))) := Lib.hid (by rw [psb_append]; exact HWH.out.append hp3)
      have hsp : (s ++ p).size ≤ 4 * (i + 1) := by rw [ByteArray.size_append]; omega
      have hsum : s.size + p.size ≤ 9223372036854775807 := by omega
      clear hp3
      go_wp2
      go_roundw
      case rel => exact ⟨i + 1, _, by omega, by omega, hsp, by go_num, rfl, HWH2, by trivial⟩
      case measure => simp [intOf]; omega
    all_goals
      go_wp2
      go_ret
      exact ⟨s, rfl, by omega, HWH.out, by rw [HB.out]; exact HB1.out⟩

end Go.Proofs.YtgfhhpodcnohpaaDoor
