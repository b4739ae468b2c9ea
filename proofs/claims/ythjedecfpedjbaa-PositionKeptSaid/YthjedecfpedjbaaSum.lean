/- The contract of Sum: it returns what P1.1 says, and writes nothing that lay. Conditions: the label has at most 1000 bytes, the list at most 1000 integers. -/
import Derived.Test.YthjedecfpedjbaaWords
namespace Go.Proofs.Ythjedecfpedjbaa
open Go.RowKit Go.Shelf
attribute [local go_sem] Oper.semAt_some



theorem wrap_ofInt (n : Int) : IntKind.u64.wrap n = U (BitVec.ofInt 64 n) := by
  rw [wrap_u64]; unfold U; rw [BitVec.toNat_ofInt]; omega
theorem natU (n m : Nat) (h : n ≤ 1000000) (e : m = n) : (n : Int) = U (BitVec.ofInt 64 m) := by
  subst e; rw [← wrap_ofInt, wrap_u64]; omega
theorem mix_at (s v : BitVec 64) (x y : Int) (hx : x = U s) (hy : y = U v) (w : World) :
    Calls Try.prog 70 #[.int .u64 x, .int .u64 y] w fun e w' => e = .returned (.int .u64 (U (mixB s v))) ∧ w = w' := by
  subst hx hy; exact mix_any s v w

/-- The state when the label has been absorbed, its length and the number of integers. -/
def headS (lab : List Int) (n : Nat) : BitVec 64 := mixB (mixB (absorb 0#64 (wordsL lab)) (BitVec.ofInt 64 lab.length)) (BitVec.ofInt 64 n)
theorem sumS_head (lab ws : List Int) : sumS lab ws = mixB (absorb (headS lab ws.length) (ws.map (BitVec.ofInt 64))) 0#64 := rfl
/-- The state behind k groups. -/
def labS (lab : List Int) (k : Nat) : BitVec 64 := absorb 0#64 ((List.range k).map (word lab))
theorem labS_succ (lab : List Int) (k : Nat) : labS lab (k + 1) = mixB (labS lab k) (word lab k) := by
  unfold labS; rw [List.range_succ, List.map_append, List.map_singleton, absorb_snoc]
theorem labS_all (lab : List Int) : labS lab (nGroups lab.length) = absorb 0#64 (wordsL lab) := rfl

theorem Keep.setCell {T : Nat → Prop} {W : World} {b : Nat} (hT : T b) (v : Value) : Keep T W (W.setCell ⟨b, 0, none⟩ v) :=
  ⟨by simp [World.setCell], fun k _ hk => Below.heap_setCell _ _ _ k (fun e => hk (e ▸ hT))⟩

/-- The state behind k integers. -/
def accS (S : BitVec 64) (ws : List Int) (k : Nat) : BitVec 64 := absorb S ((ws.take k).map (BitVec.ofInt 64))
theorem accS_succ (S : BitVec 64) (ws : List Int) (k : Nat) (h : k < ws.length) : accS S ws (k + 1) = mixB (accS S ws k) (BitVec.ofInt 64 (ws[k]?.getD 0)) := by
  unfold accS; rw [List.take_succ_eq_append_getElem h, List.map_append, List.map_singleton, absorb_snoc]; simp [h]
theorem accS_all (S : BitVec 64) (ws : List Int) : accS S ws ws.length = absorb S (ws.map (BitVec.ofInt 64)) := by unfold accS; rw [List.take_length]

set_option maxRecDepth 100000 in
set_option maxHeartbeats 1000000 in
theorem sum_any (s : ByteArray) (a : Option Addr) (cap : Nat) (ws : List Int) (w : World) (hs : s.size ≤ 1000) (hl : ws.length ≤ 1000) (hc : Cells .i64 w a ws) :
    Calls Try.prog 55 #[.string s, .slice a ws.length cap] w fun e w' => e = .returned (.int .u64 (U (sumS (sb s) ws))) ∧ Below w.heap.size w w' := by
  have hcore : ∃ b off, (ws.length = 0 ∨ (a = some ⟨b, off, none⟩ ∧ b < w.heap.size)) ∧ ∀ j, j < ws.length → w.cell? ⟨b, off + j, none⟩ = some (.int .i64 (ws[j]?.getD 0)) := by
    rcases hc with rfl | ⟨b, off, ha, hlt, hcb⟩
    · exact ⟨0, 0, .inl rfl, fun j hj => absurd hj (Nat.not_lt_zero _)⟩
    · exact ⟨b, off, .inr ⟨ha, hlt⟩, hcb⟩
  obtain ⟨b, off, hab, hcb⟩ := hcore
  have HCB := Lib.hid hcb
  clear hcb hc
  have HAB := Lib.hid hab
  clear hab
  refine (callsIn_wide (n := 0)).1 ?_
  refine callsIn_of_wp_marks Try.func55 rfl trivial ?_ rfl
  simp only [Try.ntmps55, List.size_toArray, List.length_cons, List.length_nil, Nat.reduceAdd, Nat.reduceSub, Array.replicate_succ, Array.replicate_zero, List.push_toArray, List.append_toArray, List.nil_append, List.cons_append]
  have kc := fun (W : World) => run_bytes_of_string (P := Try.prog) W 9 54 5 s Try.underlying9 Try.underlying54 Try.underlying5
  gi_wp2_with (refine ⟨trivial, rfl, ?_⟩; gi_at_call 54; refine (callsIn_wide.2 (wordsOf_any _ _ _ _)).mono ?_; rintro e w' ⟨rfl, rfl⟩)
  have hG1 := grownCap_ge (w.alloc (.cells #[.int .u64 0] 65)) s.size 0 5
  have hG2 := grownCap_le_maxLen (w.alloc (.cells #[.int .u64 0] 65)) s.size 0 5 (by unfold maxLen; omega)
  clear kc
  generalize grownCap (w.alloc (.cells #[.int .u64 0] 65)) s.size 0 5 = G at hG1 hG2 ⊢
  unfold maxLen at hG2
  obtain ⟨W0, hW0⟩ : ∃ W0, (((w.alloc (.cells #[.int .u64 0] 65)).alloc (.cells (bytesRow s G) 5 ((bytesRow s G).size, (bytesRow s G).size + 1))).alloc (.cells #[.slice (some ⟨w.heap.size + 1, 0, none⟩) s.size G] 54)).drew = W0 := ⟨_, rfl⟩
  have hz0 : W0.heap.size = w.heap.size + 3 := by rw [← hW0]; show Array.size (World.heap (World.alloc _ _)) = _; simp
  have hB0 : Below w.heap.size w W0 := by rw [← hW0]; exact ((((Below.refl _ _).alloc (Nat.le_refl _) _).alloc (by simp) _).alloc (by simp; omega) _).drew
  have bX : Boxed W0 w.heap.size 65 (.int .u64 0) := by rw [← hW0]; exact ((Boxed.new _ _ _).alloc _).alloc _
  have bD : W0.heap[w.heap.size + 1]? = some (.cells (bytesRow s G) 5 ((bytesRow s G).size, (bytesRow s G).size + 1)) := by
    rw [← hW0]
    have h1 := World.alloc_heap_new (w.alloc (.cells #[.int .u64 0] 65)) (.cells (bytesRow s G) 5 ((bytesRow s G).size, (bytesRow s G).size + 1))
    rw [World.size_alloc] at h1
    exact (Below.heap_alloc _ _ _ (by simp)).trans h1
  have bB : Boxed W0 (w.heap.size + 1 + 1) 54 (.slice (some ⟨w.heap.size + 1, 0, none⟩) s.size G) := by
    rw [← hW0]
    have h1 := World.alloc_heap_new ((w.alloc (.cells #[.int .u64 0] 65)).alloc (.cells (bytesRow s G) 5 ((bytesRow s G).size, (bytesRow s G).size + 1))) (.cells #[.slice (some ⟨w.heap.size + 1, 0, none⟩) s.size G] 54)
    rw [World.size_alloc, World.size_alloc] at h1
    exact h1
  rw [hW0]
  clear hW0
  have hsl := sb_len s
  rw [← hsl] at bB
  refine wpIn_gives (gf := 67) (lb := #[.pointer (some ⟨w.heap.size + 1 + 1, 0, none⟩)]) rfl (enters_of Try.func67 (by kernel_rfl) rfl)
    (words_gives (w.heap.size + 1 + 1) (w.heap.size + 1) 0 G (sb s) W0 (by omega) (by omega) hG2 (sb_byt s) bB.cell (by omega) (by omega) (fun j hj => bytesRow_cell s G W0 5 _ _ bD j (by omega))) (fun _ => rfl) (fun k hk => by omega)
    (fun k A => Boxed A w.heap.size 65 (.int .u64 (U (labS (sb s) k))) ∧ Below w.heap.size w A)
    (fun k A C hs hb => ⟨(hb.block _ (by omega)).trans hs.1, hs.2.trans (hb.mono (by omega))⟩)
    ⟨bX, hB0⟩ (fun k => k = w.heap.size) (fun k hk => by omega)
    (fun k => { tmps := #[.string s, Value.slice a ws.length cap, undef, undef, .int .u64 0, .pointer (some ⟨w.heap.size, 0, none⟩), .int .u64 (U (word (sb s) k)), undef, undef, .string s,
      .slice (some ⟨w.heap.size + 1, 0, none⟩) s.size G, .func (.func 67) #[] #[.pointer (some ⟨w.heap.size + 1 + 1, 0, none⟩)], .int .u64 (U (word (sb s) k)),
      undef, undef, undef, undef, undef, undef, undef, undef, undef, undef, undef, undef, undef, undef, undef, undef, undef, undef, undef, undef, undef, undef, undef, undef, undef, undef], defers := [] }) ?assign ?body ?done
  case assign =>
    intro l' k A K hK
    gi_wp2
    exact hK
  case body =>
    rintro l' k A hk hzA ⟨hx, hBA⟩
    have hcx := hx.cell
    have hfx := hx.frozen
    gi_wp2_with (refine ⟨trivial, rfl, ?_⟩; gi_at_call 70; refine (CallsIn.inRound l' (callsIn_wide.2 (mix_any _ _ _))).mono ?_; rintro e w' ⟨rfl, rfl⟩)
    refine ⟨⟨?_, hBA.setCell (p := ⟨w.heap.size, 0, none⟩) (Nat.le_refl _) _⟩, Keep.setCell (T := fun k => k = w.heap.size) (by rfl) _⟩
    rw [labS_succ]
    exact hx.set _
  case done =>
    rintro A hzA ⟨hx, hBA⟩ hK
    rw [labS_all] at hx
    have hcx := hx.cell
    have hfx := hx.frozen
    obtain ⟨S0, hS0⟩ : ∃ S0, absorb 0#64 (wordsL (sb s)) = S0 := ⟨_, rfl⟩
    obtain ⟨S1, hS1⟩ : ∃ S1, mixB S0 (BitVec.ofInt 64 (sb s).length) = S1 := ⟨_, rfl⟩
    obtain ⟨S2, hS2⟩ : ∃ S2, mixB S1 (BitVec.ofInt 64 ws.length) = S2 := ⟨_, rfl⟩
    have hm1 := fun W => mix_at S0 (BitVec.ofInt 64 (sb s).length) (U S0) (s.size : Int) rfl (natU s.size (sb s).length (by omega) (by omega)) W
    have hm2 := fun W => mix_at S1 (BitVec.ofInt 64 ws.length) (U S1) (ws.length : Int) rfl (natU ws.length ws.length (by omega) rfl) W
    have hhead : headS (sb s) ws.length = S2 := by unfold headS; rw [hS0, hS1, hS2]
    rw [hS0] at hcx hx
    rw [hS1] at hm1
    rw [hS2] at hm2
    have HH := Lib.hid hhead
    have HM1 := Lib.hid hm1
    have HM2 := Lib.hid hm2
    have HX := Lib.hid hx
    clear hS0 hS1 hS2 hm1 hm2 hhead hsl hx
    gi_wp2_with fail
    refine ⟨trivial, rfl, ?_⟩
    refine (callsIn_wide.2 (HM1.out _)).mono ?_
    rintro e w' ⟨rfl, rfl⟩
    gi_wp2_with fail
    refine ⟨trivial, rfl, ?_⟩
    refine (callsIn_wide.2 (HM2.out _)).mono ?_
    rintro e w' ⟨rfl, rfl⟩
    gi_wp2_with fail
    gi_loopw [28] (fun i wr => ∃ k : Nat, k ≤ ws.length ∧ i = .int .i64 k ∧ Boxed wr w.heap.size 65 (.int .u64 (U (accS S2 ws k))) ∧ wr.heap[w.heap.size + 3]? = some (.deferred (some [])) ∧ Below w.heap.size w wr)
      (fun i _ => ws.length - (intOf i).toNat)
    case atStart => exact ⟨0, Nat.zero_le _, rfl, (HX.out.set _).set _, (Below.heap_setCell _ _ _ _ (by show w.heap.size + 3 ≠ w.heap.size; omega)).trans ((Below.heap_setCell _ _ _ _ (by show w.heap.size + 3 ≠ w.heap.size; omega)).trans (hz0 ▸ hK)), (hBA.setCell (p := ⟨w.heap.size, 0, none⟩) (Nat.le_refl _) _).setCell (p := ⟨w.heap.size, 0, none⟩) (Nat.le_refl _) _⟩
    case round =>
      obtain ⟨k, hk, rfl, hxr, hKr, hBr⟩ := hrel
      have hcr := hxr.cell
      have hfr := hxr.frozen
      clear hcx hfx
      by_cases hlt : k < ws.length
      · obtain ⟨ha, hbl⟩ : a = some ⟨b, off, none⟩ ∧ b < w.heap.size := HAB.out.resolve_left (by omega)
        have hck := (hBr.cell (p := ⟨b, off + k, none⟩) hbl).trans (HCB.out k hlt)
        have hm := fun W => mix_at (accS S2 ws k) (BitVec.ofInt 64 (ws[k]?.getD 0)) (U (accS S2 ws k)) (IntKind.u64.wrap (ws[k]?.getD 0)) rfl (wrap_ofInt _) W
        rw [← accS_succ S2 ws k hlt] at hm
        obtain ⟨S4, hS4⟩ : ∃ S4, accS S2 ws (k + 1) = S4 := ⟨_, rfl⟩
        obtain ⟨S5, hS5⟩ : ∃ S5, accS S2 ws k = S5 := ⟨_, rfl⟩
        rw [hS4, hS5] at hm
        rw [hS5] at hcr hxr
        generalize ws[k]?.getD 0 = x at hck hm
        have HM := Lib.hid hm
        have HS4 := Lib.hid hS4
        have HXR := Lib.hid hxr
        clear hm hS4 hS5 hxr
        subst ha
        gi_wp2_with fail
        refine ⟨trivial, rfl, ?_⟩
        with_reducible refine (callsIn_wide.2 (HM.out _)).mono ?_
        rintro e w' ⟨rfl, rfl⟩
        gi_wp2_with fail
        go_roundw
        case rel => exact ⟨k + 1, by omega, by go_num, by rw [HS4.out]; exact HXR.out.set _, (Below.heap_setCell _ _ _ _ (by show w.heap.size + 3 ≠ w.heap.size; omega)).trans hKr, hBr.setCell (p := ⟨w.heap.size, 0, none⟩) (Nat.le_refl _) _⟩
        case measure => simp [intOf]; omega
      · have hkl : k = ws.length := by omega
        subst hkl
        obtain ⟨S3, hS3⟩ : ∃ S3, accS S2 ws ws.length = S3 := ⟨_, rfl⟩
        rw [hS3] at hxr hcr
        have hm := fun W => mix_at S3 0#64 (U S3) 0 rfl rfl W
        have hfin : mixB S3 0#64 = sumS (sb s) ws := by rw [sumS_head, HH.out, ← hS3, accS_all]
        rw [hfin] at hm
        have HM := Lib.hid hm
        clear hm hfin hS3
        gi_wp2_with fail
        refine ⟨trivial, rfl, ?_⟩
        refine (callsIn_wide.2 (HM.out _)).mono ?_
        rintro e w' ⟨rfl, rfl⟩
        gi_wp2
        refine ⟨by simp, .inl ⟨_, _, rfl, run_takeDeferred hKr, ?_⟩⟩
        refine ⟨_, results_tmp rfl _ _ _, rfl, hBr.trans ⟨rfl, rfl, rfl, by simp, fun j hj => World.putObj_heap_other (by omega)⟩⟩

end Go.Proofs.Ythjedecfpedjbaa
