/- Contracts of the Reader's lists: Int, Bool, Raw, Text and Ints. Conditions: at most 100000 bytes are left. -/
import Derived.Test.YthjedecfpedjbaaVRead
import Derived.Laws.OwnMore
namespace Go.Proofs.Ythjedecfpedjbaa
open Go.RowKit Go.Shelf
set_option linter.unusedVariables false

theorem rdU_bad {st : Rs} {n : Nat} {e : Int} (h : rdU st = (n, .bad e)) : n = 0 := by
  cases st with
  | bad x => simp [rdU] at h; omega
  | ok zs =>
    cases hg : goU 0 0 zs with
    | error e => simp [rdU, hg] at h; omega
    | ok x => simp [rdU, hg] at h
theorem Rd.u_lt {w : World} {base p : Nat} {st : Rs} (h : Rd w base p st) : (rdU st).1 < 18446744073709551616 := by
  cases st with
  | bad x => simp [rdU]
  | ok zs => exact rdU_lt h.byt.1

theorem rint_any (base p : Nat) (st : Rs) (w : World) (h : Rd w base p st) :
    Calls Try.prog 34 #[.pointer (some ⟨p, 0, none⟩)] w (RPost base p (.int .i64 (rdI st).1) (rdI st).2 w) := by
  have c1 := ruint_any base p st w h
  have hlt := h.u_lt
  unfold rdI
  obtain ⟨⟨n, s⟩, hR⟩ : ∃ R, rdU st = R := ⟨_, rfl⟩
  rw [hR] at c1 hlt ⊢
  have c2 := fun W => unzig_any n W hlt
  have C1 := Lib.hid c1; have C2 := Lib.hid c2
  clear c1 c2 h hR hlt
  go_enter Try.func34, Try.ntmps34
  go_wp2_with fail
  refine C1.out.mono ?_
  rintro e w1 ⟨rfl, h1⟩
  have H1 := Lib.hid h1
  clear h1
  go_wp2_with fail
  refine (C2.out _).mono ?_
  rintro e w2 ⟨rfl, rfl⟩
  go_wp2
  go_ret
  exact ⟨rfl, H1.out⟩

/-- A call hands back a list in memory of its own and leaves the reader in a state. -/
def LPost (k : IntKind) (e : TypeId) (base p : Nat) (zs : List Int) (st : Rs) (w : World) (en : Ending) (w' : World) : Prop :=
  ∃ v, en = .returned v ∧ w'.ownsRow w.heap.size e 1 v zs.length (zs.map (Value.int k)) ∧ Rd w' base p st ∧ Only (fun j => j = p) w w'

theorem Rd.left_len {w : World} {base p : Nat} {st : Rs} (h : Rd w base p st) : ∃ a m cap e, m ≤ 100000 ∧ m ≤ cap ∧ w.cell? ⟨p, 0, none⟩ = some (.slice a m cap) ∧ w.cell? ⟨p, 1, none⟩ = some (.int .i64 e) ∧ (∀ zs, st = .ok zs → m = zs.length ∧ e = 0) ∧ (∀ x, st = .bad x → e = x ∧ (x = 2 ∨ x = 3)) := by
  obtain ⟨a, cap, zs, e, h0, g1, g2, g3, g4, g5, g6, h7⟩ := h
  refine ⟨a, zs.length, cap, e, g6, g2, h0.cell 0, h0.cell 1, ?_, ?_⟩
  · rintro l rfl; obtain ⟨rfl, rfl⟩ := h7; exact ⟨rfl, rfl⟩
  · rintro x rfl; obtain ⟨rfl, h⟩ := h7; exact ⟨rfl, h⟩

/-- An owned row is kept where the reader alone is written. -/
theorem own_only {w w' : World} {T : Nat → Prop} {b e n : Nat} {v : Value} {xs : List Value} (h : w.ownsRow b e 1 v n xs) (ho : Only T w w') (hT : ∀ k, b ≤ k → k < w.heap.size → ¬ T k) : w'.ownsRow b e 1 v n xs :=
  own_same h (fun g hg => ho.block g (h.lt g hg).2 (hT g (h.lt g hg).1 (h.lt g hg).2))
theorem rep_len (n : Nat) (x : Int) : (List.replicate n x).length = n := by simp
theorem Rd.set_far {w : World} {base p : Nat} {st : Rs} (h : Rd w base p st) {q : Addr} (hq : p < q.block) (v : Value) : Rd (w.setCell q v) base p st :=
  h.keep fun b _ hb => Below.heap_setCell w q v b (by omega)
theorem Rd.grown {w w' : World} {base p : Nat} {st : Rs} (h : Rd w base p st) (hg : w.grownBy w' none) : Rd w' base p st :=
  h.keep fun b _ hb => hg.block b (by have := h.lt.2; omega) (by simp)

theorem row_frozen {w : World} {base e n g cap : Nat} {xs : List Value} (h : w.ownsRow base e 1 (.slice (some ⟨g, 0, none⟩) n cap) n xs) (j : Nat) : w.frozen? ⟨g, j, none⟩ = false := by
  rcases h.2 with ⟨h1, _⟩ | ⟨g', cap', cur, h1, _, hb, _⟩
  · cases h1
  · cases h1; simp [World.frozen?, hb]
/-- The first k elements have been stored. -/
def Part (xs zs : List Int) (k n : Nat) : Prop := zs.length = n ∧ zs.take k = xs ∧ xs.length = k
theorem Part.step {xs zs : List Int} {k n : Nat} (h : Part xs zs k n) (hk : k < n) (x : Int) : Part (xs ++ [x]) (zs.set k x) (k + 1) n := by
  obtain ⟨h1, h2, h3⟩ := h
  refine ⟨by simpa using h1, ?_, by simp [h3]⟩
  rw [List.take_succ_eq_append_getElem (by simp; omega)]
  rw [List.take_set_of_le (Nat.le_refl k)]
  simp [h2]

set_option maxRecDepth 100000 in
set_option maxHeartbeats 2000000 in
theorem rlist_byte (base p : Nat) (st : Rs) (w : World) (h : Rd w base p st) :
    Calls Try.prog 65 #[.pointer (some ⟨p, 0, none⟩), .func (.func 66) #[.pointer (some ⟨p, 0, none⟩)] #[]] w (LPost .u8 5 base p (rdList oct st).1 (rdList oct st).2 w) := by
  obtain ⟨i0, hi, hz0, hz1, hz2⟩ := info_parts info5
  have c1 := ruint_any base p st w h
  have hlt := h.u_lt
  have hdef : rdList oct st = match rdN st with
    | (_, .bad e) => ([], .bad e)
    | (n, .ok r) => match itS oct (.ok r) n with
      | .bad e => ([], .bad e)
      | .ok r' => (itL oct (.ok r) n, .ok r') := rfl
  unfold rdN at hdef
  obtain ⟨⟨n, s⟩, hR⟩ : ∃ R, rdU st = R := ⟨_, rfl⟩
  rw [hR] at c1 hlt hdef
  obtain ⟨Z, hZ⟩ : ∃ Z, rdList oct st = Z := ⟨_, rfl⟩
  rw [hZ] at hdef ⊢
  have hps := h.lt.2
  have C1 := Lib.hid c1; have HD := Lib.hid hdef; have HR := Lib.hid hR
  clear c1 h hR hZ hdef
  go_enter Try.func65, Try.ntmps65
  go_wp2_with fail
  refine C1.out.mono ?_
  rintro e w1 ⟨rfl, hr1, ho1⟩
  obtain ⟨a, m, cap, e, hm, hmc, hc0, hc1, hok, hbd⟩ := hr1.left_len
  have hf1 : w1.frozen? ⟨p, 1, none⟩ = false := by obtain ⟨_, _, _, _, h0, _⟩ := hr1; exact h0.frozen 1
  have H1 := Lib.hid (And.intro hr1 ho1)
  have hsz1 := ho1.size
  clear hr1 ho1
  cases s with
  | bad x =>
    have hn0 := rdU_bad HR.out
    subst hn0
    obtain ⟨rfl, hx⟩ := hbd x rfl
    have hgt : ¬ (m : Int) < 0 := by omega
    clear hok hbd
    go_wp2_with (at_make; refine wpList_make_full _ rfl _ _ 54 rfl w.heap.size 5 i0 (.int .u8 0) 1 Try.underlying54 hi hz0 hz1 .u64 .u64 _ _ 0 rfl rfl rfl rfl (by omega) (by unfold maxLen; omega) hsz1 ?_; intro w2 hown2 hgrow2)
    have H2 : Hid (RdW base p (.bad e) w w2) := ⟨H1.out.1.grown hgrow2, H1.out.2.grown hgrow2 (by simp)⟩
    clear hown2 hgrow2
    go_loopw [25] (fun i wr => i = .int .i64 0 ∧ Hid (RdW base p (.bad e) w wr)) (fun _ _ => 0)
    case atStart => exact ⟨rfl, H2⟩
    case round =>
      obtain ⟨rfl, HR2⟩ := hrel
      obtain ⟨_, _, _, e2, _, _, hd0, hd1, _, hb2⟩ := HR2.out.1.left_len
      obtain ⟨rfl, hx2⟩ := hb2 e rfl
      have hq : (e2 != 0) = true := by simp; omega
      clear hb2
      go_wp2
      go_ret
      refine ⟨_, rfl, ?_, ?_, HR2.out.2⟩
      · rw [HD.out]; simpa using World.ownsRow_nil _ _ _ _
      · rw [HD.out]; exact HR2.out.1
  | ok r =>
    obtain ⟨rfl, rfl⟩ := hok r rfl
    clear hbd
    by_cases hgt : (r.length : Int) < (n : Int)
    · go_wp2
      go_ret
      have hd := HD.out
      simp only [if_pos (show r.length < n by omega)] at hd
      obtain ⟨_, _, hx⟩ := H1.out.1.ok_err
      have hx3 := hx 3 (.inr rfl)
      refine ⟨_, rfl, ?_, ?_, H1.out.2.trans hx3.2⟩
      · rw [hd]; simpa using World.ownsRow_nil _ _ _ _
      · rw [hd]; exact hx3.1
    · have hd := HD.out
      simp only [if_neg (show ¬ r.length < n by omega)] at hd
      have HD2 := Lib.hid hd
      clear hd HD
      have hnb : n ≤ 100000 := by omega
      go_wp2_with (at_make; refine wpList_make_full _ rfl _ _ 54 rfl w.heap.size 5 i0 (.int .u8 0) 1 Try.underlying54 hi hz0 hz1 .u64 .u64 _ _ n rfl rfl rfl rfl (by rw [hz2]; omega) (by unfold maxLen; omega) hsz1 ?_; intro w2 hown2 hgrow2)
      obtain ⟨g, hg⟩ : ∃ g, w1.heap.size = g := ⟨_, rfl⟩
      have hgp : p < g := by have := H1.out.1.lt; omega
      rw [hg] at hown2 ⊢
      rw [Nat.mul_one, show (Value.int IntKind.u8 0).cells = #[Value.int IntKind.u8 0] from rfl, toList_madeCells_one, ← List.map_replicate] at hown2
      have H2 : Hid (∃ zs, Part (itL oct (.ok r) 0) zs 0 n ∧ w2.ownsRow w.heap.size 5 1 (.slice (some ⟨g, 0, none⟩) n n) n (zs.map (Value.int .u8)) ∧ RdW base p (itS oct (.ok r) 0) w w2) :=
        ⟨List.replicate n 0, ⟨by simp, by simp [itL], by simp [itL]⟩, hown2, H1.out.1.grown hgrow2, H1.out.2.grown hgrow2 (by simp)⟩
      have hgs : w.heap.size ≤ g := by omega
      clear hown2 hgrow2 hg H1 hc0 hc1 hf1 hsz1
      go_loopw [25] (fun i wr => ∃ k : Nat, k ≤ n ∧ i = .int .i64 k ∧ Hid (∃ zs, Part (itL oct (.ok r) k) zs k n ∧ wr.ownsRow w.heap.size 5 1 (.slice (some ⟨g, 0, none⟩) n n) n (zs.map (Value.int .u8)) ∧ RdW base p (itS oct (.ok r) k) w wr)) (fun i _ => n - (intOf i).toNat)
      case atStart => exact ⟨0, Nat.zero_le _, rfl, H2⟩
      case round =>
        obtain ⟨k, hk, rfl, HR2⟩ := hrel
        obtain ⟨zs, hpart, hown, hrd⟩ := HR2.out
        have HP := Lib.hid hpart
        have HO := Lib.hid hown
        have HRD := Lib.hid hrd
        have hpw : p < w.heap.size := hps
        clear hpart hown hrd
        by_cases hlt : k < n
        · have c2 := octet_any base p _ wr HRD.out.1
          have hE : (oct (itS oct (.ok r) k)).1 = itE oct (.ok r) k := rfl
          have hS : (oct (itS oct (.ok r) k)).2 = itS oct (.ok r) (k + 1) := rfl
          rw [hE, hS] at c2
          obtain ⟨x, hx⟩ : ∃ x, itE oct (.ok r) k = x := ⟨_, rfl⟩
          rw [hx] at c2
          have hL : itL oct (.ok r) k ++ [x] = itL oct (.ok r) (k + 1) := by rw [itL_succ, hx]
          have C2 := Lib.hid c2
          have HL := Lib.hid hL
          clear c2 hE hS hx hL
          go_wp2_with fail
          refine C2.out.mono ?_
          rintro e w3 ⟨rfl, hr3, ho3⟩
          have hown3 := own_only HO.out ho3 (fun j hj _ e => by omega)
          have hcell := row_cell hown3 k hlt
          have hfr := row_frozen hown3 k
          have HO3 := Lib.hid hown3
          have HR3 := Lib.hid (And.intro hr3 (HRD.out.2.trans ho3))
          clear hown3 hr3 ho3
          go_wp2
          go_roundw
          case rel => exact ⟨k + 1, by omega, by go_num, Lib.hid ⟨_, by rw [← HL.out]; exact HP.out.step hlt x, row_stored HO3.out k x, HR3.out.1.set_far (q := ⟨g, k, none⟩) hgp _, HR3.out.2.setCell (p := ⟨g, k, none⟩) (.inl hgs) _⟩⟩
          case measure => simp [intOf]; omega
        · obtain rfl : k = n := by omega
          obtain ⟨_, _, _, e2, _, _, hd0, hd1, hok2, hb2⟩ := HRD.out.1.left_len
          obtain ⟨S, hS⟩ : ∃ S, itS oct (.ok r) k = S := ⟨_, rfl⟩
          rw [hS] at hok2 hb2
          have HS := Lib.hid hS
          clear hS
          cases S with
          | bad x =>
            obtain ⟨rfl, hx2⟩ := hb2 x rfl
            have hq : (e2 != 0) = true := by simp; omega
            clear hb2 hok2
            go_wp2
            go_ret
            have hd := HD2.out
            simp only [HS.out] at hd
            refine ⟨_, rfl, ?_, ?_, HRD.out.2⟩
            · rw [hd]; simpa using World.ownsRow_nil _ _ _ _
            · rw [hd]; have := HRD.out.1; rwa [HS.out] at this
          | ok r' =>
            obtain ⟨_, rfl⟩ := hok2 r' rfl
            clear hb2 hok2
            go_wp2
            go_ret
            have hd := HD2.out
            simp only [HS.out] at hd
            obtain ⟨p1, p2, p3⟩ := HP.out
            have hz : zs = itL oct (.ok r) k := by rw [← p2, List.take_of_length_le (by omega)]
            refine ⟨_, rfl, ?_, ?_, HRD.out.2⟩
            · rw [hd]; simp only; rw [itL_len, ← hz]; exact HO.out
            · rw [hd]; have := HRD.out.1; rwa [HS.out] at this

end Go.Proofs.Ythjedecfpedjbaa
