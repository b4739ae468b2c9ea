/- The reference's Leaves, Text, Depth, Nodes. Conditions: trees of at most 100000 nodes. -/
import Derived.Test.YtfecajeenmnoeaaSRf
import Derived.Lib.MinMax
namespace Go.Proofs.Ytfecajeenmnoeaa
open Go.RowKit Go.Shelf
set_option linter.unusedVariables false

/-- The bytes of leaves, one after the other. -/
def cat : List (Int × ByteArray) → ByteArray
  | [] => ⟨#[]⟩
  | x :: l => x.2 ++ cat l
theorem ba_nil (s : ByteArray) : s ++ (⟨#[]⟩ : ByteArray) = s := by
  apply ByteArray.ext; simp
theorem ba_nil2 (s : ByteArray) : (⟨#[]⟩ : ByteArray) ++ s = s := by
  apply ByteArray.ext; simp
theorem cat_app : ∀ (a b : List (Int × ByteArray)), cat (a ++ b) = cat a ++ cat b
  | [], b => by rw [List.nil_append, cat, ba_nil2]
  | x :: a, b => by rw [List.cons_append, cat, cat, cat_app a b, ByteArray.append_assoc]
theorem cat_size : ∀ (a : List (Int × ByteArray)), (cat a).size = wid a
  | [] => rfl
  | x :: a => by rw [cat, wid, ByteArray.size_append, cat_size a]
theorem cat_take (l : List (Int × ByteArray)) (k : Nat) (h : k < l.length) : cat (l.take (k + 1)) = cat (l.take k) ++ (l[k]).2 := by
  rw [List.take_succ_eq_append_getElem h, cat_app]
  show _ ++ ((l[k]).2 ++ (⟨#[]⟩ : ByteArray)) = _
  rw [ba_nil]
theorem wid_take2 (l : List (Int × ByteArray)) (k : Nat) : wid (l.take k) ≤ wid l := by
  have h : wid l = wid (l.take k) + wid (l.drop k) := by rw [← wid_app, List.take_append_drop]
  omega
theorem tkv_get : ∀ (l : List (Int × ByteArray × Nat)) (k : Nat) (h : k < l.length), (tkv l)[k * 3]? = some (.int .i64 (l[k]).1) ∧ (tkv l)[k * 3 + 1]? = some (.string (l[k]).2.1) ∧ (tkv l)[k * 3 + 2]? = some (.int .i64 ((l[k]).2.2 : Int)) := by
  intro l
  induction l with
  | nil => intro k h; simp at h
  | cons x l ih =>
    intro k h
    have e : tkv (x :: l) = Value.int .i64 x.1 :: Value.string x.2.1 :: Value.int .i64 (x.2.2 : Int) :: tkv l := rfl
    rw [e]
    cases k with
    | zero => exact ⟨rfl, rfl, rfl⟩
    | succ k =>
      have := ih k (by simpa using h)
      rw [show (k + 1) * 3 = k * 3 + 1 + 1 + 1 by omega]
      exact this
theorem toks_get : ∀ (l : List (Int × ByteArray)) (n k : Nat) (h : k < l.length), ((toks l n)[k]'(by rw [toks_len]; exact h)) = ((l[k]).1, (l[k]).2, n + wid (l.take k))
  | x :: l, n, 0, h => by simp [toks, wid]
  | x :: l, n, k + 1, h => by
    have h' : k < l.length := by simpa using h
    have ih := toks_get l (n + x.2.size) k h'
    simp only [toks, List.getElem_cons_succ, List.take_succ_cons, wid]
    rw [ih]
    congr 2
    omega

set_option maxRecDepth 100000 in
set_option maxHeartbeats 1000000 in
theorem rLeaves_any (t : Nd) (a : Option Addr) (n cap : Nat) (w : World) (G : Nat → Prop) (hK : KV G w a n cap t.kids) (hc : t.cnt ≤ 100000) (hw : wid t.lf ≤ 1000000) :
    Calls Try.prog 43 #[ndv t a n cap] w fun e w' => ∃ u, e = .returned u ∧ NewTk w (toks t.lf 0) u w' := by
  obtain ⟨W1, hW1⟩ : ∃ W, w.alloc (.cells (ndc t a n cap) 25) = W := ⟨_, rfl⟩
  have b1 : Below w.heap.size w W1 := by rw [← hW1]; exact (Below.refl _ _).alloc (Nat.le_refl _) _
  have HC := Lib.hid (rleaves_any t.dep t a n cap 0 W1 G (Nat.le_refl _) (hK.on b1) hc (by omega))
  have HFIN : Hid (∀ u w', NewTk W1 (toks t.lf 0) u w' → NewTk w (toks t.lf 0) u w') := fun u w' h => ⟨own_base2 h.1 b1.size, b1.trans (h.2.mono b1.size)⟩
  obtain ⟨L, hL⟩ : ∃ l, toks t.lf 0 = l := ⟨_, rfl⟩
  obtain ⟨id, hid⟩ : ∃ x, t.id = x := ⟨_, rfl⟩
  obtain ⟨kd, hkd⟩ : ∃ x, t.kind = x := ⟨_, rfl⟩
  obtain ⟨tx, htx⟩ : ∃ x, t.text = x := ⟨_, rfl⟩
  rw [hL] at HC HFIN ⊢
  unfold ndv ndc at *
  rw [hid, hkd, htx] at HC hW1 ⊢
  have HW1 := Lib.hid hW1
  clear hK hc hw hW1 b1 hL hid hkd htx
  go_enter Try.func43, Try.ntmps43
  go_wp2_with fail
  rw [show w.alloc (.cells #[.int .i64 id, .int .i64 kd, .string tx, .slice a n cap] 25) = W1 from HW1.out]
  refine HC.out.mono ?_
  rintro e w2 ⟨u, rfl, hu⟩
  have HU := Lib.hid (HFIN.out u w2 hu)
  clear hu
  go_wp2
  go_ret
  exact ⟨u, rfl, HU.out⟩

set_option maxRecDepth 100000 in
set_option maxHeartbeats 1000000 in
theorem rText_any (t : Nd) (a : Option Addr) (n cap : Nat) (w : World) (G : Nat → Prop) (hK : KV G w a n cap t.kids) (hc : t.cnt ≤ 100000) (hw : wid t.lf ≤ 1000000) :
    Calls Try.prog 37 #[ndv t a n cap] w fun e w' => e = .returned (.string (cat t.lf)) ∧ Below w.heap.size w w' := by
  obtain ⟨W1, hW1⟩ : ∃ W, w.alloc (.cells (ndc t a n cap) 25) = W := ⟨_, rfl⟩
  have b1 : Below w.heap.size w W1 := by rw [← hW1]; exact (Below.refl _ _).alloc (Nat.le_refl _) _
  have HC := Lib.hid (rLeaves_any t a n cap W1 G (hK.on b1) hc hw)
  have hll := t.lf_len
  obtain ⟨L, hL⟩ : ∃ l, t.lf = l := ⟨_, rfl⟩
  rw [hL] at HC hw hll ⊢
  obtain ⟨id, hid⟩ : ∃ x, t.id = x := ⟨_, rfl⟩
  obtain ⟨kd, hkd⟩ : ∃ x, t.kind = x := ⟨_, rfl⟩
  obtain ⟨tx, htx⟩ : ∃ x, t.text = x := ⟨_, rfl⟩
  unfold ndv ndc at *
  rw [hid, hkd, htx] at HC hW1 ⊢
  have HW1 := Lib.hid hW1; have HB1 := Lib.hid b1
  have hN : L.length ≤ 100000 := by omega
  obtain ⟨N, hNN⟩ : ∃ N, L.length = N := ⟨_, rfl⟩
  have HN := Lib.hid hNN; have HWD := Lib.hid hw
  have hN5 : N ≤ 100000 := by omega
  clear hK hc hW1 b1 hL hid hkd htx hll hN hNN hw
  go_enter Try.func37, Try.ntmps37
  go_wp2_with fail
  rw [show w.alloc (.cells #[.int .i64 id, .int .i64 kd, .string tx, .slice a n cap] 25) = W1 from HW1.out]
  refine HC.out.mono ?_
  rintro e w2 ⟨u, rfl, hu⟩
  have hrow := hu.1
  have HB2 : Hid (Below w.heap.size w w2) := HB1.out.trans (hu.2.mono HB1.out.size)
  rw [toks_len, HN.out] at hrow
  obtain ⟨au, cu, rfl⟩ := own_slice hrow
  have HCELL : Hid (∀ i (hi : i < L.length), ∃ g, au = some ⟨g, 0, none⟩ ∧ w2.cell? ⟨g, i * 3 + 1, none⟩ = some (.string (L[i]).2)) := fun i hi => by
    obtain ⟨m, hm⟩ : ∃ m, N = m + 1 := ⟨N - 1, by have := HN.out; omega⟩
    have h1 := hrow
    rw [hm] at h1
    obtain ⟨g, cp, h2⟩ := ownsRow_succ h1
    rw [← hm] at h2
    simp only [Value.slice.injEq] at h2
    obtain ⟨rfl, _, _⟩ := h2
    refine ⟨g, rfl, ?_⟩
    have hi2 : i < (toks L 0).length := by rw [toks_len]; exact hi
    have h3 := (tkv_get (toks L 0) i hi2).2.1
    rw [hrow.cellAt (i * 3 + 1) (by have := HN.out; omega), h3, toks_get L 0 i hi]
  clear hu hrow
  go_wp2_with fail
  go_loopw [4, 5] (fun s q wr => ∃ i : Nat, q = .int .i64 (i : Int) ∧ i ≤ N ∧ s = .string (cat (L.take i)) ∧ wr = w2) (fun _ q _ => N - (intOf q).toNat)
  case atStart => exact ⟨0, rfl, by omega, rfl, rfl⟩
  case round =>
    obtain ⟨i, rfl, hi, rfl, rfl⟩ := hrel
    have m1 : IntKind.i64.wrap ((i : Int) + 1) = (i : Int) + 1 := by simp [IntKind.wrap, IntKind.signed, IntKind.bits]; omega
    by_cases hin : i < N
    · have hin2 : (i : Int) < (N : Int) := by omega
      have hiL : i < L.length := by rw [HN.out]; exact hin
      obtain ⟨g, rfl, c1⟩ := HCELL.out i hiL
      have hct := cat_take L i hiL
      have hsz : (cat (L.take (i + 1))).size ≤ 1000000 := by rw [cat_size]; have := wid_take2 L (i + 1); have := HWD.out; omega
      rw [hct, ByteArray.size_append] at hsz
      obtain ⟨y, hy⟩ : ∃ y, (L[i]).2 = y := ⟨_, rfl⟩
      rw [hy] at c1 hct hsz
      obtain ⟨z, hz⟩ : ∃ z, cat (L.take i) = z := ⟨_, rfl⟩
      rw [hz] at hct hsz ⊢
      have hsz2 : z.size + y.size ≤ 9223372036854775807 := by omega
      have HCT := Lib.hid hct
      clear hy hz hct
      go_wp2
      go_roundw
      case rel => first | exact ⟨i + 1, by go_num, by omega, by rw [HCT.out], rfl⟩ | exact ⟨i + 1, by go_num, by omega, by rw [HCT.out], trivial⟩ | exact ⟨i + 1, by go_num, by omega, HCT.out.symm⟩
      case measure => simp [intOf]; omega
    · have hin2 : ¬ ((i : Int) < (N : Int)) := by omega
      obtain rfl : i = N := by omega
      have hall : L.take i = L := List.take_of_length_le (Nat.le_of_eq HN.out)
      rw [hall]
      clear hall
      go_wp2_with fail
      go_ret
      exact ⟨rfl, HB2.out⟩

set_option maxRecDepth 100000 in
set_option maxHeartbeats 4000000 in
theorem rdepth_any : ∀ (d : Nat) (t : Nd) (a : Option Addr) (n cap : Nat) (w : World) (G : Nat → Prop), t.dep ≤ d → KV G w a n cap t.kids → t.cnt ≤ 100000 →
    Calls Try.prog 41 #[ndv t a n cap] w fun e w' => e = .returned (.int .i64 (t.dep : Int)) ∧ Below w.heap.size w w'
  | 0, t, a, n, cap, w, G, hd, hK, hc => by have := t.dep_eq; omega
  | d + 1, t, a, n, cap, w, G, hd, hK, hc => by
    obtain ⟨hkl, hnc, hcm⟩ := hK.len
    obtain ⟨W1, hW1⟩ : ∃ W, w.alloc (.cells (ndc t a n cap) 25) = W := ⟨_, rfl⟩
    have b1 : Below w.heap.size w W1 := by rw [← hW1]; exact (Below.refl _ _).alloc (Nat.le_refl _) _
    have k1 : Blk W1 w.heap.size 25 (ndc t a n cap) := by rw [← hW1]; exact Blk.new _ _ _
    have hK1 := hK.on b1
    obtain ⟨q, hq⟩ : ∃ q, w.heap.size = q := ⟨_, rfl⟩
    rw [hq] at k1
    have HX : Hid (∀ W, Below W1.heap.size W1 W → W.cell? ⟨q, 3, none⟩ = some (.slice a n cap) ∧ Below q w W) := fun W hW => ⟨(k1.same (hW.block q k1.lt)).cell 3, by rw [← hq]; exact b1.trans (hW.mono b1.size)⟩
    obtain ⟨id, hid⟩ : ∃ x, t.id = x := ⟨_, rfl⟩
    obtain ⟨kd, hkd⟩ : ∃ x, t.kind = x := ⟨_, rfl⟩
    obtain ⟨tx, htx⟩ : ∃ x, t.text = x := ⟨_, rfl⟩
    obtain ⟨ks, hks⟩ : ∃ x, t.kids = x := ⟨_, rfl⟩
    have hdk : ∀ x ∈ ks, x.dep ≤ d ∧ x.cnt ≤ 100000 := fun x hx => by rw [← hks] at hx; have := t.kid_dep hx; have := t.kid_cnt hx; omega
    have hkn := t.kids_len
    have hde := t.dep_eq
    unfold ndv ndc at *
    rw [hid, hkd, htx] at hW1
    rw [hid, hkd, htx]
    rw [hks] at hK1 hkl hkn hde
    have hdc : deps ks + 1 ≤ 100000 := by
      have h1 : ∀ t : Nd, t.dep ≤ t.cnt := Nd.dep_cnt
      have := h1 t; omega
    have HK1 := Lib.hid hK1; have HDK := Lib.hid hdk; have HW1 := Lib.hid hW1; have HKN := Lib.hid hkl
    have HREC : Hid (∀ x (a' : Option Addr) (n' c' : Nat) W, x ∈ ks → KV G W a' n' c' x.kids → Calls Try.prog 41 #[ndv x a' n' c'] W fun e w' => e = .returned (.int .i64 (x.dep : Int)) ∧ Below W.heap.size W w') := fun x a' n' c' W hx hk => rdepth_any d x a' n' c' W G (HDK.out x hx).1 hk (HDK.out x hx).2
    have hn5 : n ≤ 100000 := by omega
    rw [hde]
    have HDC := Lib.hid hdc
    clear hK hK1 hdk hd hc hkl hnc hW1 k1 b1 hid hkd htx hks hkn hde hdc
    go_enter Try.func41, Try.ntmps41
    go_wp2_with fail
    rw [show w.alloc (.cells #[.int .i64 id, .int .i64 kd, .string tx, .slice a n cap] 25) = W1 from HW1.out]
    go_loopw [3, 4] (fun o g wr => ∃ i : Nat, g = .int .i64 (i : Int) ∧ i ≤ n ∧ o = .int .i64 (deps (ks.take i) : Int) ∧ Hid (Below W1.heap.size W1 wr)) (fun _ g _ => n - (intOf g).toNat)
    case atStart => exact ⟨0, rfl, by omega, by simp [deps], Lib.hid (Below.refl _ _)⟩
    case round =>
      obtain ⟨i, rfl, hi, rfl, HR⟩ := hrel
      obtain ⟨c3, z1⟩ := HX.out wr HR.out
      by_cases hin : i < n
      · have hin2 : (i : Int) < (n : Int) := by omega
        have m1 : IntKind.i64.wrap ((i : Int) + 1) = (i : Int) + 1 := by simp [IntKind.wrap, IntKind.signed, IntKind.bits]; omega
        have hik : i < ks.length := by rw [HKN.out]; exact hin
        obtain ⟨b, off, u, un, uc, rfl, hG, hb, hku, hcell⟩ := HK1.out.kid hik
        obtain ⟨d0, d1, d2, d3⟩ := hcell wr (HR.out.block b hb)
        obtain ⟨x, hx⟩ : ∃ x, ks[i] = x := ⟨_, rfl⟩
        rw [hx] at d0 d1 d2 hku
        have hxm : x ∈ ks := by rw [← hx]; exact List.getElem_mem hik
        have HC := Lib.hid (HREC.out x u un uc wr hxm (hku.keep HR.out.size (fun b _ hlt => HR.out.block b hlt) (fun _ h _ => h)))
        have htk : deps (ks.take (i + 1)) = max (deps (ks.take i)) x.dep := by rw [List.take_succ_eq_append_getElem hik, deps_app, hx]; simp [deps]
        have HTK := Lib.hid htk
        obtain ⟨D, hD⟩ : ∃ D, deps (ks.take i) = D := ⟨_, rfl⟩
        obtain ⟨E, hE⟩ : ∃ E, x.dep = E := ⟨_, rfl⟩
        rw [hD, hE] at HTK
        rw [hE] at HC
        rw [hD]
        unfold ndv at HC
        obtain ⟨xi, hxi⟩ : ∃ y, x.id = y := ⟨_, rfl⟩
        obtain ⟨xk, hxk⟩ : ∃ y, x.kind = y := ⟨_, rfl⟩
        obtain ⟨xt, hxt⟩ : ∃ y, x.text = y := ⟨_, rfl⟩
        rw [hxi, hxk, hxt] at HC
        rw [hxi] at d0; rw [hxk] at d1; rw [hxt] at d2
        clear hG hb hku hcell hx hxm htk z1 hxi hxk hxt hD hE
        go_wp2_with fail
        refine HC.out.mono ?_
        rintro e w5 ⟨rfl, b5⟩
        have H5 : Hid (Below W1.heap.size W1 w5) := HR.out.trans (b5.mono HR.out.size)
        have hmx : max (D : Int) (E : Int) = ((max D E : Nat) : Int) := by omega
        clear b5
        go_wp2
        go_roundw
        case rel => exact ⟨i + 1, by go_num, by omega, by rw [HTK.out], H5⟩
        case measure => simp [intOf]; omega
      · have hin2 : ¬ ((i : Int) < (n : Int)) := by omega
        obtain rfl : i = n := by omega
        have hall : ks.take i = ks := List.take_of_length_le (Nat.le_of_eq HKN.out)
        rw [hall]
        have HZ := Lib.hid z1
        have hdc := HDC.out
        obtain ⟨D, hD⟩ : ∃ D, deps ks = D := ⟨_, rfl⟩
        rw [hD] at hdc ⊢
        have m2 : IntKind.i64.wrap ((D : Int) + 1) = (D : Int) + 1 := by simp [IntKind.wrap, IntKind.signed, IntKind.bits]; omega
        have HDD := Lib.hid hD
        clear hall hi z1 hD
        go_wp2_with fail
        go_ret
        exact ⟨by rw [HDD.out]; rfl, HZ.out⟩

end Go.Proofs.Ytfecajeenmnoeaa
