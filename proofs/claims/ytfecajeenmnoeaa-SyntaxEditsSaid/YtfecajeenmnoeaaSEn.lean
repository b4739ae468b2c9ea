/- SEn, with the texts that only it needs in front of it: SEm. It has no conditions. -/
import Derived.Test.YtfecajeenmnoeaaSRz
import Derived.Test.YtfecajeenmnoeaaFApp
import Derived.Test.YtfecajeenmnoeaaFDf
import Derived.Test.YtfecajeenmnoeaaSWi
import Derived.Test.YtfecajeenmnoeaaSTd

/- Replacing a node of a tree is an edit of its text. Mathematics; it has no conditions. -/
namespace Go.Proofs.Ytfecajeenmnoeaa
open Go.RowKit Go.Shelf
set_option linter.unusedVariables false

theorem lfs_split (l : List Nd) (k : Nat) (h : k < l.length) : lfs l = lfs (l.take k) ++ (l[k].lf ++ lfs (l.drop (k + 1))) := by
  have h1 : l = l.take k ++ (l[k] :: l.drop (k + 1)) := by rw [List.getElem_cons_drop, List.take_append_drop]
  have h2 := congrArg lfs h1
  rw [lfs_app, lfs_cons] at h2
  exact h2
theorem lfs_set (l : List Nd) (k : Nat) (h : k < l.length) (y : Nd) : lfs (l.set k y) = lfs (l.take k) ++ (y.lf ++ lfs (l.drop (k + 1))) := by
  rw [List.set_eq_take_append_cons_drop, if_pos h, lfs_app, lfs_cons]
theorem tidys_take (l : List Nd) (k : Nat) (h : tidys l) : tidys (l.take k) := by
  have := (tidys_app (l.take k) (l.drop k)).1 (by rw [List.take_append_drop]; exact h)
  exact this.1
/-- The text before the node, and the text behind it. -/
theorem repl_text : ∀ (z : List Int) (t b y x : Nd) (o : Nat), t.tidy → getN t z = some (x, o) → replN t z b = some y →
    ∃ pre post : ByteArray, cat t.lf = pre ++ (cat x.lf ++ post) ∧ pre.size = o ∧ cat y.lf = pre ++ (cat b.lf ++ post)
  | [], t, b, y, x, o, ht, hg, hr => by
    simp only [getN, Option.some.injEq, Prod.mk.injEq] at hg
    simp only [replN, Option.some.injEq] at hr
    obtain ⟨rfl, rfl⟩ := hg
    subst hr
    exact ⟨⟨#[]⟩, ⟨#[]⟩, by rw [ba_nil, ba_nil2], rfl, by rw [ba_nil, ba_nil2]⟩
  | k :: z, t, b, y, x, o, ht, hg, hr => by
    rw [getN] at hg
    rw [replN] at hr
    by_cases hk : 0 ≤ k ∧ k.toNat < t.kids.length
    · rw [dif_pos hk] at hg hr
      obtain ⟨⟨x', o'⟩, h1, h2⟩ := Option.map_eq_some_iff.1 hg
      simp only [Prod.mk.injEq] at h2
      obtain ⟨rfl, rfl⟩ := h2
      obtain ⟨y', h3, rfl⟩ := Option.map_eq_some_iff.1 hr
      obtain ⟨pre, post, e1, e2, e3⟩ := repl_text z _ b y' x' o' (tidys_mem (tidy_kids ht) (List.getElem_mem hk.2)) h1 h3
      have hnl : ¬ t.leaf := fun hl => by
        have h0 : t.kids = [] := by obtain ⟨i, kk, xx, ks⟩ := t; rw [Nd.tidy] at ht; exact ht.1 hl
        have := hk.2
        rw [h0] at this
        simp at this
      have hnl2 : ¬ (Nd.mk t.id t.kind t.text (t.kids.set k.toNat y')).leaf := hnl
      refine ⟨cat (lfs (t.kids.take k.toNat)) ++ pre, post ++ cat (lfs (t.kids.drop (k.toNat + 1))), ?_, ?_, ?_⟩
      · rw [t.lf_eq, if_neg hnl, lfs_split _ _ hk.2, cat_app, cat_app, e1]
        simp only [ByteArray.append_assoc]
      · rw [ByteArray.size_append, e2, cat_size, ← pws_lf _ (tidys_take _ _ (tidy_kids ht))]
      · rw [Nd.lf_eq, if_neg hnl2]
        show cat (lfs (t.kids.set k.toNat y')) = _
        rw [lfs_set _ _ hk.2, cat_app, cat_app, e3]
        simp only [ByteArray.append_assoc]
    · rw [dif_neg hk] at hg; cases hg

end Go.Proofs.Ytfecajeenmnoeaa

/- What SyntaxEdits calls, under plain values. Conditions: tidy trees of at most 50000 nodes and 50000 bytes. -/
namespace Go.Proofs.Ytfecajeenmnoeaa
open Go.RowKit Go.Shelf
set_option linter.unusedVariables false

/-- One edit in the middle of a text. -/
theorem one_edit (pre old post new_ : ByteArray) : vErr ((pre ++ (old ++ post)).size : Int) [(⟨(pre.size : Int), ((pre.size + old.size : Nat) : Int), new_⟩ : Er)] = 0 ∧ apS (pre ++ (old ++ post)) [(⟨(pre.size : Int), ((pre.size + old.size : Nat) : Int), new_⟩ : Er)] = pre ++ (new_ ++ post) := by
  have hz : (pre ++ (old ++ post)).size = pre.size + (old.size + post.size) := by rw [ByteArray.size_append, ByteArray.size_append]
  have hv : vErr ((pre ++ (old ++ post)).size : Int) [(⟨(pre.size : Int), ((pre.size + old.size : Nat) : Int), new_⟩ : Er)] = 0 := by
    rw [hz]
    simp only [vErr, vE, List.length_singleton]
    rw [if_neg (by omega), if_neg (by omega), if_neg (by omega)]
  refine ⟨hv, sb_inj ?_⟩
  rw [apS_ok hv]
  show (((sb (pre ++ (old ++ post))).drop 0).take (((pre.size : Int)).toNat - 0)) ++ (sb new_ ++ (sb (pre ++ (old ++ post))).drop (((pre.size + old.size : Nat) : Int)).toNat) = _
  rw [Int.toNat_natCast, Int.toNat_natCast, List.drop_zero, Nat.sub_zero, sb_add, sb_add, sb_add, sb_add]
  have h1 : pre.size = (sb pre).length := (sb_len pre).symm
  have h2 : old.size = (sb old).length := (sb_len old).symm
  rw [h1, h2, List.take_left, ← List.length_append, show sb pre ++ (sb old ++ sb post) = (sb pre ++ sb old) ++ sb post by rw [List.append_assoc], List.drop_left]
/-- The edit that Diff finds. -/
theorem dif_edit {a b : ByteArray} {es : List Er} (h : DifR a b es) (ha : a.size ≤ 100000) (hb : b.size ≤ 100000) : vErr (a.size : Int) es = 0 ∧ apS a es = b ∧ es.length ≤ 1 ∧ ∀ e ∈ es, e.Fit := by
  rcases h with ⟨rfl, rfl⟩ | ⟨_, p, q, hp, hq, rfl⟩
  · refine ⟨by simp [vErr, vE], sb_inj ?_, by simp, by simp⟩
    rw [apS_ok (by simp [vErr, vE])]
    show (sb a).drop 0 = _
    rw [List.drop_zero]
  · have hbx : ∀ e ∈ [dif (sb a) (sb b) p q], Byt e.x := fun e he => by
      simp only [List.mem_singleton] at he
      subst he
      exact ((sb_byt b).drop p).take _
    have hv : vErr (a.size : Int) [er (dif (sb a) (sb b) p q)] = 0 := vErr_ers (l := [dif (sb a) (sb b) p q]) (by have := dif_vld hp hq; rwa [sb_len] at this) (by simp) hbx
    refine ⟨hv, sb_inj ?_, by simp, fun e he => ?_⟩
    · rw [apS_ok hv, show ees [er (dif (sb a) (sb b) p q)] = [dif (sb a) (sb b) p q] from ees_ers (l := [dif (sb a) (sb b) p q]) hbx]
      exact dif_appl hp hq
    · simp only [List.mem_singleton] at he
      subst he
      have h1 := hp.1
      rw [sb_len] at h1
      refine ⟨by show _ ≤ ((p : Nat) : Int); omega, by show ((p : Nat) : Int) ≤ _; omega, by show _ ≤ (((sb a).length - q : Nat) : Int); omega, by show (((sb a).length - q : Nat) : Int) ≤ _; rw [sb_len]; omega, ?_⟩
      show (bs (((sb b).drop p).take ((sb b).length - q - p))).size ≤ 100000
      have h2 : (bs (((sb b).drop p).take ((sb b).length - q - p))).size = (((sb b).drop p).take ((sb b).length - q - p)).length := by simp [bs, ByteArray.size]
      rw [h2, List.length_take, List.length_drop, sb_len]
      omega
theorem text_any (t : Nd) (a : Option Addr) (n cap : Nat) (w : World) (G : Nat → Prop) (hK : KV G w a n cap t.kids) (hc : t.cnt ≤ 100000) (hw : t.pw ≤ 1000000000) (ht : t.tidy) :
    Calls Try.prog 31 #[ndv t a n cap] w fun e w' => e = .returned (.string (cat t.lf)) ∧ Below w.heap.size w w' := by
  rw [← text_cat t ht]
  exact ptext_any t a n cap w G hK hc hw
/-- One edit, as it is written down, lies in memory. -/
theorem es_lit (W : World) (E : Er) : ES (W.alloc (.cells #[.int .i64 E.f, .int .i64 E.t, .string E.x] 64)).heap.size (W.alloc (.cells #[.int .i64 E.f, .int .i64 E.t, .string E.x] 64)) (some ⟨W.heap.size, 0, none⟩) 1 [E] := by
  have h := World.ownsRow_lit W #[.int .i64 E.f, .int .i64 E.t, .string E.x] 1 (size := 3) (e := 64) (base := W.heap.size) (Nat.le_refl _) (by unfold maxLen; omega) rfl
  obtain ⟨_, a, c, hv, hs⟩ := es_of_own (es := [E]) h
  simp only [Value.slice.injEq] at hv
  obtain ⟨rfl, _, rfl⟩ := hv
  exact hs
/-- What the law calls behind a path that leads to a node. -/
structure EPack (s sb_ sy so : ByteArray) (at_ : Nat) : Prop where
  app1 : ∀ (W : World), Calls Try.prog 35 #[.string s, .slice (some ⟨W.heap.size, 0, none⟩) 1 1] (W.alloc (.cells #[.int .i64 (at_ : Int), .int .i64 ((at_ + so.size : Nat) : Int), .string sb_] 64)) fun e w' => e = .returned (.tuple #[.string sy, .int .i64 0]) ∧ Below (W.alloc (.cells #[.int .i64 (at_ : Int), .int .i64 ((at_ + so.size : Nat) : Int), .string sb_] 64)).heap.size (W.alloc (.cells #[.int .i64 (at_ : Int), .int .i64 ((at_ + so.size : Nat) : Int), .string sb_] 64)) w'
  diff : ∀ (W : World), Calls Try.prog 36 #[.string s, .string sy] W fun e w' => ∃ (a : Option Addr) (L c : Nat), e = .returned (.slice a L c) ∧ Below W.heap.size W w' ∧ Hid (∀ V, Below w'.heap.size w' V → Calls Try.prog 35 #[.string s, .slice a L c] V fun e w' => e = .returned (.tuple #[.string sy, .int .i64 0]) ∧ Below V.heap.size V w')
theorem edits_pack (t b y x : Nd) (o : Nat) (zs : List Int) (ht : t.tidy) (hb : b.tidy) (hg : getN t zs = some (x, o)) (hr : replN t zs b = some y) (h1 : t.pw ≤ 50000) (h2 : b.pw ≤ 50000) : EPack (cat t.lf) (cat b.lf) (cat y.lf) (cat x.lf) o := by
  obtain ⟨pre, post, e1, e2, e3⟩ := repl_text zs t b y x o ht hg hr
  have ht1 : (cat t.lf).size ≤ 50000 := by rw [cat_size, ← pw_lf t ht]; exact h1
  have hb1 : (cat b.lf).size ≤ 50000 := by rw [cat_size, ← pw_lf b hb]; exact h2
  have hy1 : (cat y.lf).size ≤ 100000 := by
    obtain ⟨_, g2, g3⟩ := replN_sz zs t b y hr
    rw [cat_size, ← pw_lf y (g3 ht hb)]; omega
  have hx1 : o + (cat x.lf).size ≤ 50000 := by
    have := congrArg ByteArray.size e1
    rw [ByteArray.size_append, ByteArray.size_append] at this
    omega
  refine ⟨fun W => ?_, fun W => ?_⟩
  · have h := one_edit pre (cat x.lf) post (cat b.lf)
    rw [← e1, ← e3, e2] at h
    have hap := papply_any (cat t.lf) (some ⟨W.heap.size, 0, none⟩) 1 [(⟨(o : Int), ((o + (cat x.lf).size : Nat) : Int), cat b.lf⟩ : Er)] _ (by omega) (by simp) (fun e he => by
      simp only [List.mem_singleton] at he
      subst he
      exact ⟨by show _ ≤ (o : Int); omega, by show (o : Int) ≤ _; omega, by show _ ≤ ((o + (cat x.lf).size : Nat) : Int); omega, by show ((o + (cat x.lf).size : Nat) : Int) ≤ _; omega, by show (cat b.lf).size ≤ _; omega⟩) (es_lit W ⟨(o : Int), ((o + (cat x.lf).size : Nat) : Int), cat b.lf⟩)
    rw [h.1, h.2] at hap
    exact hap
  · refine (pdiff_all (cat t.lf) (cat y.lf) W (by omega) (by omega)).mono ?_
    rintro e w' ⟨es, hd, a, c, rfl, hs, hbl⟩
    obtain ⟨d1, d2, d3, d4⟩ := dif_edit hd (by omega) hy1
    refine ⟨a, es.length, c, rfl, hbl, fun V hV => ?_⟩
    have hap := papply_any (cat t.lf) a c es V (by omega) (by omega) d4 (hs.on hV)
    rw [d1, d2] at hap
    exact hap

end Go.Proofs.Ytfecajeenmnoeaa
