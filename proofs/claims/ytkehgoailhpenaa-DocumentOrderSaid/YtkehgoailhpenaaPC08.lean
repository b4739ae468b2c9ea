/- Texts of one claim, put together: DBy, DSt, DDoc, DChk, DRem, DCpy, DRm2, DAdv, DApl, DHld. Each part says what it proves and under which conditions. -/
import Derived.Test.YtkehgoailhpenaaPC07
import Derived.Maps.OwnSet
import Derived.Maps.OwnOps
import Derived.BigQuiet
import Derived.BigRegion
import Derived.Deep.QuietTactic
import Derived.Maps.AppendAt
import Derived.Laws.CopyRow

/- Bytes as a function: the edits by offsets that edits by positions become, and the error. Conditions: texts of at most 100000 bytes, lists of at most 1000 edits. -/
namespace Go.Proofs.Ytkehgoailhpenaa
open Go.RowKit Go.Shelf
set_option linter.unusedVariables false

theorem ed_ex (Z : List Int) (p : PE) : ∃ x : Ed × Int, EdS Z p x.1 x.2 := by
  obtain ⟨d, er, h⟩ := ed_total Z p
  exact ⟨(d, er), h⟩
/-- What an edit by positions becomes, and its error. -/
noncomputable def edD (Z : List Int) (p : PE) : Ed × Int := Classical.choose (ed_ex Z p)
theorem edD_ok (Z : List Int) (p : PE) : EdS Z p (edD Z p).1 (edD Z p).2 := Classical.choose_spec (ed_ex Z p)
theorem edD_eq {Z : List Int} {p : PE} {d : Ed} {er : Int} (h : EdS Z p d er) : edD Z p = (d, er) := by
  obtain ⟨h1, h2⟩ := (edD_ok Z p).det h
  exact Prod.ext h1 h2
def Ed.er (d : Ed) : Er := ⟨(d.f : Int), (d.o : Int), d.t⟩
/-- The first error. -/
noncomputable def pE0 (Z : List Int) : List PE → Int
  | [] => 0
  | p :: l => if (edD Z p).2 = 0 then pE0 Z l else (edD Z p).2
noncomputable def pE (s : ByteArray) (l : List PE) : Int := if 64 < l.length then 4 else pE0 (sb s) l
noncomputable def pL (s : ByteArray) (l : List PE) : List Er := if pE s l = 0 then l.map (fun p => (edD (sb s) p).1.er) else []
def dPE : PE := ⟨0, 0, 0, 0, ⟨#[]⟩⟩
def pG (ps : List PE) (k : Nat) : PE := ps[k]?.getD dPE
theorem pG_eq {ps : List PE} {k : Nat} (h : k < ps.length) : ps[k]? = some (pG ps k) := by simp [pG, List.getElem?_eq_getElem h]
theorem pG_mem {ps : List PE} {k : Nat} (h : k < ps.length) : pG ps k ∈ ps := List.mem_of_getElem? (pG_eq h)
theorem pG_drop {ps : List PE} {k : Nat} (h : k < ps.length) : ps.drop k = pG ps k :: ps.drop (k + 1) := by
  rw [List.drop_eq_getElem_cons h]; simp [pG, List.getElem?_eq_getElem h]
theorem pE0_drop (Z : List Int) (ps : List PE) : ∀ k, k ≤ ps.length → (∀ j, j < k → (edD Z (pG ps j)).2 = 0) → pE0 Z ps = pE0 Z (ps.drop k) := by
  intro k
  induction k with
  | zero => intro _ _; rfl
  | succ k ih =>
    intro hk h
    rw [ih (by omega) (fun j hj => h j (by omega)), pG_drop (by omega)]
    simp only [pE0]
    rw [if_pos (h k (by omega))]
theorem pE0_zero {Z : List Int} {ps : List PE} (h : ∀ j, j < ps.length → (edD Z (pG ps j)).2 = 0) : pE0 Z ps = 0 := by
  rw [pE0_drop Z ps ps.length (Nat.le_refl _) h, List.drop_length]; rfl
theorem pE0_first {Z : List Int} {ps : List PE} {er : Int} (h : FirstE ps.length (fun k => (edD Z (pG ps k)).2) er) : pE0 Z ps = er := by
  obtain ⟨k, h1, h2, h3, h4⟩ := h
  rw [pE0_drop Z ps k (by omega) h4, pG_drop h1]
  simp only [pE0]
  simp only at h2
  rw [if_neg (by rw [h2]; exact h3), h2]
theorem pE_det {s : ByteArray} {ps : List PE} {m : Nat} {er : Int} (h : Det ps.length (fun k => (edD (sb s) (pG ps k)).2) m er) : er = pE s ps ∧ m = (pL s ps).length := by
  unfold pL
  rcases h with ⟨h1, rfl, rfl⟩ | ⟨h1, h2, rfl⟩ | ⟨h1, h2, rfl, rfl⟩
  · have : pE s ps = 4 := by unfold pE; rw [if_pos h1]
    rw [this]; exact ⟨rfl, rfl⟩
  · have h3 : pE s ps = er := by unfold pE; rw [if_neg (by omega), pE0_first h2]
    obtain ⟨_, _, _, h4, _⟩ := h2
    rw [h3, if_neg h4]; exact ⟨rfl, rfl⟩
  · have h3 : pE s ps = 0 := by unfold pE; rw [if_neg (by omega), pE0_zero h2]
    rw [h3, if_pos rfl, List.length_map]; exact ⟨rfl, rfl⟩
theorem pL_get {s : ByteArray} {ps : List PE} {k : Nat} (h : k < (pL s ps).length) : eg (pL s ps) k = (edD (sb s) (pG ps k)).1.er := by
  unfold pL at h ⊢
  split at h
  · rename_i h0
    rw [if_pos h0]
    rw [List.length_map] at h
    simp [eg, pG, List.getElem?_eq_getElem h]
  · simp at h
theorem pL_len (s : ByteArray) (ps : List PE) : (pL s ps).length ≤ ps.length ∧ (pL s ps).length ≤ 64 := by
  unfold pL
  split
  · rename_i h
    rw [List.length_map]
    unfold pE at h
    split at h
    · omega
    · exact ⟨Nat.le_refl _, by omega⟩
  · exact ⟨Nat.zero_le _, Nat.zero_le _⟩
/-- A slice of edits by positions lies in memory, below block B. -/
structure PS (B : Nat) (w : World) (a : Option Addr) (cap : Nat) (ps : List PE) : Prop where
  le : ps.length ≤ cap
  mx : cap ≤ 9223372036854775807
  cells : PCells B w a ps.length (pG ps)
theorem PS.below {B : Nat} {w w' : World} {a : Option Addr} {cap : Nat} {ps : List PE} (h : PS B w a cap ps) (hb : Below B w w') : PS B w' a cap ps := ⟨h.le, h.mx, h.cells.below hb⟩
theorem PS.mono {B B' : Nat} {w : World} {a : Option Addr} {cap : Nat} {ps : List PE} (h : PS B w a cap ps) (hb : B ≤ B') : PS B' w a cap ps := ⟨h.le, h.mx, h.cells.mono hb⟩
theorem PS.on {w w' : World} {a : Option Addr} {cap : Nat} {ps : List PE} (h : PS w.heap.size w a cap ps) (hb : Below w.heap.size w w') : PS w'.heap.size w' a cap ps := (h.below hb).mono hb.size
theorem edD_fit {Z : List Int} {p : PE} (hZ : Z.length ≤ 100000) (hp : p.t.size ≤ 100000) : ((edD Z p).1.er).Fit := by
  obtain ⟨o1, e1, o2, e2, a1, a2, h⟩ := edD_ok Z p
  have l1 := off_le a1
  have l2 := off_le a2
  rcases h with ⟨_, _, h⟩ | ⟨_, _, _, h⟩ | ⟨_, _, _, _, h⟩ | ⟨_, _, _, _, h⟩
  all_goals (rw [h]; refine ⟨?_, ?_, ?_, ?_, ?_⟩)
  all_goals simp only [Ed.er, Ed.zero]
  all_goals first | omega | exact hp | exact Nat.zero_le _
theorem pL_fit {s : ByteArray} {ps : List PE} (hs : s.size ≤ 100000) (hp : ∀ p ∈ ps, p.t.size ≤ 100000) : ∀ e ∈ pL s ps, e.Fit := by
  unfold pL
  split
  · intro e he
    obtain ⟨p, hpm, rfl⟩ := List.mem_map.1 he
    exact edD_fit (by rw [sb_len]; exact hs) (hp p hpm)
  · intro e he; simp at he

/-- The block of a slice. -/
def blkOf (a : Option Addr) (b : Nat) : Prop := ∃ off, a = some ⟨b, off, none⟩
def BytesPostF (n : Nat) (ds : Nat → Ed) (ers : Nat → Int) (w : World) (e : Ending) (w' : World) : Prop :=
  (64 < n ∧ Below w.heap.size w w' ∧ e = .returned (.tuple #[.slice none 0 0, .int .i64 4])) ∨ (n ≤ 64 ∧ EdsPostF n ds ers w e w')
set_option maxRecDepth 100000 in
set_option maxHeartbeats 1000000 in
theorem pbytesF_any (s : ByteArray) (a : Option Addr) (n cap : Nat) (es : Nat → PE) (ds : Nat → Ed) (ers : Nat → Int) (w : World) (hs : s.size ≤ 100000) (hn : n ≤ 1000) (hcap : n ≤ cap) (hfit : ∀ k, k < n → (es k).fit) (hc : PCells w.heap.size w a n es) (h : ∀ k, k < n → EdS (sb s) (es k) (ds k) (ers k)) :
    Calls Try.prog 30 #[.string s, .slice a n cap] w (BytesPostF n ds ers w) := by
  obtain ⟨W1, hW1⟩ : ∃ W, w.alloc (.cells #[.string s] 9) = W := ⟨_, rfl⟩
  have hb1 : Below w.heap.size w W1 := by rw [← hW1]; exact (Below.refl _ _).alloc (Nat.le_refl _) _
  have hx1 : Boxed W1 w.heap.size 9 (.string s) := by rw [← hW1]; exact Boxed.new _ _ _
  have HB1 := Lib.hid hb1; have HW1 := Lib.hid hW1
  by_cases hlim : 64 < n
  · have hl2 : (64 : Int) < (n : Int) := by omega
    clear hW1 hx1 hb1 h hc hfit
    go_enter Try.func30, Try.ntmps30
    go_wp2
    go_ret2
    exact .inl ⟨hlim, by rw [show w.alloc (.cells #[.string s] 9) = W1 from HW1.out]; exact HB1.out, rfl⟩
  · have hl2 : ¬ (64 : Int) < (n : Int) := by omega
    have C := Lib.hid (conv_edsF s w.heap.size a n cap es ds ers W1 hs (by omega) hcap hfit ((hc.below hb1).mono hb1.size) hx1 h)
    clear hW1 hx1 hb1 h hc hfit
    go_enter Try.func30, Try.ntmps30
    go_wp2_with fail
    rw [show w.alloc (.cells #[.string s] 9) = W1 from HW1.out]
    refine C.out.mono ?_
    rintro e w2 ⟨hb, hway⟩
    have H2 := Lib.hid (HB1.out.trans (hb.mono HB1.out.size))
    clear hb
    rcases hway with ⟨er, hf, rfl⟩ | ⟨hz, a2, c2, rfl, hc2⟩
    · have HF := Lib.hid hf
      clear hf
      go_wp2
      go_ret2
      exact .inr ⟨by omega, H2.out, .inl ⟨er, HF.out, rfl⟩⟩
    · have HF := Lib.hid (And.intro hz hc2)
      have HZ1 : Hid (w.heap.size ≤ W1.heap.size) := HB1.out.size
      clear hz hc2
      go_wp2
      go_ret2
      exact .inr ⟨by omega, H2.out, .inr ⟨HF.out.1, a2, c2, rfl, HF.out.2.1, HF.out.2.2.1, HF.out.2.2.2.1, fun b off hb => Nat.le_trans HZ1.out (HF.out.2.2.2.2 b off hb)⟩⟩

theorem bytesF_one {n : Nat} {ds : Nat → Ed} {ers : Nat → Int} {w : World} {e : Ending} {w' : World} (h : BytesPostF n ds ers w e w') :
    ∃ m er a cap, e = .returned (.tuple #[.slice a m cap, .int .i64 er]) ∧ m ≤ cap ∧ cap ≤ 9223372036854775807 ∧ ECells w'.heap.size w' a m ds ∧ Det n ers m er ∧ Below w.heap.size w w' ∧ ∀ b, blkOf a b → w.heap.size ≤ b := by
  have hno : ∀ b, blkOf none b → w.heap.size ≤ b := fun b ⟨_, hb⟩ => by cases hb
  rcases h with ⟨h1, hb, rfl⟩ | ⟨h1, hb, ⟨er, hf, rfl⟩ | ⟨hz, a, cap, rfl, h2, h3, h4, h5⟩⟩
  · exact ⟨0, 4, none, 0, rfl, Nat.le_refl _, by omega, .inl rfl, .inl ⟨h1, rfl, rfl⟩, hb, hno⟩
  · exact ⟨0, er, none, 0, rfl, Nat.le_refl _, by omega, .inl rfl, .inr (.inl ⟨h1, hf, rfl⟩), hb, hno⟩
  · exact ⟨n, 0, a, cap, rfl, h2, h3, h4, .inr (.inr ⟨h1, hz, rfl, rfl⟩), hb, fun b ⟨off, ha⟩ => h5 b off ha⟩
/-- A call hands back a new slice of these edits, and an error. -/
def NewESF (w : World) (es : List Er) (er : Int) (e : Ending) (w' : World) : Prop :=
  ∃ a cap, e = .returned (.tuple #[.slice a es.length cap, .int .i64 er]) ∧ ES w'.heap.size w' a cap es ∧ (∀ b, blkOf a b → w.heap.size ≤ b) ∧ Below w.heap.size w w'

theorem dbytes_any (s : ByteArray) (a : Option Addr) (cap : Nat) (ps : List PE) (w : World) (hs : s.size ≤ 100000) (hn : ps.length ≤ 1000) (hfit : ∀ p ∈ ps, p.fit) (hS : PS w.heap.size w a cap ps) :
    Calls Try.prog 30 #[.string s, .slice a ps.length cap] w (NewESF w (pL s ps) (pE s ps)) := by
  refine (pbytesF_any s a ps.length cap (pG ps) (fun k => (edD (sb s) (pG ps k)).1) (fun k => (edD (sb s) (pG ps k)).2) w hs hn hS.le (fun k hk => hfit _ (pG_mem hk)) hS.cells (fun k hk => edD_ok _ _)).mono ?_
  intro e w' h
  obtain ⟨m, er, a', cap', rfl, h1, h2, h3, h4, h5, h6⟩ := bytesF_one h
  obtain ⟨rfl, rfl⟩ := pE_det h4
  refine ⟨a', cap', rfl, ⟨h1, h2, ?_, ?_⟩, h6, h5⟩
  · rintro rfl
    rcases h3 with h3 | ⟨g, hg, _⟩
    · exact h3
    · cases hg
  · rcases h3 with h3 | ⟨g, rfl, hg, hc⟩
    · exact .inl h3
    · refine .inr ⟨g, 0, rfl, hg, fun k hk i hi => ?_⟩
      rw [Nat.zero_add, pL_get hk]
      exact hc k hk i hi

end Go.Proofs.Ytkehgoailhpenaa

/- The state of a document, and how it lies in memory. It has no conditions. -/
namespace Go.Proofs.Ytkehgoailhpenaa
open Go.RowKit Go.Shelf Go.Maps
set_option linter.unusedVariables false

/-- The state of a document: its version, the texts that it remembers with the edits behind each, what it holds. -/
structure DS where
  v : Int
  ss : List (ByteArray × List Er)
  hs : List (Int × List PE)
def DS.text (s : DS) : ByteArray := (s.ss.getLast?.getD (⟨#[]⟩, [])).1

/-! Lists in memory that no call writes: their blocks are in G. -/
def EsG (G : Nat → Prop) (w : World) (v : Value) (es : List Er) : Prop :=
  ∃ a cap, v = .slice a es.length cap ∧ es.length ≤ cap ∧ cap ≤ 9223372036854775807 ∧ (a = none → es.length = 0) ∧
    (es.length = 0 ∨ ∃ b off, a = some ⟨b, off, none⟩ ∧ G b ∧ b < w.heap.size ∧ ∀ k, k < es.length → ∀ i, i < 3 → w.cell? ⟨b, off + k * 3 + i, none⟩ = (eg es k).vals[i]?)
def PsG (G : Nat → Prop) (w : World) (v : Value) (ps : List PE) : Prop :=
  ∃ a cap, v = .slice a ps.length cap ∧ ps.length ≤ cap ∧ cap ≤ 9223372036854775807 ∧
    (ps.length = 0 ∨ ∃ b off, a = some ⟨b, off, none⟩ ∧ G b ∧ b < w.heap.size ∧ ∀ k, k < ps.length → ∀ i, i < 5 → w.cell? ⟨b, off + k * 5 + i, none⟩ = (pG ps k).vals[i]?)
theorem EsG.keep {G G' : Nat → Prop} {w w' : World} {v : Value} {es : List Er} (h : EsG G w v es) (hz : w.heap.size ≤ w'.heap.size) (hG : ∀ b, G b → b < w.heap.size → w'.heap[b]? = w.heap[b]?) (hg : ∀ b, G b → G' b) : EsG G' w' v es := by
  obtain ⟨a, cap, h1, h2, h3, h4, h5⟩ := h
  refine ⟨a, cap, h1, h2, h3, h4, ?_⟩
  rcases h5 with h5 | ⟨b, off, k1, k2, k3, k4⟩
  · exact .inl h5
  · refine .inr ⟨b, off, k1, hg b k2, by omega, fun k hk i hi => ?_⟩
    rw [← k4 k hk i hi]
    simp only [World.cell?, hG b k2 k3]
theorem PsG.keep {G G' : Nat → Prop} {w w' : World} {v : Value} {ps : List PE} (h : PsG G w v ps) (hz : w.heap.size ≤ w'.heap.size) (hG : ∀ b, G b → b < w.heap.size → w'.heap[b]? = w.heap[b]?) (hg : ∀ b, G b → G' b) : PsG G' w' v ps := by
  obtain ⟨a, cap, h1, h2, h3, h5⟩ := h
  refine ⟨a, cap, h1, h2, h3, ?_⟩
  rcases h5 with h5 | ⟨b, off, k1, k2, k3, k4⟩
  · exact .inl h5
  · refine .inr ⟨b, off, k1, hg b k2, by omega, fun k hk i hi => ?_⟩
    rw [← k4 k hk i hi]
    simp only [World.cell?, hG b k2 k3]
theorem EsG.es {G : Nat → Prop} {w : World} {v : Value} {es : List Er} (h : EsG G w v es) : ∃ a cap, v = .slice a es.length cap ∧ ES w.heap.size w a cap es := by
  obtain ⟨a, cap, h1, h2, h3, h4, h5⟩ := h
  refine ⟨a, cap, h1, h2, h3, h4, ?_⟩
  rcases h5 with h5 | ⟨b, off, k1, _, k3, k4⟩
  · exact .inl h5
  · exact .inr ⟨b, off, k1, k3, k4⟩
theorem PsG.ps {G : Nat → Prop} {w : World} {v : Value} {ps : List PE} (h : PsG G w v ps) : ∃ a cap, v = .slice a ps.length cap ∧ PS w.heap.size w a cap ps := by
  obtain ⟨a, cap, h1, h2, h3, h5⟩ := h
  refine ⟨a, cap, h1, h2, h3, ?_⟩
  rcases h5 with h5 | ⟨b, off, k1, _, k3, k4⟩
  · exact .inl h5
  · exact .inr ⟨b, off, k1, k3, k4⟩
theorem EsG.of {w : World} {a : Option Addr} {cap : Nat} {es : List Er} {G : Nat → Prop} (h : ES w.heap.size w a cap es) (hG : es.length ≠ 0 → ∀ b, blkOf a b → G b) : EsG G w (.slice a es.length cap) es := by
  refine ⟨a, cap, rfl, h.le, h.mx, h.nil, ?_⟩
  rcases h.cells with h5 | ⟨b, off, k1, k3, k4⟩
  · exact .inl h5
  · by_cases h0 : es.length = 0
    · exact .inl h0
    · exact .inr ⟨b, off, k1, hG h0 b ⟨off, k1⟩, k3, k4⟩
theorem PsG.of {w : World} {a : Option Addr} {cap : Nat} {ps : List PE} {G : Nat → Prop} (h : PS w.heap.size w a cap ps) (hG : ps.length ≠ 0 → ∀ b, blkOf a b → G b) : PsG G w (.slice a ps.length cap) ps := by
  refine ⟨a, cap, rfl, h.le, h.mx, ?_⟩
  rcases h.cells with h5 | ⟨b, off, k1, k3, k4⟩
  · exact .inl h5
  · by_cases h0 : ps.length = 0
    · exact .inl h0
    · exact .inr ⟨b, off, k1, hG h0 b ⟨off, k1⟩, k3, k4⟩

theorem es_lt {w : World} {a : Option Addr} {cap : Nat} {es : List Er} (h : ES w.heap.size w a cap es) (h0 : es.length ≠ 0) {b : Nat} (hb : blkOf a b) : b < w.heap.size := by
  obtain ⟨b', off, k1, k3, _⟩ := h.cells.resolve_left h0
  obtain ⟨off', k2⟩ := hb
  rw [k1] at k2
  cases k2
  exact k3
theorem ps_lt {w : World} {a : Option Addr} {cap : Nat} {ps : List PE} (h : PS w.heap.size w a cap ps) (h0 : ps.length ≠ 0) {b : Nat} (hb : blkOf a b) : b < w.heap.size := by
  obtain ⟨b', off, k1, k3, _⟩ := h.cells.resolve_left h0
  obtain ⟨off', k2⟩ := hb
  rw [k1] at k2
  cases k2
  exact k3

/-! The held changes. -/
def RH (v : Value) : Option (DataW Value × List MemPlace) := some (.held v, [])
def kI (k : Int) : Lit := .int .i64 k
theorem kI_ne {a b : Int} (h : a ≠ b) : kI a ≠ kI b := fun e => h (by cases e; rfl)
theorem kI_key (k : Int) : WideAt.IsKeyLit (kI k) := trivial
structure HeldOk (G : Nat → Prop) (w : World) (D : DataW Value) (hs : List (Int × List PE)) : Prop where
  nodup : (hs.map Prod.fst).Nodup
  keys : ∀ k : Int, Maps.has D (kI k) = decide (k ∈ hs.map Prod.fst)
  elem : ∀ x ∈ hs, ∃ v, D.atKey (kI x.1) (.held (.slice none 0 0)) = .held v ∧ PsG G w v x.2
  size : Maps.size D = hs.length
theorem HeldOk.keep {G G' : Nat → Prop} {w w' : World} {D : DataW Value} {hs : List (Int × List PE)} (h : HeldOk G w D hs) (hz : w.heap.size ≤ w'.heap.size) (hG : ∀ b, G b → b < w.heap.size → w'.heap[b]? = w.heap[b]?) (hg : ∀ b, G b → G' b) : HeldOk G' w' D hs :=
  ⟨h.nodup, h.keys, fun x hx => by obtain ⟨v, h1, h2⟩ := h.elem x hx; exact ⟨v, h1, h2.keep hz hG hg⟩, h.size⟩
theorem HeldOk.empty (G : Nat → Prop) (w : World) : HeldOk G w (.map []) [] := ⟨by simp, fun k => by simp [Maps.has], fun x hx => by simp at hx, rfl⟩
theorem HeldOk.put {G : Nat → Prop} {w : World} {D : DataW Value} {hs : List (Int × List PE)} (h : HeldOk G w D hs) (hT : Tidy D) {k : Int} (hk : k ∉ hs.map Prod.fst) {v : Value} {l : List PE} (hv : PsG G w v l) : HeldOk G w (D.put (kI k) (.held v)) (hs ++ [(k, l)]) := by
  have hM := hT.isMap
  refine ⟨?_, fun j => ?_, fun x hx => ?_, ?_⟩
  · rw [List.map_append, List.map_singleton]
    exact List.nodup_append.2 ⟨h.nodup, by simp, fun a ha b hb => by simp only [List.mem_singleton] at hb; subst hb; exact fun e => hk (e ▸ ha)⟩
  · by_cases hj : j = k
    · subst hj
      rw [has_put_same hM (kI_key _)]
      simp
    · rw [has_put_other (kI_ne hj), h.keys]
      simp [hj]
  · rcases List.mem_append.1 hx with hx | hx
    · have hne : x.1 ≠ k := fun e => hk (e ▸ List.mem_map.2 ⟨x, hx, rfl⟩)
      obtain ⟨u, h1, h2⟩ := h.elem x hx
      exact ⟨u, by rw [atKey_put_other (kI_ne hne)]; exact h1, h2⟩
    · simp only [List.mem_singleton] at hx
      subst hx
      exact ⟨v, atKey_put_same hM (kI_key _) _ _, hv⟩
  · rw [size_put hT, h.keys, if_neg (by simpa using hk), h.size, List.length_append]; rfl
def delH (hs : List (Int × List PE)) (k : Int) : List (Int × List PE) := hs.filter (fun x => decide (x.1 ≠ k))
theorem delH_len {hs : List (Int × List PE)} {k : Int} (hn : (hs.map Prod.fst).Nodup) (hk : k ∈ hs.map Prod.fst) : (delH hs k).length + 1 = hs.length := by
  induction hs with
  | nil => simp at hk
  | cons x hs ih =>
    rw [List.map_cons, List.nodup_cons] at hn
    unfold delH at ih ⊢
    by_cases hx : x.1 = k
    · have hall : hs.filter (fun x => decide (x.1 ≠ k)) = hs := List.filter_eq_self.2 (fun y hy => by
        simp only [decide_eq_true_eq]
        exact fun e => hn.1 (by rw [hx, ← e]; exact List.mem_map.2 ⟨y, hy, rfl⟩))
      rw [List.filter_cons, if_neg (by simp [hx]), hall, List.length_cons]
    · have hk2 : k ∈ hs.map Prod.fst := by
        rw [List.map_cons] at hk
        exact (List.mem_cons.1 hk).resolve_left (fun e => hx e.symm)
      rw [List.filter_cons, if_pos (by simp [hx]), List.length_cons, List.length_cons, ih hn.2 hk2]
theorem HeldOk.del {G : Nat → Prop} {w : World} {D : DataW Value} {hs : List (Int × List PE)} (h : HeldOk G w D hs) (hT : Tidy D) {k : Int} (hk : k ∈ hs.map Prod.fst) : HeldOk G w (D.del (kI k)) (delH hs k) := by
  refine ⟨?_, fun j => ?_, fun x hx => ?_, ?_⟩
  · exact (h.nodup).sublist (List.Sublist.map _ List.filter_sublist)
  · by_cases hj : j = k
    · subst hj
      rw [has_del_same]
      symm
      simp only [decide_eq_false_iff_not]
      rintro hm
      obtain ⟨x, hx, hxj⟩ := List.mem_map.1 hm
      have := (List.mem_filter.1 hx).2
      simp [hxj] at this
    · rw [has_del_other (kI_ne hj), h.keys]
      congr 1
      apply propext
      constructor
      · intro hm
        obtain ⟨x, hx, hxj⟩ := List.mem_map.1 hm
        exact List.mem_map.2 ⟨x, List.mem_filter.2 ⟨hx, by simp [hxj, hj]⟩, hxj⟩
      · intro hm
        obtain ⟨x, hx, hxj⟩ := List.mem_map.1 hm
        exact List.mem_map.2 ⟨x, (List.mem_filter.1 hx).1, hxj⟩
  · obtain ⟨hx1, hx2⟩ := List.mem_filter.1 hx
    have hne : x.1 ≠ k := by simpa using hx2
    obtain ⟨u, h1, h2⟩ := h.elem x hx1
    exact ⟨u, by rw [atKey_del_other (kI_ne hne)]; exact h1, h2⟩
  · have h1 := size_del (k := kI k) hT
    have h2 := delH_len h.nodup hk
    rw [h.keys, if_pos (by simpa using hk), h.size] at h1
    omega

end Go.Proofs.Ytkehgoailhpenaa

/- A document in memory, and what a call on it may turn. It has no conditions. -/
namespace Go.Proofs.Ytkehgoailhpenaa
open Go.RowKit Go.Shelf Go.Maps
set_option linter.unusedVariables false

/-- The cells of states, one after the other. -/
def svals (vs : List (ByteArray × Value)) : List Value := vs.flatMap fun x => [.string x.1, x.2]
theorem svals_len (vs : List (ByteArray × Value)) : (svals vs).length = vs.length * 2 := by
  induction vs with
  | nil => rfl
  | cons x vs ih => simp only [svals, List.flatMap_cons, List.length_append] at ih ⊢; rw [ih]; simp; omega
theorem svals_app (a b : List (ByteArray × Value)) : svals (a ++ b) = svals a ++ svals b := by simp [svals]
theorem svals_get : ∀ (vs : List (ByteArray × Value)) (k : Nat) (h : k < vs.length), (svals vs)[k * 2]? = some (.string (vs[k]).1) ∧ (svals vs)[k * 2 + 1]? = some (vs[k]).2 := by
  intro vs
  induction vs with
  | nil => intro k h; simp at h
  | cons x vs ih =>
    intro k h
    have e : svals (x :: vs) = Value.string x.1 :: x.2 :: svals vs := rfl
    rw [e]
    cases k with
    | zero => exact ⟨rfl, rfl⟩
    | succ k =>
      have := ih k (by simpa using h)
      rw [show (k + 1) * 2 = k * 2 + 1 + 1 by omega]
      exact this
theorem svals_set1 : ∀ (vs : List (ByteArray × Value)) (k : Nat) (h : k < vs.length) (u : Value), (svals vs).set (k * 2 + 1) u = svals (vs.set k ((vs[k]).1, u)) := by
  intro vs
  induction vs with
  | nil => intro k h; simp at h
  | cons x vs ih =>
    intro k h u
    have e : svals (x :: vs) = Value.string x.1 :: x.2 :: svals vs := rfl
    rw [e]
    cases k with
    | zero => rfl
    | succ k =>
      have := ih k (by simpa using h) u
      rw [show (k + 1) * 2 + 1 = (k * 2 + 1) + 1 + 1 by omega, List.set_cons_succ, List.set_cons_succ, this]
      rfl

/-- What the parts of a document are. -/
structure DsOk (s : DS) : Prop where
  v0 : 0 ≤ s.v
  v1 : s.v ≤ 1099511627776
  ne : s.ss ≠ []
  len : s.ss.length ≤ 17
  text : ∀ x ∈ s.ss, x.1.size ≤ 4096
  eds : ∀ x ∈ s.ss, x.2.length ≤ 64 ∧ ∀ e ∈ x.2, e.Fit
  hlen : s.hs.length ≤ 16
  held : ∀ x ∈ s.hs, x.2.length ≤ 64 ∧ ∀ p ∈ x.2, p.fit ∧ p.t.size ≤ 100000
  hk : ∀ x ∈ s.hs, 1 ≤ x.1 ∧ x.1 ≤ 1099511627776
/-- A state in memory. -/
def StOk (G : Nat → Prop) (w : World) (x : ByteArray × Value) (y : ByteArray × List Er) : Prop := x.1 = y.1 ∧ EsG G w x.2 y.2
inductive All2 {α β : Type} (R : α → β → Prop) : List α → List β → Prop
  | nil : All2 R [] []
  | cons {a : α} {b : β} {l : List α} {m : List β} : R a b → All2 R l m → All2 R (a :: l) (b :: m)
theorem All2.len {α β : Type} {R : α → β → Prop} {l : List α} {m : List β} (h : All2 R l m) : l.length = m.length := by
  induction h with
  | nil => rfl
  | cons _ _ ih => simp [ih]
theorem All2.mono {α β : Type} {R R' : α → β → Prop} {l : List α} {m : List β} (h : All2 R l m) (hR : ∀ a b, R a b → R' a b) : All2 R' l m := by
  induction h with
  | nil => exact .nil
  | cons h _ ih => exact .cons (hR _ _ h) ih
theorem All2.app {α β : Type} {R : α → β → Prop} {l l' : List α} {m m' : List β} (h : All2 R l m) (h' : All2 R l' m') : All2 R (l ++ l') (m ++ m') := by
  induction h with
  | nil => exact h'
  | cons h _ ih => exact .cons h ih
theorem All2.at_ {α β : Type} {R : α → β → Prop} {l : List α} {m : List β} (h : All2 R l m) : ∀ (k : Nat) (h1 : k < l.length) (h2 : k < m.length), R l[k] m[k] := by
  induction h with
  | nil => intro k h1; simp at h1
  | cons h _ ih =>
    intro k h1 h2
    cases k with
    | zero => exact h
    | succ k => exact ih k (by simpa using h1) (by simpa using h2)
theorem All2.drop {α β : Type} {R : α → β → Prop} {l : List α} {m : List β} (h : All2 R l m) : ∀ k, All2 R (l.drop k) (m.drop k) := by
  induction h with
  | nil => intro k; simp only [List.drop_nil]; exact .nil
  | cons h t ih =>
    intro k
    cases k with
    | zero => exact .cons h t
    | succ k => exact ih k
theorem All2.set {α β : Type} {R : α → β → Prop} {l : List α} {m : List β} (h : All2 R l m) {a : α} {b : β} (hab : R a b) : ∀ k, All2 R (l.set k a) (m.set k b) := by
  induction h with
  | nil => intro k; exact .nil
  | cons h t ih =>
    intro k
    cases k with
    | zero => exact .cons hab t
    | succ k => exact .cons h (ih k)

/-- A document lies at block p: T are the blocks that a call on it writes, G those of its lists. -/
structure DocI (T G : Nat → Prop) (w : World) (p : Nat) (s : DS) : Prop where
  ok : DsOk s
  mem : ∃ g cap m D vs, Blk w p 72 #[.int .i64 s.v, .slice (some ⟨g, 0, none⟩) vs.length cap, .map (some m)] ∧
    w.ownsRow 0 68 2 (.slice (some ⟨g, 0, none⟩) vs.length cap) vs.length (svals vs) ∧ All2 (StOk G w) vs s.ss ∧
    w.ownsMap Try.prog 3 RH m (Maps.size D) D ∧ HeldOk G w D s.hs ∧ T g ∧ T m
  tp : T p
  lt : ∀ b, T b → b < w.heap.size
  glt : ∀ b, G b → b < w.heap.size
  apart : ∀ b, T b → ¬ G b
theorem ownsMap_same {w w' : World} {m n : Nat} {D : DataW Value} (h : w.ownsMap Try.prog 3 RH m n D) (hb : w'.heap[m]? = w.heap[m]?) : w'.ownsMap Try.prog 3 RH m n D := by
  obtain ⟨es, clock, h1, h2⟩ := h
  exact ⟨es, clock, hb.trans h1, h2⟩
theorem ownsMap_tight {w : World} {m n : Nat} {D : DataW Value} (h : w.ownsMap Try.prog 3 RH m n D) : w.ownsMap Try.prog 3 RH m (Maps.size D) D := by
  obtain ⟨es, clock, h1, h2, h3, h4⟩ := h
  refine ⟨es, clock, h1, h2, ?_, h4⟩
  rw [h4]
  exact Nat.le_of_eq (length_read (P := Try.prog) (k := 3) (R0 := RH) es).symm
/-- A document stays what it is while its blocks lie as they lay. -/
theorem DocI.keep {T G : Nat → Prop} {w w' : World} {p : Nat} {s : DS} (h : DocI T G w p s) (hz : w.heap.size ≤ w'.heap.size) (hb : ∀ b, T b ∨ G b → w'.heap[b]? = w.heap[b]?) : DocI T G w' p s := by
  obtain ⟨g, cap, m, D, vs, h1, h2, h3, h4, h5, h6, h7⟩ := h.mem
  refine ⟨h.ok, ⟨g, cap, m, D, vs, h1.same (hb p (.inl h.tp)), own_same h2 (fun j hj => by cases hj; exact hb g (.inl h6)), ?_, ownsMap_same h4 (hb m (.inl h7)), h5.keep hz (fun b hg _ => hb b (.inr hg)) (fun _ h => h), h6, h7⟩, h.tp, fun b hb' => by have := h.lt b hb'; omega, fun b hb' => by have := h.glt b hb'; omega, h.apart⟩
  exact h3.mono (fun x y hxy => ⟨hxy.1, hxy.2.keep hz (fun b hg _ => hb b (.inr hg)) (fun _ h => h)⟩)
theorem DocI.below {T G : Nat → Prop} {w w' : World} {p : Nat} {s : DS} (h : DocI T G w p s) (hb : Below w.heap.size w w') : DocI T G w' p s :=
  h.keep hb.size (fun b hT => hb.block b (hT.elim (h.lt b) (h.glt b)))

/-- What a call on a document turns. -/
structure Stp (T G T' G' : Nat → Prop) (w w' : World) : Prop where
  only : Only T w w'
  t : ∀ b, T' b → T b ∨ w.heap.size ≤ b
  g : ∀ b, G' b → G b ∨ w.heap.size ≤ b
theorem Stp.of_below {T G : Nat → Prop} {w w' : World} (h : Below w.heap.size w w') : Stp T G T G w w' := ⟨Only.of_below h, fun _ h => .inl h, fun _ h => .inl h⟩
theorem Stp.refl (T G : Nat → Prop) (w : World) : Stp T G T G w w := Stp.of_below (Below.refl _ _)
theorem Stp.trans {T G T1 G1 T2 G2 : Nat → Prop} {a b c : World} (h : Stp T G T1 G1 a b) (k : Stp T1 G1 T2 G2 b c) (hG : True) : Stp T G T2 G2 a c := by
  have hz := h.only.size
  refine ⟨⟨k.only.os.trans h.only.os, k.only.tape.trans h.only.tape, k.only.output.trans h.only.output, Nat.le_trans h.only.size k.only.size, fun i hi hT => ?_⟩, fun b hb => ?_, fun b hb => ?_⟩
  · rw [k.only.block i (by omega) (fun h1 => (h.t i h1).elim hT (fun e => by omega)), h.only.block i hi hT]
  · rcases k.t b hb with h1 | h1
    · exact h.t b h1
    · exact .inr (by omega)
  · rcases k.g b hb with h1 | h1
    · exact h.g b h1
    · exact .inr (by omega)
theorem Stp.below {T G T' G' : Nat → Prop} {a b : World} (h : Stp T G T' G' a b) {B : Nat} (hB : B ≤ a.heap.size) (hT : ∀ k, T k → B ≤ k) : Below B a b := h.only.below hB hT
/-- Another document stays as it is. -/
theorem DocI.apartFrom {T G T1 G1 T1' G1' : Nat → Prop} {w w' : World} {p : Nat} {s : DS} (h : DocI T G w p s) (k : Stp T1 G1 T1' G1' w w') (h1 : ∀ b, T b ∨ G b → ¬ T1 b) : DocI T G w' p s :=
  h.keep k.only.size (fun b hb => k.only.block b (hb.elim (h.lt b) (h.glt b)) (h1 b hb))

/-- The cells of a document, in a form that a walk reads. -/
theorem DocI.cells {T G : Nat → Prop} {w : World} {p : Nat} {s : DS} (h : DocI T G w p s) : ∃ g cap m n, n + 1 = s.ss.length ∧ n + 1 ≤ cap ∧ w.cell? ⟨p, 0, none⟩ = some (.int .i64 s.v) ∧ w.cell? ⟨p, 1, none⟩ = some (.slice (some ⟨g, 0, none⟩) (n + 1) cap) ∧ w.cell? ⟨p, 2, none⟩ = some (.map (some m)) ∧ w.cell? ⟨g, n * 2, none⟩ = some (.string s.text) := by
  obtain ⟨g, cap, m, D, vs, h1, h2, h3, h4, h5, h6, h7⟩ := h.mem
  have hl := h3.len
  have hne := h.ok.ne
  have hpos : 0 < s.ss.length := List.length_pos_iff.2 hne
  obtain ⟨n, hn⟩ : ∃ n, n + 1 = s.ss.length := ⟨s.ss.length - 1, by omega⟩
  have c0 := h1.cell 0
  have c1 := h1.cell 1
  have c2 := h1.cell 2
  simp only [List.getElem?_toArray, List.getElem?_cons_zero, List.getElem?_cons_succ] at c0 c1 c2
  rw [show vs.length = n + 1 by omega] at c1 h2
  have hcap : n + 1 ≤ cap := by
    rcases h2.2 with ⟨hv, _⟩ | ⟨g', cp, cur, hv, _, _, h1, _⟩
    · simp at hv
    · simp only [Value.slice.injEq] at hv; omega
  refine ⟨g, cap, m, n, hn, hcap, c0, c1, c2, ?_⟩
  rw [h2.cellAt (n * 2) (by omega), (svals_get vs n (by omega)).1]
  have := (h3.at_ n (by omega) (by omega)).1
  rw [this]
  unfold DS.text
  rw [List.getLast?_eq_getElem?, show s.ss.length - 1 = n by omega, List.getElem?_eq_getElem (by omega)]
  rfl

set_option maxRecDepth 100000 in
set_option maxHeartbeats 1000000 in
theorem text_any (T G : Nat → Prop) (p : Nat) (s : DS) (w : World) (h : DocI T G w p s) :
    Calls Try.prog 11 #[.pointer (some ⟨p, 0, none⟩)] w fun e w' => e = .returned (.string s.text) ∧ Below w.heap.size w w' := by
  have hl := h.ok.len
  obtain ⟨g, cap, m, n, h1, h2, c0, c1, c2, c3⟩ := h.cells
  obtain ⟨N, hN⟩ : ∃ N, n + 1 = N := ⟨_, rfl⟩
  rw [hN] at c1 h1 h2
  obtain ⟨t, ht⟩ : ∃ t, s.text = t := ⟨_, rfl⟩
  rw [ht] at c3 ⊢
  have hj1 : IntKind.i64.wrap ((N : Int) - 1) = (n : Int) := by simp [IntKind.wrap, IntKind.signed, IntKind.bits]; omega
  have hj2 : (n : Int) < (N : Int) := by omega
  clear h ht h1 hN c0 c2
  go_enter Try.func11, Try.ntmps11
  go_wp2_with fail
  go_quiet (fail)
  go_wp2
  go_ret
  exact ⟨rfl, below_drewN (Below.refl _ _) _⟩

set_option maxRecDepth 100000 in
set_option maxHeartbeats 1000000 in
theorem version_any (T G : Nat → Prop) (p : Nat) (s : DS) (w : World) (h : DocI T G w p s) :
    Calls Try.prog 12 #[.pointer (some ⟨p, 0, none⟩)] w fun e w' => e = .returned (.int .i64 s.v) ∧ w = w' := by
  obtain ⟨g, cap, m, n, h1, h2, c0, c1, c2, c3⟩ := h.cells
  obtain ⟨v, hv⟩ : ∃ t, s.v = t := ⟨_, rfl⟩
  rw [hv] at c0 ⊢
  clear h hv h1 h2 c1 c2 c3
  go_enter Try.func12, Try.ntmps12
  go_wp2
  go_ret
  exact ⟨rfl, rfl⟩

end Go.Proofs.Ytkehgoailhpenaa

/- The contracts of early and check. It has no conditions. -/
namespace Go.Proofs.Ytkehgoailhpenaa
open Go.RowKit Go.Shelf Go.Maps
set_option linter.unusedVariables false

theorem keyInt : Keyed Try.prog 3 := int_keyed Try.underlying3
theorem keyOfI {k : Int} (h1 : -9223372036854775808 ≤ k) (h2 : k ≤ 9223372036854775807) : keyOf Try.prog 3 (.int .i64 k) = some (kI k) := keyOf_int_mk Try.underlying3 (WalkArith.wf_i64 ⟨h1, h2⟩)
theorem zeroP (w : World) : (zeroValue 32).run Try.prog w = .ok (.slice none 0 0) w := by kernel_rfl
/-- A document's cells and its map. -/
theorem DocI.full {T G : Nat → Prop} {w : World} {p : Nat} {s : DS} (h : DocI T G w p s) : ∃ g cap m n D, n + 1 = s.ss.length ∧ n + 1 ≤ cap ∧ w.cell? ⟨p, 0, none⟩ = some (.int .i64 s.v) ∧ w.cell? ⟨p, 1, none⟩ = some (.slice (some ⟨g, 0, none⟩) (n + 1) cap) ∧ w.cell? ⟨p, 2, none⟩ = some (.map (some m)) ∧
    w.ownsMap Try.prog 3 RH m (Maps.size D) D ∧ HeldOk G w D s.hs ∧ T m ∧ p < w.heap.size := by
  obtain ⟨g, cap, m, D, vs, h1, h2, h3, h4, h5, h6, h7⟩ := h.mem
  have hl := h3.len
  have hpos : 0 < s.ss.length := List.length_pos_iff.2 h.ok.ne
  obtain ⟨n, hn⟩ : ∃ n, n + 1 = s.ss.length := ⟨s.ss.length - 1, by omega⟩
  have c0 := h1.cell 0
  have c1 := h1.cell 1
  have c2 := h1.cell 2
  simp only [List.getElem?_toArray, List.getElem?_cons_zero, List.getElem?_cons_succ] at c0 c1 c2
  rw [show vs.length = n + 1 by omega] at c1 h2
  have hcap : n + 1 ≤ cap := by
    rcases h2.2 with ⟨hv, _⟩ | ⟨g', cp, cur, hv, _, _, h1, _⟩
    · simp at hv
    · simp only [Value.slice.injEq] at hv; omega
  exact ⟨g, cap, m, n, D, hn, hcap, c0, c1, c2, h4, h5, h7, h1.lt⟩

set_option maxRecDepth 100000 in
set_option maxHeartbeats 1000000 in
theorem early_any (T G : Nat → Prop) (p : Nat) (s : DS) (w : World) (h : DocI T G w p s) (cv : Int) (a : Option Addr) (n cap : Nat) :
    Calls Try.prog 36 #[.pointer (some ⟨p, 0, none⟩), .agg #[.int .i64 cv, .slice a n cap]] w fun e w' => e = .returned (.bool (decide (s.v + 1 < cv))) ∧ Below w.heap.size w w' := by
  have hv0 := h.ok.v0
  have hv1 := h.ok.v1
  obtain ⟨W1, hW1⟩ : ∃ W, w.alloc (.cells #[.int .i64 cv, .slice a n cap] 34) = W := ⟨_, rfl⟩
  have b1 : Below w.heap.size w W1 := by rw [← hW1]; exact (Below.refl _ _).alloc (Nat.le_refl _) _
  have k1 : Blk W1 w.heap.size 34 #[.int .i64 cv, .slice a n cap] := by rw [← hW1]; exact Blk.new _ _ _
  obtain ⟨g, cp, m, n', D, _, _, c0, _⟩ := (h.below b1).full
  obtain ⟨q, hq⟩ : ∃ q, w.heap.size = q := ⟨_, rfl⟩
  have d0 := k1.cell 0
  simp only [List.getElem?_toArray, List.getElem?_cons_zero] at d0
  obtain ⟨v, hv⟩ : ∃ t, s.v = t := ⟨_, rfl⟩
  rw [hv] at c0 hv0 hv1 ⊢
  have HB := Lib.hid b1; have HW := Lib.hid hW1
  rw [hq] at d0
  have HQ := Lib.hid hq
  clear h hv b1 k1 hW1
  go_enter Try.func36, Try.ntmps36
  go_wp2_with fail
  rw [show w.alloc (.cells #[.int .i64 cv, .slice a n cap] 34) = W1 from HW.out]
  go_quiet (fail)
  go_wp2
  go_ret
  exact ⟨rfl, below_drewN HB.out _⟩

theorem RH_inv {v : Value} {d : DataW Value} {ps : List MemPlace} (h : RH v = some (d, ps)) : d = .held v := by
  unfold RH at h
  simp only [Option.some.injEq, Prod.mk.injEq] at h
  exact h.1.symm
/-- What a look-up in the map of the held changes gives. -/
theorem look_held {w : World} {m : Nat} {D : DataW Value} (hm : w.ownsMap Try.prog 3 RH m (Maps.size D) D) {k : Int} (h1 : -9223372036854775808 ≤ k) (h2 : k ≤ 9223372036854775807) :
    ∃ v, D.atKey (kI k) (.held (.slice none 0 0)) = .held v ∧ ∀ V : World, V.heap[m]? = w.heap[m]? → (Instr.lookup 70 (.map (some m)) (.int .i64 k) true).run Try.prog V = .ok (.tuple #[v, .bool (Maps.has D (kI k))]) V := by
  obtain ⟨v1, ps1, _, hv1⟩ := hm.look_ok keyInt Try.underlying70 (zeroP w) (R := RH) rfl (keyOfI h1 h2)
  have e1 := RH_inv hv1
  refine ⟨v1, e1, fun V hV => ?_⟩
  obtain ⟨v2, ps2, hr, hv2⟩ := (ownsMap_same hm hV).look_ok keyInt Try.underlying70 (zeroP _) (R := RH) rfl (keyOfI h1 h2)
  have e2 := RH_inv hv2
  have : v2 = v1 := by
    have h3 := e2.symm.trans e1
    simpa using h3
  rw [hr, this]
/-- The error of a change that does not depend on the text. -/
def chkE (s : DS) (cv : Int) (n : Nat) : Int :=
  if cv < 1 ∨ 1099511627776 < cv then 1 else if 64 < n then 4 else if cv ≤ s.v ∨ cv ∈ s.hs.map Prod.fst then 8 else if s.v + 1 < cv ∧ 16 ≤ s.hs.length then 4 else 0

set_option maxRecDepth 100000 in
set_option maxHeartbeats 4000000 in
theorem check_any (T G : Nat → Prop) (p : Nat) (s : DS) (w : World) (h : DocI T G w p s) (cv : Int) (a : Option Addr) (n cap : Nat) (h1 : -9223372036854775808 ≤ cv) (h2 : cv ≤ 9223372036854775807) :
    Calls Try.prog 35 #[.pointer (some ⟨p, 0, none⟩), .agg #[.int .i64 cv, .slice a n cap]] w fun e w' => e = .returned (.int .i64 (chkE s cv n)) ∧ Below w.heap.size w w' := by
  have hv0 := h.ok.v0
  have hv1 := h.ok.v1
  obtain ⟨W1, hW1⟩ : ∃ W, w.alloc (.cells #[.int .i64 cv, .slice a n cap] 34) = W := ⟨_, rfl⟩
  have b1 : Below w.heap.size w W1 := by rw [← hW1]; exact (Below.refl _ _).alloc (Nat.le_refl _) _
  have k1 : Blk W1 w.heap.size 34 #[.int .i64 cv, .slice a n cap] := by rw [← hW1]; exact Blk.new _ _ _
  have hD := h.below b1
  have CE := fun W (hW : Below W1.heap.size W1 W) => early_any T G p s W (hD.below hW) cv a n cap
  obtain ⟨g, cp, m, n', D, _, _, c0, _, c2, hm, hh, hTm, hpW⟩ := hD.full
  have hmW := hD.lt m hTm
  obtain ⟨bk, hbk⟩ : ∃ b : Bool, decide (cv ∈ s.hs.map Prod.fst) = b := ⟨_, rfl⟩
  have hkeys := (hh.keys cv).trans hbk
  obtain ⟨v1, _, hlook⟩ := look_held hm h1 h2
  rw [hkeys] at hlook
  have hsz := hh.size
  have hlen := fun V (hV : V.heap[m]? = W1.heap[m]?) => (ownsMap_same (w' := V) hm hV).len Try.underlying70 3
  rw [hsz] at hlen
  obtain ⟨q, hq⟩ : ∃ q, w.heap.size = q := ⟨_, rfl⟩
  have d0 := k1.cell 0
  have d1 := k1.cell 1
  simp only [List.getElem?_toArray, List.getElem?_cons_zero, List.getElem?_cons_succ] at d0 d1
  obtain ⟨R, hR⟩ : ∃ R, chkE s cv n = R := ⟨_, rfl⟩
  have hRE : R = if cv < 1 ∨ 1099511627776 < cv then 1 else if 64 < n then 4 else if cv ≤ s.v ∨ bk = true then 8 else if s.v + 1 < cv ∧ 16 ≤ s.hs.length then 4 else 0 := by
    rw [← hR]; unfold chkE; rw [← hbk]; simp only [decide_eq_true_eq]
  obtain ⟨L, hL⟩ : ∃ L, s.hs.length = L := ⟨_, rfl⟩
  obtain ⟨v, hv⟩ : ∃ t, s.v = t := ⟨_, rfl⟩
  rw [hv, hL] at hRE
  rw [hv] at c0 hv0 hv1
  simp only [hv] at CE
  rw [hL] at hlen
  rw [hR]
  have HBW := Lib.hid b1
  have HBQ : Hid (Below q w W1) := by rw [← hq]; exact b1
  have HW := Lib.hid hW1; have HCE := Lib.hid CE; have HRE := Lib.hid hRE; have HLK := Lib.hid hlook; have HLN := Lib.hid hlen
  rw [hq] at d0 d1
  clear h hv b1 k1 hW1 hD CE hRE hR hbk hkeys hsz hh hm hL hlook hlen
  go_enter Try.func35, Try.ntmps35
  by_cases hA : cv < 1
  · have hr := HRE.out; rw [if_pos (.inl hA)] at hr; subst hr
    go_wp2_with fail
    go_ret
    exact ⟨rfl, by rw [show w.alloc (.cells #[.int .i64 cv, .slice a n cap] 34) = W1 from HW.out]; first | exact HBQ.out | exact HBW.out⟩
  by_cases hB : 1099511627776 < cv
  · have hr := HRE.out; rw [if_pos (.inr hB)] at hr; subst hr
    go_wp2_with fail
    go_ret
    exact ⟨rfl, by rw [show w.alloc (.cells #[.int .i64 cv, .slice a n cap] 34) = W1 from HW.out]; first | exact HBQ.out | exact HBW.out⟩
  have hr := HRE.out
  rw [if_neg (by omega)] at hr
  by_cases hC : 64 < n
  · rw [if_pos hC] at hr; subst hr
    have hC2 : (64 : Int) < (n : Int) := by omega
    go_wp2_with fail
    go_ret
    exact ⟨rfl, by rw [show w.alloc (.cells #[.int .i64 cv, .slice a n cap] 34) = W1 from HW.out]; first | exact HBQ.out | exact HBW.out⟩
  rw [if_neg hC] at hr
  have hC2 : ¬ (64 : Int) < (n : Int) := by omega
  have hlk := HLK.out W1 rfl
  have hlk1 := HLK.out W1.drew rfl
  have HR := Lib.hid hr
  clear hr
  go_wp2_with fail
  rw [show w.alloc (.cells #[.int .i64 cv, .slice a n cap] 34) = W1 from HW.out]
  go_region
  by_cases hD : cv ≤ v ∨ bk = true
  · have hr := HR.out
    rw [if_pos hD] at hr; subst hr
    have hlt : bk = false → cv ≤ v := fun h => hD.resolve_right (by simp [h])
    cases bk with
    | true =>
      clear hD hlt
      go_wp2_with fail
      go_region
      go_wp2_with fail
      go_ret
      exact ⟨rfl, by first | exact HBQ.out.drew.drew | exact HBW.out.drew.drew⟩
    | false =>
      have hle := hlt rfl
      have hled : decide (cv ≤ v) = true := by simp [hle]
      clear hD hlt
      go_wp2_with fail
      go_region
      go_wp2_with fail
      go_ret
      exact ⟨rfl, by first | exact HBQ.out.drew.drew | exact HBW.out.drew.drew⟩
  · have hr := HR.out
    rw [if_neg hD] at hr
    obtain rfl : bk = false := by cases bk with | true => exact absurd (.inr rfl) hD | false => rfl
    have hle : ¬ cv ≤ v := fun h => hD (.inl h)
    have hled : decide (cv ≤ v) = false := by simp [hle]
    have HR2 := Lib.hid hr
    clear hD hr HR
    go_wp2_with fail
    go_region
    have hce := HCE.out W1.drew.drew (Below.refl _ _).drew.drew
    have hln := HLN.out
    go_wp2_with fail
    refine hce.mono ?_
    rintro e w5 ⟨rfl, b5⟩
    have B5 : Below W1.heap.size W1 w5 := (Below.refl _ _).drew.drew.trans b5
    have c25 : w5.cell? ⟨p, 2, none⟩ = some (.map (some m)) := (B5.cell (p := ⟨p, 2, none⟩) hpW).trans c2
    have hln5 := hln w5 (B5.block m hmW)
    have HB5 := Lib.hid B5
    have hr2 := HR2.out
    clear b5 B5 hln hce
    by_cases hE : v + 1 < cv
    · have hEd : decide (v + 1 < cv) = true := by simp [hE]
      rw [hEd]
      by_cases hF : 16 ≤ L
      · rw [if_pos ⟨hE, hF⟩] at hr2; subst hr2
        have hF2 : (16 : Int) ≤ (L : Int) := by omega
        go_wp2_with fail
        go_ret
        exact ⟨rfl, HBW.out.trans (HB5.out.mono HBW.out.size)⟩
      · rw [if_neg (fun h => hF h.2)] at hr2; subst hr2
        have hF2 : ¬ (16 : Int) ≤ (L : Int) := by omega
        go_wp2_with fail
        go_ret
        exact ⟨rfl, HBW.out.trans (HB5.out.mono HBW.out.size)⟩
    · have hEd : decide (v + 1 < cv) = false := by simp [hE]
      rw [hEd]
      rw [if_neg (fun h => hE h.1)] at hr2; subst hr2
      go_wp2_with fail
      go_ret
      exact ⟨rfl, HBW.out.trans (HB5.out.mono HBW.out.size)⟩

end Go.Proofs.Ytkehgoailhpenaa

/- The contract of remember, for a document that remembers at most 16 states. -/
namespace Go.Proofs.Ytkehgoailhpenaa
open Go.RowKit Go.Shelf Go.Maps
set_option linter.unusedVariables false

theorem infoSt : (Try.prog.info? 68).map (fun i => (i.zero, i.size, i.bytes)) = some (some (.agg #[.string ⟨#[]⟩, .slice none 0 0]), 2, 40) := by kernel_rfl
/-- The blocks that a call may write, and those that it has made. -/
def newT (T : Nat → Prop) (w w' : World) (b : Nat) : Prop := T b ∨ (w.heap.size ≤ b ∧ b < w'.heap.size)
theorem EsG.none (G : Nat → Prop) (w : World) : EsG G w (.slice Option.none 0 0) [] := ⟨Option.none, 0, rfl, by simp, by omega, fun _ => rfl, .inl rfl⟩

set_option maxRecDepth 100000 in
set_option maxHeartbeats 4000000 in
theorem remember_any (T G : Nat → Prop) (p : Nat) (s : DS) (t : ByteArray) (w : World) (h : DocI T G w p s) (hl : s.ss.length ≤ 16) (ht : t.size ≤ 4096) :
    Calls Try.prog 69 #[.pointer (some ⟨p, 0, none⟩), .string t] w fun e w' => (∃ rv, e = .returned rv) ∧ DocI (newT T w w') G w' p ⟨s.v, s.ss ++ [(t, [])], s.hs⟩ ∧ Only T w w' := by
  obtain ⟨i3, hi3, jy0, jy1, jy2⟩ := info_parts infoSt
  obtain ⟨g, cap, m, D, vs, h1, h2, h3, h4, h5, h6, h7⟩ := h.mem
  have hlen := h3.len
  obtain ⟨n, hn⟩ : ∃ n, vs.length = n := ⟨_, rfl⟩
  have hn16 : n ≤ 16 := by omega
  have hcap : n ≤ cap := by
    rcases h2.2 with ⟨hv, _⟩ | ⟨g', cp, cur, hv, _, _, k1, _⟩
    · simp at hv
    · simp only [Value.slice.injEq] at hv; omega
  have hmx : cap ≤ 9223372036854775807 := by
    rcases h2.2 with ⟨hv, _⟩ | ⟨g', cp, cur, hv, _, _, _, k1, _⟩
    · simp at hv
    · simp only [Value.slice.injEq] at hv; unfold maxLen at k1; omega
  have hgp : g ≠ p := by
    rintro rfl
    rcases h2.2 with ⟨hv, _⟩ | ⟨g', cp, cur, hv, _, hg, _⟩
    · simp at hv
    · simp only [Value.slice.injEq, Option.some.injEq, Addr.mk.injEq] at hv
      obtain ⟨⟨rfl, _⟩, _⟩ := hv
      unfold Blk at h1
      rw [hg] at h1
      simp at h1
  have hmp : m ≠ p := by
    rintro rfl
    obtain ⟨es, clock, k1, _⟩ := h4
    unfold Blk at h1
    rw [k1] at h1
    simp at h1
  have hmg : m ≠ g := by
    rintro rfl
    obtain ⟨es, clock, k1, _⟩ := h4
    rcases h2.2 with ⟨hv, _⟩ | ⟨g', cp, cur, hv, _, hg, _⟩
    · simp at hv
    · simp only [Value.slice.injEq, Option.some.injEq, Addr.mk.injEq] at hv
      obtain ⟨⟨rfl, _⟩, _⟩ := hv
      rw [k1] at hg
      simp at hg
  obtain ⟨v, hv⟩ : ∃ v, s.v = v := ⟨_, rfl⟩
  rw [hn, hv] at h1
  rw [hn] at h2
  have c1 := h1.cell 1
  simp only [List.getElem?_toArray, List.getElem?_cons_zero, List.getElem?_cons_succ] at c1
  have hplt := h1.lt
  have HKP : Hid (∀ w6, (w.alloc (.cells #[.string t, .slice none 0 0] 68)).grownBy w6 (some g) → Blk w6 p 72 #[.int .i64 v, .slice (some ⟨g, 0, none⟩) n cap, .map (some m)]) := fun w6 hg => by
    refine h1.same ((hg.block p (by simp; omega) (fun e => by cases e; exact hgp rfl)).trans ?_)
    exact Below.heap_alloc w _ p hplt
  have HFIN : Hid (∀ w6 v', w6.ownsRow 0 68 2 v' (n + 1) (svals vs ++ [.string t, .slice none 0 0]) → (w.alloc (.cells #[.string t, .slice none 0 0] 68)).grownBy w6 (some g) → (v'.ownBlock = some g ∨ v'.ownBlock = some (w.heap.size + 1)) →
      DocI (newT T w (w6.setCell ⟨p, 1, none⟩ v')) G (w6.setCell ⟨p, 1, none⟩ v') p ⟨s.v, s.ss ++ [(t, [])], s.hs⟩ ∧ Only T w (w6.setCell ⟨p, 1, none⟩ v')) := fun w6 v' hown hg hat => by
    have kp := HKP.out w6 hg
    obtain ⟨A, c6, rfl⟩ := own_slice hown
    obtain ⟨g6, c6', hv6⟩ := ownsRow_succ hown
    simp only [Value.slice.injEq, true_and] at hv6
    obtain ⟨rfl, rfl⟩ := hv6
    have hat2 : g6 = g ∨ g6 = w.heap.size + 1 := by
      rcases hat with e | e
      · exact .inl (by simpa [Value.ownBlock] using e)
      · exact .inr (by simpa [Value.ownBlock] using e)
    have hg6p : g6 ≠ p := by rcases hat2 with e | e <;> omega
    have hz6 : w.heap.size < w6.heap.size := by have := hg.size; simp at this; omega
    have hzs : (w6.setCell ⟨p, 1, none⟩ (.slice (some ⟨g6, 0, none⟩) (n + 1) c6)).heap.size = w6.heap.size := by simp [World.setCell]
    obtain ⟨w7, hw7⟩ : ∃ W, w6.setCell ⟨p, 1, none⟩ (.slice (some ⟨g6, 0, none⟩) (n + 1) c6) = W := ⟨_, rfl⟩
    have hblk : ∀ b, b ≠ p → w7.heap[b]? = w6.heap[b]? := fun b hb => by rw [← hw7]; exact Below.heap_setCell _ _ _ b (fun e => hb (by simpa using e))
    have hold : ∀ b, b < w.heap.size → b ≠ p → b ≠ g → w7.heap[b]? = w.heap[b]? := fun b hb hp hg' =>
      ((hblk b hp).trans (hg.block b (by simp; omega) (fun e => by cases e; exact hg' rfl))).trans (Below.heap_alloc w _ b hb)
    have kp7 : Blk w7 p 72 #[.int .i64 v, .slice (some ⟨g6, 0, none⟩) (n + 1) c6, .map (some m)] := by
      have := kp.set 1 (.slice (some ⟨g6, 0, none⟩) (n + 1) c6)
      rw [hw7] at this
      simpa using this
    rw [hw7] at hzs ⊢
    have hTp := h.tp
    have hg6lt : g6 < w6.heap.size := (row_lt hown).2
    have hGne : ∀ b, G b → b ≠ p ∧ b ≠ g := fun b hb => ⟨fun e => h.apart p hTp (e ▸ hb), fun e => h.apart g h6 (e ▸ hb)⟩
    have hGk : ∀ b, G b → b < w.heap.size → w7.heap[b]? = w.heap[b]? := fun b hb hlt => hold b hlt (hGne b hb).1 (hGne b hb).2
    have hmk : w7.heap[m]? = w.heap[m]? := hold m (h.lt m h7) hmp hmg
    have hvl : (vs ++ [(t, Value.slice none 0 0)]).length = n + 1 := by rw [List.length_append, hn]; rfl
    refine ⟨⟨⟨h.ok.v0, h.ok.v1, by simp, by simp only [List.length_append, List.length_cons, List.length_nil]; omega, ?_, ?_, h.ok.hlen, h.ok.held, h.ok.hk⟩, ⟨g6, c6, m, D, vs ++ [(t, .slice none 0 0)], ?_, ?_, ?_, ownsMap_same h4 hmk, h5.keep (by omega) hGk (fun _ h => h), ?_, .inl h7⟩, .inl hTp, ?_, ?_, ?_⟩, ?_⟩
    · intro x hx
      rcases List.mem_append.1 hx with hx | hx
      · exact h.ok.text x hx
      · simp only [List.mem_singleton] at hx; subst hx; exact ht
    · intro x hx
      rcases List.mem_append.1 hx with hx | hx
      · exact h.ok.eds x hx
      · simp only [List.mem_singleton] at hx; subst hx; exact ⟨Nat.zero_le _, fun e he => by simp at he⟩
    · rw [hvl]; show Blk w7 p _ #[.int .i64 s.v, _, _]; rw [hv]; exact kp7
    · rw [hvl, svals_app]; exact own_same hown (fun j hj => by cases hj; exact hblk g6 hg6p)
    · exact (h3.mono (fun x y hxy => ⟨hxy.1, hxy.2.keep (by omega) hGk (fun _ h => h)⟩)).app (.cons ⟨rfl, EsG.none _ _⟩ .nil)
    · rcases hat2 with e | e
      · exact .inl (e ▸ h6)
      · exact .inr ⟨by omega, by omega⟩
    · intro b hb
      rcases hb with hb | hb
      · have := h.lt b hb; omega
      · exact hb.2
    · intro b hb; have := h.glt b hb; omega
    · intro b hb hG
      rcases hb with hb | hb
      · exact h.apart b hb hG
      · have := h.glt b hG; omega
    · refine ⟨?_, ?_, ?_, by omega, fun k hk hT => hold k hk (fun e => hT (e ▸ hTp)) (fun e => hT (e ▸ h6))⟩
      · rw [← hw7]; exact hg.os
      · rw [← hw7]; exact hg.tape
      · rw [← hw7]; exact hg.output
  have HO := Lib.hid h2
  have hk1 : ¬ (16 : Int) < (n : Int) := by omega
  have hk2 : (n : Int) ≤ (cap : Int) := by omega
  clear h h1 h2 h3 h4 h5 h6 h7 hlen hn hgp hmp hmg hv hplt
  go_enter Try.func69, Try.ntmps69
  go_wp2_with (at_builtin; refine wpList_append_own_at _ rfl _ _ 69 rfl 0 68 i3 (.agg #[.string ⟨#[]⟩, .slice none 0 0]) 2 40 Try.underlying69 hi3 jy0 jy1 jy2 rfl (by decide) (.slice (some ⟨g, 0, none⟩) n cap) n (svals vs) rfl (HO.out.alloc _) ⟨_, 0, none⟩ 1 1 [.string t, .slice none 0 0] rfl rfl (cells_newb _ [.string t, .slice none 0 0] _ _ (by simp; try omega)) (fun x hx => by simp at hx; rcases hx with rfl | rfl <;> rfl) (by unfold maxLen; omega) (by omega) (Nat.zero_le _) ?_; intro v' w6 hown6 hgrow6 _ hat6; obtain ⟨ao, co, rfl⟩ := own_slice hown6; have hk6 := HKP.out w6 hgrow6; have c8 : w6.cell? ⟨p, 1, none⟩ = some (.slice (some ⟨g, 0, none⟩) n cap) := (by simpa using hk6.cell 1); have f8 := hk6.frozen 1)
  have hF := HFIN.out w6 (.slice ao (n + 1) co) hown6 hgrow6 (by simpa [Value.ownBlock] using hat6)
  refine bodyPost_end (results_none rfl _ _ _) rfl ?_
  exact ⟨⟨_, rfl⟩, hF⟩

end Go.Proofs.Ytkehgoailhpenaa

/- copy on a row whose elements have several cells. It has no conditions. -/
namespace Go.Proofs.Ytkehgoailhpenaa
open Go.RowKit Go.Shelf Go.Maps
set_option linter.unusedVariables false

theorem addr_add' (b off j : Nat) : (⟨b, off, none⟩ : Addr).add j = ⟨b, off + j, none⟩ := by
  by_cases h : j = 0 <;> simp [Addr.add, h]
theorem DocI.monoW {T T1 G : Nat → Prop} {w : World} {p : Nat} {s : DS} (h : DocI T G w p s) (hT : ∀ b, T b → T1 b) (hlt : ∀ b, T1 b → b < w.heap.size) (ha : ∀ b, T1 b → ¬ G b) : DocI T1 G w p s := by
  obtain ⟨g, cp, m, D, vs, h1, h2, h3, h4, h5, h6, h7⟩ := h.mem
  exact ⟨h.ok, ⟨g, cp, m, D, vs, h1, h2, h3, h4, h5, hT g h6, hT m h7⟩, hT p h.tp, hlt, h.glt, ha⟩
theorem run_copy_cells2 {P : Program} (w : World) (dT sT ty elem : TypeId) (g o dLen dCap sz m : Nat) (a : Addr) (sLen sCap : Nat) (cur : Array Value) (t : TypeId) (cs : List Value)
    (hu : P.underlying dT = some (.slice elem)) (hs : (P.info? elem).map (·.size) = some sz)
    (hg : w.heap[g]? = some (.cells cur t (0, 0))) (hm : Nat.min sLen dLen = m) (hn : cs.length = m * sz)
    (hsrc : ∀ j v, cs[j]? = some v → w.cell? (a.add j) = some v) (hfit : o + cs.length ≤ cur.size) (h1 : ∀ v ∈ cs, v.oneCell' = true) :
    (Builtin.copy_ #[dT, sT] ty #[.slice (some ⟨g, o, none⟩) dLen dCap, .slice (some a) sLen sCap]).run P w =
      .ok (goInt m) (w.setRow g (cur.toList.take o ++ cs ++ cur.toList.drop (o + cs.length)).toArray) := by
  have hl := run_loadCells_list (P := P) w a cs hsrc
  have hst := run_storeCells_at P g o t cs 0 cur w hg (by simpa using hfit) h1
  cases hq : P.info? elem with
  | none => simp [hq] at hs
  | some i =>
    have hi : i.size = sz := by simpa [hq] using hs
    simp [Builtin.copy_, run_underlying hu, Builtin.lenOf, Builtin.firstCells, sizeOf, typeInfo, hq, hi, hm, ← hn, hl, hst]

/-- Behind the append of remember. -/
theorem rem_tail {T G : Nat → Prop} {w : World} {p g m n : Nat} {s : DS} {ss' : List (ByteArray × List Er)} {t : ByteArray} {X : Value} {D : DataW Value} {vs : List (ByteArray × Value)} (hok : DsOk ⟨s.v, ss' ++ [(t, [])], s.hs⟩) (hn : vs.length = n)
    (h1 : Blk w p 72 #[.int .i64 s.v, X, .map (some m)]) (h3 : All2 (StOk G w) vs ss') (h4 : w.ownsMap Try.prog 3 RH m (Maps.size D) D) (h5 : HeldOk G w D s.hs) (h6 : T g) (h7 : T m) (hTp : T p) (hlt : ∀ b, T b → b < w.heap.size) (hglt : ∀ b, G b → b < w.heap.size) (hap : ∀ b, T b → ¬ G b)
    (hgp : g ≠ p) (hmp : m ≠ p) (hmg : m ≠ g) : ∀ w6 v', w6.ownsRow 0 68 2 v' (n + 1) (svals vs ++ [.string t, .slice none 0 0]) → (w.alloc (.cells #[.string t, .slice none 0 0] 68)).grownBy w6 (some g) → (v'.ownBlock = some g ∨ v'.ownBlock = some (w.heap.size + 1)) →
      DocI (newT T w (w6.setCell ⟨p, 1, none⟩ v')) G (w6.setCell ⟨p, 1, none⟩ v') p ⟨s.v, ss' ++ [(t, [])], s.hs⟩ ∧ Only T w (w6.setCell ⟨p, 1, none⟩ v') := by
  intro w6 v' hown hg hat
  have hplt := h1.lt
  have kp : Blk w6 p 72 #[.int .i64 s.v, X, .map (some m)] := h1.same ((hg.block p (by simp; omega) (fun e => by cases e; exact hgp rfl)).trans (Below.heap_alloc w _ p hplt))
  obtain ⟨A, c6, rfl⟩ := own_slice hown
  obtain ⟨g6, c6', hv6⟩ := ownsRow_succ hown
  simp only [Value.slice.injEq, true_and] at hv6
  obtain ⟨rfl, rfl⟩ := hv6
  have hat2 : g6 = g ∨ g6 = w.heap.size + 1 := by
    rcases hat with e | e
    · exact .inl (by simpa [Value.ownBlock] using e)
    · exact .inr (by simpa [Value.ownBlock] using e)
  have hg6p : g6 ≠ p := by rcases hat2 with e | e <;> omega
  have hz6 : w.heap.size < w6.heap.size := by have := hg.size; simp at this; omega
  have hzs : (w6.setCell ⟨p, 1, none⟩ (.slice (some ⟨g6, 0, none⟩) (n + 1) c6)).heap.size = w6.heap.size := by simp [World.setCell]
  obtain ⟨w7, hw7⟩ : ∃ W, w6.setCell ⟨p, 1, none⟩ (.slice (some ⟨g6, 0, none⟩) (n + 1) c6) = W := ⟨_, rfl⟩
  have hblk : ∀ b, b ≠ p → w7.heap[b]? = w6.heap[b]? := fun b hb => by rw [← hw7]; exact Below.heap_setCell _ _ _ b (fun e => hb (by simpa using e))
  have hold : ∀ b, b < w.heap.size → b ≠ p → b ≠ g → w7.heap[b]? = w.heap[b]? := fun b hb hp hg' =>
    ((hblk b hp).trans (hg.block b (by simp; omega) (fun e => by cases e; exact hg' rfl))).trans (Below.heap_alloc w _ b hb)
  have kp7 : Blk w7 p 72 #[.int .i64 s.v, .slice (some ⟨g6, 0, none⟩) (n + 1) c6, .map (some m)] := by
    have := kp.set 1 (.slice (some ⟨g6, 0, none⟩) (n + 1) c6)
    rw [hw7] at this
    simpa using this
  rw [hw7] at hzs ⊢
  have hg6lt : g6 < w6.heap.size := (row_lt hown).2
  have hGne : ∀ b, G b → b ≠ p ∧ b ≠ g := fun b hb => ⟨fun e => hap p hTp (e ▸ hb), fun e => hap g h6 (e ▸ hb)⟩
  have hGk : ∀ b, G b → b < w.heap.size → w7.heap[b]? = w.heap[b]? := fun b hb hlt => hold b hlt (hGne b hb).1 (hGne b hb).2
  have hmk : w7.heap[m]? = w.heap[m]? := hold m (hlt m h7) hmp hmg
  have hvl : (vs ++ [(t, Value.slice none 0 0)]).length = n + 1 := by rw [List.length_append, hn]; rfl
  refine ⟨⟨hok, ⟨g6, c6, m, D, vs ++ [(t, .slice none 0 0)], ?_, ?_, ?_, ownsMap_same h4 hmk, h5.keep (by omega) hGk (fun _ h => h), ?_, .inl h7⟩, .inl hTp, ?_, ?_, ?_⟩, ?_⟩
  · rw [hvl]; exact kp7
  · rw [hvl, svals_app]; exact own_same hown (fun j hj => by cases hj; exact hblk g6 hg6p)
  · exact (h3.mono (fun x y hxy => ⟨hxy.1, hxy.2.keep (by omega) hGk (fun _ h => h)⟩)).app (.cons ⟨rfl, EsG.none _ _⟩ .nil)
  · rcases hat2 with e | e
    · exact .inl (e ▸ h6)
    · exact .inr ⟨by omega, by omega⟩
  · intro b hb
    rcases hb with hb | hb
    · have := hlt b hb; omega
    · exact hb.2
  · intro b hb; have := hglt b hb; omega
  · intro b hb hG
    rcases hb with hb | hb
    · exact hap b hb hG
    · have := hglt b hG; omega
  · refine ⟨?_, ?_, ?_, by omega, fun k hk hT => hold k hk (fun e => hT (e ▸ hTp)) (fun e => hT (e ▸ h6))⟩
    · rw [← hw7]; exact hg.os
    · rw [← hw7]; exact hg.tape
    · rw [← hw7]; exact hg.output

set_option maxRecDepth 100000 in
set_option maxHeartbeats 4000000 in
/-- remember, where 17 states are remembered: the oldest one is forgotten. -/
theorem remember17_any (T G : Nat → Prop) (p : Nat) (s : DS) (t : ByteArray) (w : World) (h : DocI T G w p s) (hl : s.ss.length = 17) (ht : t.size ≤ 4096) :
    Calls Try.prog 69 #[.pointer (some ⟨p, 0, none⟩), .string t] w fun e w' => (∃ rv, e = .returned rv) ∧ DocI (newT T w w') G w' p ⟨s.v, s.ss.drop 1 ++ [(t, [])], s.hs⟩ ∧ Only T w w' := by
  obtain ⟨i3, hi3, jy0, jy1, jy2⟩ := info_parts infoSt
  obtain ⟨g, cap, m, D, vs, h1, h2, h3, h4, h5, h6, h7⟩ := h.mem
  have hlen := h3.len
  have hn : vs.length = 17 := by omega
  obtain ⟨cur, hg, hcap, hmx, hcs, htk⟩ : ∃ cur : Array Value, w.heap[g]? = some (.cells cur 68 (0, 0)) ∧ 17 ≤ cap ∧ cap ≤ maxLen ∧ cur.size = cap * 2 ∧ cur.toList.take 34 = svals vs := by
    rcases h2.2 with ⟨hv, _⟩ | ⟨g', cp, cur, hv, _, k1, k2, k3, k4, k5⟩
    · simp at hv
    · simp only [Value.slice.injEq, Option.some.injEq, Addr.mk.injEq] at hv
      obtain ⟨⟨rfl, _⟩, _, rfl⟩ := hv
      rw [hn] at k2 k5
      exact ⟨cur, k1, k2, k3, k4, k5⟩
  have hgp : g ≠ p := by
    rintro rfl
    unfold Blk at h1
    rw [hg] at h1
    simp at h1
  have hmp : m ≠ p := by
    rintro rfl
    obtain ⟨es', clock, q1, _⟩ := h4
    unfold Blk at h1
    rw [q1] at h1
    simp at h1
  have hmg : m ≠ g := by
    rintro rfl
    obtain ⟨es', clock, q1, _⟩ := h4
    rw [q1] at hg
    simp at hg
  rw [hn] at h1 h2
  obtain ⟨vs', hvs'⟩ : ∃ l, vs.drop 1 = l := ⟨_, rfl⟩
  have hl16 : vs'.length = 16 := by rw [← hvs', List.length_drop]; omega
  have hsv : svals vs' = (svals vs).drop 2 := by
    rw [← hvs']
    cases vs with
    | nil => simp at hn
    | cons x l => rfl
  have hcl : (svals vs').length = 16 * 2 := by rw [svals_len, hl16]
  have hsrc : ∀ j v, (svals vs')[j]? = some v → w.cell? ((⟨g, 2, none⟩ : Addr).add j) = some v := by
    intro j v hj
    have hj2 : j < 32 := by have := (List.getElem?_eq_some_iff.1 hj).1; omega
    rw [addr_add', h2.cellAt (2 + j) (by omega), ← hj, hsv, List.getElem?_drop]
  have hone : ∀ v ∈ svals vs', v.oneCell' = true := by
    intro v hv
    rw [hsv] at hv
    have hv2 := List.mem_of_mem_drop hv
    obtain ⟨x, hx, hxv⟩ := List.mem_flatMap.1 hv2
    simp only [List.mem_cons, List.not_mem_nil, or_false] at hxv
    rcases hxv with rfl | rfl
    · rfl
    · obtain ⟨k, hk, rfl⟩ := List.mem_iff_getElem.1 hx
      obtain ⟨a, c, he, _⟩ := (h3.at_ k hk (by omega)).2
      rw [he]; rfl
  obtain ⟨X, hX⟩ : ∃ X, (cur.toList.take 0 ++ svals vs' ++ cur.toList.drop (0 + (svals vs').length)).toArray = X := ⟨_, rfl⟩
  have hcopy : ∀ V : World, V.heap[g]? = w.heap[g]? → (Builtin.copy_ #[69, 69] 3 #[.slice (some ⟨g, 0, none⟩) 17 cap, .slice (some ⟨g, 2, none⟩) 16 (cap - 1)]).run Try.prog V = .ok (.int .i64 16) (V.setRow g X) := fun V hV => by
    have hsrcV : ∀ j v, (svals vs')[j]? = some v → V.cell? ((⟨g, 2, none⟩ : Addr).add j) = some v := fun j v hj => by
      rw [← hsrc j v hj, addr_add']
      simp only [World.cell?, hV]
    have := run_copy_cells2 V 69 69 3 68 g 0 17 cap 2 16 ⟨g, 2, none⟩ 16 (cap - 1) cur 68 (svals vs') Try.underlying69 (by rw [hi3]; simp [jy1]) (hV.trans hg) rfl hcl hsrcV (by rw [hcl, hcs]; omega) hone
    rw [hX] at this
    exact this
  have c1 := h1.cell 1
  simp only [List.getElem?_toArray, List.getElem?_cons_zero, List.getElem?_cons_succ] at c1
  obtain ⟨W1, hW1⟩ : ∃ W, (w.drew).setRow g X = W := ⟨_, rfl⟩
  have hXs : X.size = cap * 2 := by
    rw [← hX]
    simp only [List.size_toArray, List.length_append, List.length_take, List.length_drop, hcl, Array.length_toList, hcs]
    omega
  have hgW : W1.heap[g]? = some (.cells X 68 (0, 0)) := by rw [← hW1]; exact setRow_heap _ g cur X _ _ hg
  have hoW : ∀ b, b ≠ g → W1.heap[b]? = w.heap[b]? := fun b hb => by rw [← hW1]; exact setRow_other _ g b X hb
  have hzW : W1.heap.size = w.heap.size := by rw [← hW1]; simp
  have row : W1.ownsRow 0 68 2 (.slice (some ⟨g, 0, none⟩) 16 cap) 16 (svals vs') := by
    refine ⟨hcl, .inr ⟨g, cap, X, rfl, Nat.zero_le _, hgW, by omega, hmx, hXs, ?_⟩⟩
    rw [← hX]
    simp only [List.take_zero, List.nil_append]
    rw [List.take_append_of_le_length (by rw [hcl]; omega), List.take_of_length_le (by rw [hcl]; omega)]
  have k1 : Blk W1 p 72 #[.int .i64 s.v, .slice (some ⟨g, 0, none⟩) 17 cap, .map (some m)] := h1.same (hoW p (fun e => hgp e.symm))
  have hGk : ∀ b, G b → b < w.heap.size → W1.heap[b]? = w.heap[b]? := fun b hb _ => hoW b (fun e => h.apart g h6 (e ▸ hb))
  have k3 : All2 (StOk G W1) vs' (s.ss.drop 1) := by
    rw [← hvs']
    exact (h3.drop 1).mono (fun x y hxy => ⟨hxy.1, hxy.2.keep (by omega) hGk (fun _ h => h)⟩)
  have hok : DsOk ⟨s.v, s.ss.drop 1 ++ [(t, [])], s.hs⟩ := by
    refine ⟨h.ok.v0, h.ok.v1, by simp, by simp only [List.length_append, List.length_drop, List.length_cons, List.length_nil]; omega, ?_, ?_, h.ok.hlen, h.ok.held, h.ok.hk⟩
    · intro x hx
      rcases List.mem_append.1 hx with hx | hx
      · exact h.ok.text x (List.mem_of_mem_drop hx)
      · simp only [List.mem_singleton] at hx; subst hx; exact ht
    · intro x hx
      rcases List.mem_append.1 hx with hx | hx
      · exact h.ok.eds x (List.mem_of_mem_drop hx)
      · simp only [List.mem_singleton] at hx; subst hx; exact ⟨Nat.zero_le _, fun e he => by simp at he⟩
  have HFIN := Lib.hid (rem_tail (w := W1) (X := .slice (some ⟨g, 0, none⟩) 17 cap) hok hl16 k1 k3 (ownsMap_same h4 (hoW m hmg)) (h5.keep (by omega) hGk (fun _ h => h)) h6 h7 h.tp (fun b hb => by have := h.lt b hb; omega) (fun b hb => by have := h.glt b hb; omega) h.apart hgp hmp hmg)
  have HKP : Hid (∀ w6, (W1.alloc (.cells #[.string t, .slice none 0 0] 68)).grownBy w6 (some g) → Blk w6 p 72 #[.int .i64 s.v, .slice (some ⟨g, 0, none⟩) 17 cap, .map (some m)]) := fun w6 hg6 =>
    k1.same ((hg6.block p (by have := k1.lt; simp; omega) (fun e => by cases e; exact hgp rfl)).trans (Below.heap_alloc W1 _ p k1.lt))
  have HO := Lib.hid row
  have e1 := k1.cell 1
  simp only [List.getElem?_toArray, List.getElem?_cons_zero, List.getElem?_cons_succ] at e1
  have HON : Hid (Only T w W1) := ⟨by rw [← hW1]; rfl, by rw [← hW1]; rfl, by rw [← hW1]; rfl, by omega, fun k _ hT => hoW k (fun e => hT (e ▸ h6))⟩
  have HLT : Hid (∀ b, T b → b < w.heap.size) := h.lt
  have HZW := Lib.hid hzW
  have hcp := hcopy w.drew rfl
  rw [hW1] at hcp
  have hcap2 : (1 : Int) ≤ 17 := by omega
  have hcap3 : (16 : Int) ≤ (cap : Int) := by omega
  have hcap4 : (17 : Int) ≤ (cap : Int) := by omega
  have hcap5 : cap ≤ 9223372036854775807 := by unfold maxLen at hmx; omega
  have HW1 := Lib.hid hW1
  clear h h1 h2 h3 h4 h5 h6 h7 hlen hn hg hcs htk hgp hmp hmg hvs' hl16 hsv hcl hsrc hone hX hcopy hXs hgW hoW hzW row k1 hGk k3 hok hmx hW1
  go_enter Try.func69, Try.ntmps69
  go_wp2_with fail
  go_region
  go_wp2_with (at_builtin; refine wpList_append_own_at _ rfl _ _ 69 rfl 0 68 i3 (.agg #[.string ⟨#[]⟩, .slice none 0 0]) 2 40 Try.underlying69 hi3 jy0 jy1 jy2 rfl (by decide) (.slice (some ⟨g, 0, none⟩) 16 cap) 16 (svals vs') rfl (HO.out.alloc _) ⟨_, 0, none⟩ 1 1 [.string t, .slice none 0 0] rfl rfl (cells_newb _ [.string t, .slice none 0 0] _ _ (by simp; try omega)) (fun x hx => by simp at hx; rcases hx with rfl | rfl <;> rfl) (by unfold maxLen; omega) (by omega) (Nat.zero_le _) ?_; intro v' w6 hown6 hgrow6 _ hat6; obtain ⟨ao, co, rfl⟩ := own_slice hown6; have hk6 := HKP.out w6 hgrow6; have c8 : w6.cell? ⟨p, 1, none⟩ = some (.slice (some ⟨g, 0, none⟩) 17 cap) := (by simpa using hk6.cell 1); have f8 := hk6.frozen 1)
  have hF := HFIN.out w6 (.slice ao (16 + 1) co) hown6 hgrow6 (by simpa [Value.ownBlock] using hat6)
  refine bodyPost_end (results_none rfl _ _ _) rfl ?_
  have hz := HZW.out
  refine ⟨⟨_, rfl⟩, hF.1.monoW (fun b hb => ?_) (fun b hb => ?_) (fun b hb hG => ?_), HON.out.trans hF.2⟩
  · rcases hb with hb | hb
    · exact .inl hb
    · exact .inr ⟨by omega, hb.2⟩
  · rcases hb with hb | hb
    · exact hF.1.lt b (.inl hb)
    · exact hb.2
  · rcases hb with hb | hb
    · exact hF.1.apart b (.inl hb) hG
    · exact hF.1.apart b (.inr ⟨by omega, hb.2⟩) hG

end Go.Proofs.Ytkehgoailhpenaa

/- The contract of remember, for every document: past sixteen states the oldest is forgotten. -/
namespace Go.Proofs.Ytkehgoailhpenaa
open Go.RowKit Go.Shelf Go.Maps
set_option linter.unusedVariables false

/-- The states after one more is remembered. -/
def remS (ss : List (ByteArray × List Er)) (t : ByteArray) : List (ByteArray × List Er) := (if 16 < ss.length then ss.drop 1 else ss) ++ [(t, [])]
theorem remS_len (ss : List (ByteArray × List Er)) (t : ByteArray) : (remS ss t).length = (if 16 < ss.length then ss.length else ss.length + 1) := by
  unfold remS; split <;> simp <;> omega
theorem remS_text (ss : List (ByteArray × List Er)) (t : ByteArray) : (remS ss t).getLast? = some (t, []) := by
  unfold remS; simp

theorem remember_all (T G : Nat → Prop) (p : Nat) (s : DS) (t : ByteArray) (w : World) (h : DocI T G w p s) (ht : t.size ≤ 4096) :
    Calls Try.prog 69 #[.pointer (some ⟨p, 0, none⟩), .string t] w fun e w' => (∃ rv, e = .returned rv) ∧ DocI (newT T w w') G w' p ⟨s.v, remS s.ss t, s.hs⟩ ∧ Only T w w' := by
  by_cases hl : s.ss.length ≤ 16
  · have := remember_any T G p s t w h hl ht
    unfold remS
    rw [if_neg (by omega)]
    exact this
  · have h17 := h.ok.len
    have := remember17_any T G p s t w h (by omega) ht
    unfold remS
    rw [if_pos (by omega)]
    exact this

end Go.Proofs.Ytkehgoailhpenaa

/- The contract of advance. It has no condition on how many states are remembered. -/
namespace Go.Proofs.Ytkehgoailhpenaa
open Go.RowKit Go.Shelf Go.Maps
set_option linter.unusedVariables false

/-- The error of making the next version, and the next state. -/
def advE (s : DS) (es : List Er) : Int := if vErr (s.text.size : Int) es = 0 then (if 4096 < (apS s.text es).size then 4 else 0) else vErr (s.text.size : Int) es
def midS (s : DS) (es : List Er) : DS := ⟨s.v + 1, s.ss.set (s.ss.length - 1) (s.text, es), s.hs⟩
def advS (s : DS) (es : List Er) : DS := ⟨s.v + 1, remS (s.ss.set (s.ss.length - 1) (s.text, es)) (apS s.text es), s.hs⟩
/-- The list's block joins the lists' blocks. -/
def addG (G : Nat → Prop) (n : Nat) (a : Option Addr) (b : Nat) : Prop := G b ∨ (n ≠ 0 ∧ blkOf a b)

theorem DocI.mid {T G : Nat → Prop} {w : World} {p : Nat} {s : DS} (h : DocI T G w p s) (hv : s.v + 1 ≤ 1099511627776) {a : Option Addr} {cap : Nat} {es : List Er} (hE : ES w.heap.size w a cap es) (hl : es.length ≤ 64) (hf : ∀ e ∈ es, e.Fit) (hT : ∀ b, blkOf a b → ¬ T b) :
    ∃ g cp n u, n + 1 = s.ss.length ∧ n + 1 ≤ cp ∧ T g ∧ g ≠ p ∧ w.cell? ⟨p, 0, none⟩ = some (.int .i64 s.v) ∧ w.cell? ⟨p, 1, none⟩ = some (.slice (some ⟨g, 0, none⟩) (n + 1) cp) ∧ w.cell? ⟨g, n * 2 + 1, none⟩ = some u ∧ w.frozen? ⟨g, n * 2 + 1, none⟩ = false ∧ w.frozen? ⟨p, 0, none⟩ = false ∧ g < w.heap.size ∧ p < w.heap.size ∧
      DocI T (addG G es.length a) ((w.setCell ⟨g, n * 2 + 1, none⟩ (.slice a es.length cap)).setCell ⟨p, 0, none⟩ (.int .i64 (s.v + 1))) p (midS s es) := by
  obtain ⟨g, cp, m, D, vs, h1, h2, h3, h4, h5, h6, h7⟩ := h.mem
  have hlen := h3.len
  have hpos : 0 < s.ss.length := List.length_pos_iff.2 h.ok.ne
  obtain ⟨n, hn⟩ : ∃ n, n + 1 = s.ss.length := ⟨s.ss.length - 1, by omega⟩
  have hvl : vs.length = n + 1 := by omega
  have hcap : n + 1 ≤ cp := by
    rcases h2.2 with ⟨hv, _⟩ | ⟨g', cp', cur, hv, _, _, k1, _⟩
    · simp at hv
    · simp only [Value.slice.injEq] at hv; omega
  have hgp : g ≠ p := by
    rintro rfl
    rcases h2.2 with ⟨hv, _⟩ | ⟨g', cp', cur, hv, _, hg, _⟩
    · simp at hv
    · simp only [Value.slice.injEq, Option.some.injEq, Addr.mk.injEq] at hv
      obtain ⟨⟨rfl, _⟩, _⟩ := hv
      unfold Blk at h1
      rw [hg] at h1
      simp at h1
  have hmp : m ≠ p := by
    rintro rfl
    obtain ⟨es', clock, k1, _⟩ := h4
    unfold Blk at h1
    rw [k1] at h1
    simp at h1
  have hmg : m ≠ g := by
    rintro rfl
    obtain ⟨es', clock, k1, _⟩ := h4
    rcases h2.2 with ⟨hv, _⟩ | ⟨g', cp', cur, hv, _, hg, _⟩
    · simp at hv
    · simp only [Value.slice.injEq, Option.some.injEq, Addr.mk.injEq] at hv
      obtain ⟨⟨rfl, _⟩, _⟩ := hv
      rw [k1] at hg
      simp at hg
  rw [hvl] at h1 h2
  have c0 := h1.cell 0
  have c1 := h1.cell 1
  simp only [List.getElem?_toArray, List.getElem?_cons_zero, List.getElem?_cons_succ] at c0 c1
  have d1 := h2.cellAt (n * 2 + 1) (by omega)
  rw [(svals_get vs n (by omega)).2] at d1
  have hglt := h.lt g h6
  obtain ⟨W1, hW1⟩ : ∃ W, w.setCell ⟨g, n * 2 + 1, none⟩ (.slice a es.length cap) = W := ⟨_, rfl⟩
  obtain ⟨W2, hW2⟩ : ∃ W, W1.setCell ⟨p, 0, none⟩ (.int .i64 (s.v + 1)) = W := ⟨_, rfl⟩
  have hz1 : W1.heap.size = w.heap.size := by rw [← hW1]; simp [World.setCell]
  have hz2 : W2.heap.size = w.heap.size := by rw [← hW2]; simp [World.setCell]; exact hz1
  have k1 : ∀ b, b ≠ g → W1.heap[b]? = w.heap[b]? := fun b hb => by rw [← hW1]; exact Below.heap_setCell _ _ _ b (fun e => hb (by simpa using e))
  have k2 : ∀ b, b ≠ p → W2.heap[b]? = W1.heap[b]? := fun b hb => by rw [← hW2]; exact Below.heap_setCell _ _ _ b (fun e => hb (by simpa using e))
  have k3 : ∀ b, b ≠ p → b ≠ g → W2.heap[b]? = w.heap[b]? := fun b hp hg => (k2 b hp).trans (k1 b hg)
  have hTp := h.tp
  have hGk : ∀ b, G b → b < w.heap.size → W2.heap[b]? = w.heap[b]? := fun b hb _ => k3 b (fun e => h.apart p hTp (e ▸ hb)) (fun e => h.apart g h6 (e ▸ hb))
  have bp : Blk W2 p 72 #[.int .i64 (s.v + 1), .slice (some ⟨g, 0, none⟩) (n + 1) cp, .map (some m)] := by
    have := (h1.same (k1 p (fun e => hgp e.symm))).set 0 (.int .i64 (s.v + 1))
    rw [hW2] at this
    simpa using this
  have ro : W2.ownsRow 0 68 2 (.slice (some ⟨g, 0, none⟩) (n + 1) cp) (n + 1) (svals (vs.set n ((vs[n]'(by omega)).1, .slice a es.length cap))) := by
    have := (h2.stored (n * 2 + 1) (.slice a es.length cap)).1
    rw [hW1, svals_set1 vs n (by omega)] at this
    exact own_same this (fun j hj => by cases hj; exact k2 g hgp)
  have htx : (vs[n]'(by omega)).1 = s.text := by
    have := (h3.at_ n (by omega) (by omega)).1
    rw [this]
    unfold DS.text
    rw [List.getLast?_eq_getElem?, show s.ss.length - 1 = n by omega, List.getElem?_eq_getElem (by omega)]
    rfl
  have htz : s.text.size ≤ 4096 := by
    have := h.ok.text (s.ss[n]'(by omega)) (List.getElem_mem _)
    have h9 := (h3.at_ n (by omega) (by omega)).1
    rw [← htx, h9]; exact this
  refine ⟨g, cp, n, (vs[n]'(by omega)).2, hn, hcap, h6, hgp, c0, c1, d1, h2.frozenAt (n * 2 + 1), h1.frozen 0, hglt, h1.lt, ?_⟩
  rw [hW1, hW2]
  have hsl : (s.ss.set (s.ss.length - 1) (s.text, es)).length = s.ss.length := List.length_set
  refine ⟨⟨by show 0 ≤ s.v + 1; have := h.ok.v0; omega, hv, fun e => ?_, by show (s.ss.set _ _).length ≤ 17; rw [hsl]; exact h.ok.len, ?_, ?_, h.ok.hlen, h.ok.held, h.ok.hk⟩, ⟨g, cp, m, D, vs.set n ((vs[n]'(by omega)).1, .slice a es.length cap), ?_, ?_, ?_, ownsMap_same h4 (k3 m hmp hmg), h5.keep (by omega) hGk (fun _ h => .inl h), h6, h7⟩, hTp, ?_, ?_, ?_⟩
  · have : (s.ss.set (s.ss.length - 1) (s.text, es)).length = 0 := by
      have e' : s.ss.set (s.ss.length - 1) (s.text, es) = [] := e
      rw [e']; rfl
    rw [hsl] at this; omega
  · intro x hx
    rcases List.mem_or_eq_of_mem_set hx with hx | rfl
    · exact h.ok.text x hx
    · exact htz
  · intro x hx
    rcases List.mem_or_eq_of_mem_set hx with hx | rfl
    · exact h.ok.eds x hx
    · exact ⟨hl, hf⟩
  · rw [show (vs.set n ((vs[n]'(by omega)).1, Value.slice a es.length cap)).length = n + 1 by rw [List.length_set]; exact hvl]; exact bp
  · rw [show (vs.set n ((vs[n]'(by omega)).1, Value.slice a es.length cap)).length = n + 1 by rw [List.length_set]; exact hvl]; exact ro
  · show All2 _ _ (s.ss.set (s.ss.length - 1) (s.text, es))
    rw [show s.ss.length - 1 = n by omega]
    refine (h3.mono (fun x y hxy => ⟨hxy.1, hxy.2.keep (G' := addG G es.length a) (by omega) hGk (fun _ h => .inl h)⟩)).set (b := (s.text, es)) ?_ n
    refine ⟨htx, ?_⟩
    exact (EsG.of (G := fun b => es.length ≠ 0 ∧ blkOf a b) hE (fun h1 b h2 => ⟨h1, h2⟩)).keep (by omega) (fun b hb _ => k3 b (fun e => hT b hb.2 (e ▸ hTp)) (fun e => hT b hb.2 (e ▸ h6))) (fun b hb => .inr hb)
  · intro b hb; have := h.lt b hb; omega
  · intro b hb
    rcases hb with hb | hb
    · have := h.glt b hb; omega
    · have := es_lt hE hb.1 hb.2; omega
  · intro b hb hG
    rcases hG with hG | hG
    · exact h.apart b hb hG
    · exact hT b hG.2 hb

theorem DocI.monoT {T T1 G : Nat → Prop} {w : World} {p : Nat} {s : DS} (h : DocI T G w p s) (hT : ∀ b, T b → T1 b) (hlt : ∀ b, T1 b → b < w.heap.size) (ha : ∀ b, T1 b → ¬ G b) : DocI T1 G w p s := by
  obtain ⟨g, cp, m, D, vs, h1, h2, h3, h4, h5, h6, h7⟩ := h.mem
  exact ⟨h.ok, ⟨g, cp, m, D, vs, h1, h2, h3, h4, h5, hT g h6, hT m h7⟩, hT p h.tp, hlt, h.glt, ha⟩
theorem vErr_len {n : Int} {es : List Er} (h : vErr n es = 0) : es.length ≤ 64 := by
  unfold vErr at h
  split at h <;> omega

set_option maxRecDepth 100000 in
set_option maxHeartbeats 4000000 in
theorem advance_any (T G : Nat → Prop) (p : Nat) (s : DS) (w : World) (h : DocI T G w p s) (hv : s.v + 1 ≤ 1099511627776) (a : Option Addr) (cap : Nat) (es : List Er) (hE : ES w.heap.size w a cap es) (hn : es.length ≤ 1000) (hf : ∀ e ∈ es, e.Fit) (hT : ∀ b, blkOf a b → ¬ T b) :
    Calls Try.prog 46 #[.pointer (some ⟨p, 0, none⟩), .slice a es.length cap] w fun e w' => e = .returned (.int .i64 (advE s es)) ∧
      ((advE s es ≠ 0 ∧ Below w.heap.size w w') ∨ (advE s es = 0 ∧ DocI (newT T w w') (addG G es.length a) w' p (advS s es) ∧ Only T w w')) := by
  have hl := h.ok.len
  have htx : s.text.size ≤ 4096 := by
    obtain ⟨x, hx, hxt⟩ : ∃ x ∈ s.ss, x.1 = s.text := by
      refine ⟨s.ss.getLast h.ok.ne, List.getLast_mem _, ?_⟩
      unfold DS.text
      rw [List.getLast?_eq_some_getLast h.ok.ne]; rfl
    rw [← hxt]; exact h.ok.text x hx
  have CT := text_any T G p s w h
  obtain ⟨t, ht⟩ : ∃ t, s.text = t := ⟨_, rfl⟩
  have CA := fun W (hW : Below w.heap.size w W) => papply_any t a cap es W (by rw [← ht]; omega) hn hf (hE.on hW)
  obtain ⟨n, hn'⟩ : ∃ n, es.length = n := ⟨_, rfl⟩
  simp only [hn'] at CA
  rw [ht] at CT htx
  obtain ⟨R, hR⟩ : ∃ R, advE s es = R := ⟨_, rfl⟩
  have hRE : R = if vErr (t.size : Int) es = 0 then (if 4096 < (apS t es).size then 4 else 0) else vErr (t.size : Int) es := by rw [← hR, ← ht]; rfl
  obtain ⟨u, hu⟩ : ∃ u, apS t es = u := ⟨_, rfl⟩
  rw [hR, hn']
  rw [hu] at hRE
  simp only [hu] at CA
  have HCT := Lib.hid CT
  by_cases hv1 : vErr (t.size : Int) es = 0
  · rw [if_pos hv1] at hRE
    simp only [hv1] at CA
    have HCA := Lib.hid CA
    by_cases hbig : 4096 < u.size
    · rw [if_pos hbig] at hRE; subst hRE
      have hb2 : (4096 : Int) < (u.size : Int) := by omega
      clear CT CA h hE hf hT hR hv1 ht hu hn'
      go_enter Try.func46, Try.ntmps46
      go_wp2_with fail
      refine HCT.out.mono ?_
      rintro e w1 ⟨rfl, b1⟩
      have B1 := Lib.hid b1
      clear b1
      go_wp2_with fail
      refine (HCA.out _ B1.out).mono ?_
      rintro e w2 ⟨rfl, b2⟩
      have B2 := Lib.hid (B1.out.trans (b2.mono B1.out.size))
      clear b2
      go_wp2_with fail
      go_ret
      exact ⟨rfl, .inl ⟨by decide, B2.out⟩⟩
    · rw [if_neg hbig] at hRE; subst hRE
      have hb2 : ¬ (4096 : Int) < (u.size : Int) := by omega
      have hl64 := vErr_len hv1
      have HM : Hid (∀ W, Below w.heap.size w W → _) := Lib.hid (fun W (hW : Below w.heap.size w W) => DocI.mid (h.below hW) hv (hE.on hW) hl64 hf hT)
      have HS : Hid (advS s es = ⟨(midS s es).v, remS (midS s es).ss u, (midS s es).hs⟩) := by show advS s es = _; rw [← hu, ← ht]; rfl
      have hml : (midS s es).ss.length ≤ 17 := by show (s.ss.set _ _).length ≤ 17; rw [List.length_set]; exact hl
      obtain ⟨v, hvv⟩ : ∃ v, s.v = v := ⟨_, rfl⟩
      have hv0 := h.ok.v0
      have hml2 := Lib.hid hml
      have HGL : Hid (∀ b, addG G n a b → b < w.heap.size) := fun b hb => by
        rcases hb with hb | hb
        · exact h.glt b hb
        · exact es_lt hE (by rw [hn']; exact hb.1) hb.2
      rw [hvv] at hv hv0
      simp only [hvv, hn'] at HM
      clear CT CA h hE hf hT hR hv1 ht hu hn' hl64 hml hvv
      go_enter Try.func46, Try.ntmps46
      go_wp2_with fail
      refine HCT.out.mono ?_
      rintro e w1 ⟨rfl, b1⟩
      have B1 := Lib.hid b1
      clear b1
      go_wp2_with fail
      refine (HCA.out _ B1.out).mono ?_
      rintro e w2 ⟨rfl, b2⟩
      have B2 := Lib.hid (B1.out.trans (b2.mono B1.out.size))
      clear b2
      obtain ⟨g, cp, j, uo, m1, m2, m3, m4, m5, m6, m7, m8, m9, m10, m11, m12⟩ := HM.out w2.drew B2.out.drew
      obtain ⟨N, hN⟩ : ∃ N, j + 1 = N := ⟨_, rfl⟩
      rw [hN] at m1 m2 m6
      have hml3 := hml2.out
      have hNl : N ≤ 17 := by have : (midS s es).ss.length = s.ss.length := by { show (s.ss.set _ _).length = _; rw [List.length_set] }; omega
      have hj1 : IntKind.i64.wrap ((N : Int) - 1) = (j : Int) := by simp [IntKind.wrap, IntKind.signed, IntKind.bits]; omega
      have hj2 : (j : Int) < (N : Int) := by omega
      have hvw : IntKind.i64.wrap (v + 1) = v + 1 := by simp [IntKind.wrap, IntKind.signed, IntKind.bits]; omega
      have c0 : w2.cell? ⟨p, 0, none⟩ = some (.int .i64 v) := m5
      have c1 : w2.cell? ⟨p, 1, none⟩ = some (.slice (some ⟨g, 0, none⟩) N cp) := m6
      obtain ⟨W1, hW1⟩ : ∃ W, (w2.setCell ⟨g, j * 2 + 1, none⟩ (.slice a n cap)).drew = W := ⟨_, rfl⟩
      have c2 : W1.cell? ⟨p, 0, none⟩ = some (.int .i64 v) := by
        rw [← c0, ← hW1]; show (w2.setCell _ _).cell? _ = _; simp only [World.cell?]; rw [Below.heap_setCell _ _ _ p (fun e => m4 (by simpa using e.symm))]
      have f2 : W1.frozen? ⟨p, 0, none⟩ = false := by
        rw [← m9, ← hW1]; show (w2.setCell _ _).frozen? _ = w2.frozen? _; simp only [World.frozen?]; rw [Below.heap_setCell _ _ _ p (fun e => m4 (by simpa using e.symm))]
      have hzW : (W1.setCell ⟨p, 0, none⟩ (.int .i64 (v + 1))).heap.size = w2.heap.size := by rw [← hW1]; simp [World.setCell]
      have HD : Hid (DocI T (addG G n a) (W1.setCell ⟨p, 0, none⟩ (.int .i64 (v + 1))) p (midS s es)) := by rw [← hW1]; exact m12
      have HON : Hid (Only T w (W1.setCell ⟨p, 0, none⟩ (.int .i64 (v + 1)))) := by
        rw [← hW1]
        exact (((Only.of_below B2.out).drew).setCell (p := ⟨g, j * 2 + 1, none⟩) (.inr m3) _).setCell (p := ⟨p, 0, none⟩) (.inr m12.tp) _
      have HW1 := Lib.hid hW1
      have HB2 := B2
      clear m1 m3 m5 m6 m10 m11 m12 hW1 HM
      go_wp2_with fail
      go_region
      rw [HW1.out]
      go_wp2_with fail
      refine (remember_all T (addG G n a) p (midS s es) u _ HD.out (by omega)).mono ?_
      rintro e w5 ⟨⟨rv, rfl⟩, hd5, ho5⟩
      have HD5 := Lib.hid hd5; have HO5 := Lib.hid ho5
      clear hd5 ho5
      go_wp2_with fail
      go_ret
      refine ⟨rfl, .inr ⟨trivial, ?_, HON.out.trans HO5.out⟩⟩
      rw [HS.out]
      have hzz : w.heap.size ≤ w2.heap.size := B2.out.size
      have hz5 := HO5.out.size
      have d := HD5.out
      refine d.monoT (fun b hb => ?_) (fun b hb => ?_) (fun b hb hG => ?_)
      · rcases hb with hb | hb
        · exact .inl hb
        · exact .inr ⟨by omega, hb.2⟩
      · rcases hb with hb | hb
        · exact d.lt b (.inl hb)
        · exact hb.2
      · rcases hb with hb | hb
        · exact d.apart b (.inl hb) hG
        · have := HGL.out b hG; omega
  · rw [if_neg hv1] at hRE; subst hRE
    generalize vErr (t.size : Int) es = er at CA hv1 ⊢
    have HCA := Lib.hid CA
    have hq : (er != 0) = true := by simp [hv1]
    have HV := Lib.hid hv1
    clear CT CA h hE hf hT hR hv1 ht hu hn'
    go_enter Try.func46, Try.ntmps46
    go_wp2_with fail
    refine HCT.out.mono ?_
    rintro e w1 ⟨rfl, b1⟩
    have B1 := Lib.hid b1
    clear b1
    go_wp2_with fail
    refine (HCA.out _ B1.out).mono ?_
    rintro e w2 ⟨rfl, b2⟩
    have B2 := Lib.hid (B1.out.trans (b2.mono B1.out.size))
    clear b2
    go_wp2_with fail
    go_ret
    exact ⟨rfl, .inl ⟨HV.out, B2.out⟩⟩

end Go.Proofs.Ytkehgoailhpenaa

/- The contract of apply. It has no condition on how many states are remembered. -/
namespace Go.Proofs.Ytkehgoailhpenaa
open Go.RowKit Go.Shelf Go.Maps
set_option linter.unusedVariables false

/-- The error of applying a change, and the next state. -/
noncomputable def aplE (s : DS) (ps : List PE) : Int := if pE s.text ps = 0 then advE s (pL s.text ps) else pE s.text ps
noncomputable def aplS (s : DS) (ps : List PE) : DS := advS s (pL s.text ps)
theorem DocI.tsize {T G : Nat → Prop} {w : World} {p : Nat} {s : DS} (h : DocI T G w p s) : s.text.size ≤ 4096 := by
  obtain ⟨x, hx, hxt⟩ : ∃ x ∈ s.ss, x.1 = s.text := by
    refine ⟨s.ss.getLast h.ok.ne, List.getLast_mem _, ?_⟩
    unfold DS.text
    rw [List.getLast?_eq_some_getLast h.ok.ne]; rfl
  rw [← hxt]; exact h.ok.text x hx

set_option maxRecDepth 100000 in
set_option maxHeartbeats 4000000 in
theorem apply_any (T G : Nat → Prop) (p : Nat) (s : DS) (w : World) (h : DocI T G w p s) (hv : s.v + 1 ≤ 1099511627776) (a : Option Addr) (cap : Nat) (ps : List PE) (hP : PS w.heap.size w a cap ps) (hn : ps.length ≤ 64) (hf : ∀ q ∈ ps, q.fit ∧ q.t.size ≤ 100000) :
    Calls Try.prog 38 #[.pointer (some ⟨p, 0, none⟩), .slice a ps.length cap] w fun e w' => e = .returned (.int .i64 (aplE s ps)) ∧
      ((aplE s ps ≠ 0 ∧ Below w.heap.size w w') ∨ (aplE s ps = 0 ∧ ∃ T' G', DocI T' G' w' p (aplS s ps) ∧ Stp T G T' G' w w')) := by
  have htx := h.tsize
  have CT := text_any T G p s w h
  obtain ⟨t, ht⟩ : ∃ t, s.text = t := ⟨_, rfl⟩
  rw [ht] at htx CT
  have CB := fun W (hW : Below w.heap.size w W) => dbytes_any t a cap ps W (by omega) (by omega) (fun q hq => (hf q hq).1) (hP.on hW)
  have hfit := pL_fit (s := t) (ps := ps) (by omega) (fun q hq => (hf q hq).2)
  have hll := (pL_len t ps).2
  obtain ⟨E, hE⟩ : ∃ e, pE t ps = e := ⟨_, rfl⟩
  obtain ⟨L, hL⟩ : ∃ l, pL t ps = l := ⟨_, rfl⟩
  obtain ⟨n, hn'⟩ : ∃ n, ps.length = n := ⟨_, rfl⟩
  have hA : aplE s ps = if E = 0 then advE s L else E := by unfold aplE; rw [ht, hE, hL]
  have hS : aplS s ps = advS s L := by unfold aplS; rw [ht, hL]
  simp only [hE, hL, hn'] at CB
  rw [hL] at hfit hll
  rw [hA, hS, hn']
  have HCT := Lib.hid CT; have HCB := Lib.hid CB
  by_cases h0 : E = 0
  · subst h0
    have HAD := Lib.hid (fun W (hW : Below w.heap.size w W) a' c' (hEs : ES W.heap.size W a' c' L) (hT : ∀ b, blkOf a' b → ¬ T b) => advance_any T G p s W (h.below hW) hv a' c' L hEs (by omega) hfit hT)
    have HTL : Hid (∀ b, T b → b < w.heap.size) := h.lt
    rw [if_pos rfl]
    obtain ⟨R, hR⟩ : ∃ r, advE s L = r := ⟨_, rfl⟩
    obtain ⟨S', hS'⟩ : ∃ r, advS s L = r := ⟨_, rfl⟩
    rw [hR, hS'] at HAD
    rw [hR, hS']
    obtain ⟨k, hk⟩ : ∃ n, L.length = n := ⟨_, rfl⟩
    have HK := Lib.hid hk
    clear CT CB h hP hf hfit hA hS hE hL hn' ht hv hk hR hS'
    go_enter Try.func38, Try.ntmps38
    go_wp2_with fail
    refine HCT.out.mono ?_
    rintro e w1 ⟨rfl, b1⟩
    have B1 := Lib.hid b1
    clear b1
    go_wp2_with fail
    refine (HCB.out _ B1.out).mono ?_
    rintro e w2 ⟨a2, c2, rfl, hE2, hfr, b2⟩
    have B2 := Lib.hid (B1.out.trans (b2.mono B1.out.size))
    have hz1 := B1.out.size
    have HFR : Hid (∀ b, blkOf a2 b → w.heap.size ≤ b) := fun b hb => by have := hfr b hb; omega
    have HE2 := Lib.hid hE2
    clear b2 hfr hE2
    have HC := Lib.hid (HAD.out w2 B2.out a2 c2 HE2.out (fun b hb hT => by have := HTL.out b hT; have := HFR.out b hb; omega))
    go_wp2_with fail
    refine HC.out.mono ?_
    rintro e w3 ⟨rfl, hw⟩
    have HW := Lib.hid hw
    clear hw
    go_wp2_with fail
    go_ret
    refine ⟨rfl, ?_⟩
    rcases HW.out with ⟨q1, q2⟩ | ⟨q1, q2, q3⟩
    · exact .inl ⟨q1, B2.out.trans (q2.mono B2.out.size)⟩
    · have hz2 := B2.out.size
      refine .inr ⟨q1, _, _, q2, (Only.of_below B2.out).trans q3, fun b hb => ?_, fun b hb => ?_⟩
      · rcases hb with hb | hb
        · exact .inl hb
        · exact .inr (by omega)
      · rcases hb with hb | hb
        · exact .inl hb
        · exact .inr (HFR.out b hb.2)
  · rw [if_neg h0]
    have hq : (E != 0) = true := by simp [h0]
    have H0 := Lib.hid h0
    obtain ⟨k, hk⟩ : ∃ n, L.length = n := ⟨_, rfl⟩
    rw [hk] at hll
    clear CT CB h hP hf hfit hA hS hE hL hn' ht hv
    go_enter Try.func38, Try.ntmps38
    go_wp2_with fail
    refine HCT.out.mono ?_
    rintro e w1 ⟨rfl, b1⟩
    have B1 := Lib.hid b1
    clear b1
    go_wp2_with fail
    refine (HCB.out _ B1.out).mono ?_
    rintro e w2 ⟨a2, c2, rfl, hE2, hfr, b2⟩
    have B2 := Lib.hid (B1.out.trans (b2.mono B1.out.size))
    clear b2 hfr hE2
    go_wp2_with fail
    go_ret
    exact ⟨rfl, .inl ⟨H0.out, B2.out⟩⟩

end Go.Proofs.Ytkehgoailhpenaa

/- The contract of applyHeld. It has no condition on how many states are remembered. -/
namespace Go.Proofs.Ytkehgoailhpenaa
open Go.RowKit Go.Shelf Go.Maps
set_option linter.unusedVariables false

/-- The edits of a held change. -/
def lookH (hs : List (Int × List PE)) (k : Int) : List PE := ((hs.find? (fun x => decide (x.1 = k))).map Prod.snd).getD []
theorem lookH_mem {hs : List (Int × List PE)} {k : Int} (h : k ∈ hs.map Prod.fst) : (k, lookH hs k) ∈ hs := by
  obtain ⟨x, hx, rfl⟩ := List.mem_map.1 h
  have hsome : (hs.find? (fun y => decide (y.1 = x.1))).isSome := by
    rw [List.find?_isSome]
    exact ⟨x, hx, by simp⟩
  obtain ⟨y, hy⟩ := Option.isSome_iff_exists.1 hsome
  have h1 := List.find?_some hy
  have h2 := List.mem_of_find?_eq_some hy
  unfold lookH
  rw [hy]
  simp only [decide_eq_true_eq] at h1
  simp only [Option.map_some, Option.getD_some]
  rw [← h1]; exact h2
def dropH (s : DS) : DS := ⟨s.v, s.ss, delH s.hs (s.v + 1)⟩
/-- How many held changes are applied, and the state behind them. -/
noncomputable def hldF : Nat → DS → Nat × DS
  | 0, s => (0, s)
  | f + 1, s => if (s.v + 1) ∈ s.hs.map Prod.fst then (if aplE (dropH s) (lookH s.hs (s.v + 1)) = 0 then ((hldF f (aplS (dropH s) (lookH s.hs (s.v + 1)))).1 + 1, (hldF f (aplS (dropH s) (lookH s.hs (s.v + 1)))).2) else (0, dropH s)) else (0, s)
theorem aplS_hs (s : DS) (ps : List PE) : (aplS s ps).hs = s.hs := rfl
theorem aplS_v (s : DS) (ps : List PE) : (aplS s ps).v = s.v + 1 := rfl
theorem aplS_text (s : DS) (ps : List PE) : (aplS s ps).text = apS s.text (pL s.text ps) := by
  show (((remS (s.ss.set (s.ss.length - 1) (s.text, pL s.text ps)) (apS s.text (pL s.text ps))).getLast?).getD (⟨#[]⟩, [])).1 = _
  rw [remS_text]; rfl

/-- A document's map, for a look-up, a store and a deletion. -/
theorem DocI.noKey {T G : Nat → Prop} {w : World} {p : Nat} {s : DS} (h : DocI T G w p s) : True := trivial
theorem DocI.drop {T G : Nat → Prop} {w w' : World} {p m n : Nat} {s : DS} {D : DataW Value} (h : DocI T G w p s) (hc : w.cell? ⟨p, 2, none⟩ = some (.map (some m))) (hD : w.ownsMap Try.prog 3 RH m n D) (hk : (s.v + 1) ∈ s.hs.map Prod.fst) (hown : w'.ownsMap Try.prog 3 RH m n (D.del (kI (s.v + 1)))) (ht : w.mapTurned w' m) : DocI T G w' p (dropH s) ∧ Only T w w' := by
  obtain ⟨g, cp, m', D', vs, h1, h2, h3, h4, h5, h6, h7⟩ := h.mem
  have c2 := h1.cell 2
  simp only [List.getElem?_toArray, List.getElem?_cons_zero, List.getElem?_cons_succ] at c2
  rw [hc] at c2
  simp only [Option.some.injEq, Value.map.injEq] at c2
  subst c2
  have hDD : D = D' := by
    obtain ⟨es, cl, k1, _, _, k4⟩ := hD
    obtain ⟨es', cl', k1', _, _, k4'⟩ := h4
    rw [k1] at k1'
    simp only [Option.some.injEq, Obj.map.injEq] at k1'
    rw [k4, k4', k1'.1]
  subst hDD
  have hg := ht.grown
  have hTd := hD.tidy keyInt
  have hmp : m ≠ p := by
    rintro rfl
    obtain ⟨es', clock, k1, _⟩ := h4
    unfold Blk at h1
    rw [k1] at h1
    simp at h1
  have hmg : m ≠ g := by
    rintro rfl
    obtain ⟨es', clock, k1, _⟩ := h4
    rcases h2.2 with ⟨hv, _⟩ | ⟨g', cp', cur, hv, _, hg, _⟩
    · simp at hv
    · simp only [Value.slice.injEq, Option.some.injEq, Addr.mk.injEq] at hv
      obtain ⟨⟨rfl, _⟩, _⟩ := hv
      rw [k1] at hg
      simp at hg
  have hold : ∀ b, b < w.heap.size → b ≠ m → w'.heap[b]? = w.heap[b]? := fun b hb hm => hg.block b hb (fun e => by cases e; exact hm rfl)
  have hTm := h7
  have hGk : ∀ b, G b → b < w.heap.size → w'.heap[b]? = w.heap[b]? := fun b hb hlt => hold b hlt (fun e => h.apart m hTm (e ▸ hb))
  have hz := hg.size
  refine ⟨⟨⟨h.ok.v0, h.ok.v1, h.ok.ne, h.ok.len, h.ok.text, h.ok.eds, ?_, ?_, ?_⟩, ⟨g, cp, m, _, vs, h1.same (hold p h1.lt (fun e => hmp e.symm)), own_same h2 (fun j hj => by cases hj; exact hold g (h.lt g h6) (fun e => hmg e.symm)), ?_, ownsMap_tight hown, ?_, h6, h7⟩, h.tp, fun b hb => by have := h.lt b hb; omega, fun b hb => by have := h.glt b hb; omega, h.apart⟩, ⟨hg.os, hg.tape, hg.output, hz, fun k hk hT => hold k hk (fun e => hT (e ▸ hTm))⟩⟩
  · have := List.length_filter_le (fun x : Int × List PE => decide (x.1 ≠ s.v + 1)) s.hs
    have h9 := h.ok.hlen
    show (delH s.hs (s.v + 1)).length ≤ 16
    unfold delH; omega
  · intro x hx; exact h.ok.held x (List.mem_filter.1 hx).1
  · intro x hx; exact h.ok.hk x (List.mem_filter.1 hx).1
  · exact h3.mono (fun x y hxy => ⟨hxy.1, hxy.2.keep hz hGk (fun _ h => h)⟩)
  · exact (h5.keep hz hGk (fun _ h => h)).del hTd hk

theorem Stp.of_only {T G : Nat → Prop} {w w' : World} (h : Only T w w') : Stp T G T G w w' := ⟨h, fun _ h => .inl h, fun _ h => .inl h⟩
/-- The loop's state: what is still to come. -/
def HlI (H : Nat) (s : DS) (k f : Nat) (s' : DS) : Prop := hldF H s = (k + (hldF f s').1, (hldF f s').2) ∧ s'.hs.length ≤ f

set_option maxRecDepth 100000 in
set_option maxHeartbeats 4000000 in
theorem applyHeld_any (T G : Nat → Prop) (p : Nat) (s : DS) (w : World) (h : DocI T G w p s) :
    Calls Try.prog 39 #[.pointer (some ⟨p, 0, none⟩)] w fun e w' => e = .returned (.int .i64 ((hldF s.hs.length s).1 : Int)) ∧ ∃ T' G', DocI T' G' w' p (hldF s.hs.length s).2 ∧ Stp T G T' G' w w' := by
  obtain ⟨H, hH⟩ : ∃ n, s.hs.length = n := ⟨_, rfl⟩
  have hH16 := h.ok.hlen
  rw [hH] at hH16 ⊢
  obtain ⟨R, hR⟩ : ∃ r, hldF H s = r := ⟨_, rfl⟩
  have HI0 : Hid (HlI H s 0 H s) := ⟨by rw [Nat.zero_add], by omega⟩
  have HD0 := Lib.hid h
  have HS0 : Hid (Stp T G T G w w) := Stp.refl _ _ _
  have HRR := Lib.hid hR
  rw [hR]
  clear h hR
  go_enter Try.func39, Try.ntmps39
  go_wp2_with fail
  go_loopw [3] (fun u wr => ∃ (k f : Nat) (s' : DS) (T' G' : Nat → Prop), u = .int .i64 (k : Int) ∧ k + s'.hs.length ≤ H ∧ Hid (HlI H s k f s') ∧ Hid (DocI T' G' wr p s') ∧ Hid (Stp T G T' G' w wr)) (fun u _ => H - (intOf u).toNat)
  case atStart => exact ⟨0, H, s, T, G, rfl, by omega, HI0, HD0, HS0⟩
  case round =>
    obtain ⟨k, f, s', T', G', rfl, hk, HI, HD, HS⟩ := hrel
    have hd := HD.out
    have hv0 := hd.ok.v0
    have hv1 := hd.ok.v1
    obtain ⟨g, cp, m, n', D, _, _, c0, _, c2, hm, hh, hTm, hpW⟩ := hd.full
    obtain ⟨vv, hat, hlk⟩ := look_held hm (k := s'.v + 1) (by omega) (by omega)
    have hlook := hlk wr rfl
    rw [hh.keys] at hlook
    obtain ⟨x, hx⟩ : ∃ x, s'.v = x := ⟨_, rfl⟩
    have hxw : IntKind.i64.wrap (x + 1) = x + 1 := by simp [IntKind.wrap, IntKind.signed, IntKind.bits]; omega
    by_cases hin : (s'.v + 1) ∈ s'.hs.map Prod.fst
    · rw [decide_eq_true hin] at hlook
      have hmem := lookH_mem hin
      obtain ⟨v2, hat2, hps⟩ := hh.elem _ hmem
      have hvv : v2 = vv := by
        have := hat2.symm.trans hat
        simpa using this
      subst hvv
      have hkb := hd.ok.hk _ hmem
      have hhe := hd.ok.held _ hmem
      simp only at hkb hhe hps
      obtain ⟨la, lc, rfl, _⟩ := hps.ps
      have hpos : 0 < s'.hs.length := List.length_pos_iff.2 (fun e => by rw [e] at hin; simp at hin)
      have hdl := delH_len hh.nodup hin
      obtain ⟨L, hL⟩ : ∃ l, lookH s'.hs (s'.v + 1) = l := ⟨_, rfl⟩
      have HDR : Hid (∀ w1, w1.ownsMap Try.prog 3 RH m (Maps.size D) (D.del (kI (s'.v + 1))) → wr.mapTurned w1 m → DocI T' G' w1 p (dropH s') ∧ Only T' wr w1 ∧ ∃ la' lc', Value.slice la (lookH s'.hs (s'.v + 1)).length lc = .slice la' (lookH s'.hs (s'.v + 1)).length lc' ∧ PS w1.heap.size w1 la' lc' (lookH s'.hs (s'.v + 1))) := fun w1 ho ht => by
        obtain ⟨d1, d2⟩ := hd.drop c2 hm hin ho ht
        have hgr := ht.grown
        have := hps.keep (G' := G') hgr.size (fun b hb hlt => hgr.block b hlt (fun e => by cases e; exact hd.apart m hTm hb)) (fun _ h => h)
        obtain ⟨la', lc', e1, e2⟩ := this.ps
        exact ⟨d1, d2, la', lc', e1, e2⟩
      have hkey : keyOf Try.prog 3 (.int .i64 (s'.v + 1)) = some (kI (s'.v + 1)) := keyOfI (by omega) (by omega)
      have HC : Hid (∀ w1 la' lc', DocI T' G' w1 p (dropH s') → PS w1.heap.size w1 la' lc' (lookH s'.hs (s'.v + 1)) → _) := Lib.hid (fun w1 la' lc' hdd hpp => apply_any T' G' p (dropH s') w1 hdd (by show s'.v + 1 ≤ _; omega) la' lc' (lookH s'.hs (s'.v + 1)) hpp hhe.1 hhe.2)
      rw [hL] at HC HDR
      obtain ⟨E, hE⟩ : ∃ e, aplE (dropH s') L = e := ⟨_, rfl⟩
      obtain ⟨S2, hS2⟩ : ∃ e, aplS (dropH s') L = e := ⟨_, rfl⟩
      have hs2h : S2.hs.length + 1 = s'.hs.length := by rw [← hS2, aplS_hs]; exact hdl
      have hstep : ∀ q, s'.hs.length ≤ q → hldF q s' = if E = 0 then ((hldF (q - 1) S2).1 + 1, (hldF (q - 1) S2).2) else (0, dropH s') := fun q hq => by
        obtain ⟨q', rfl⟩ : ∃ q', q = q' + 1 := ⟨q - 1, by omega⟩
        simp only [hldF]
        rw [if_pos hin, hL, hE, hS2]; rfl
      simp only [hE, hS2] at HC
      obtain ⟨ln, hln⟩ : ∃ n, L.length = n := ⟨_, rfl⟩
      rw [hL, hln] at hlook
      simp only [hln] at HC HDR
      have HST := Lib.hid hstep
      rw [hx] at c0 hlook hkey
      rw [hx] at HDR
      have HM := Lib.hid hm; have HKEY := Lib.hid hkey
      have hs2k : k + 1 + S2.hs.length ≤ H := by omega
      have hs2f := HI.out.2
      have hs2g : S2.hs.length ≤ f - 1 := by omega
      clear hd hh hm hlk hat hat2 hmem hps hin hkey hkb hhe hpos hdl hL hE hS2 hln hstep hx hTm hpW hs2h
      go_wp2_with (at_delete; refine wpList_delete_own _ rfl _ _ 70 3 rfl 32 keyInt Try.underlying70 RH m (Maps.size D) D rfl HM.out _ (kI (x + 1)) rfl HKEY.out ?_; intro w1 hown1 hturn1)
      obtain ⟨d1, o1, la', lc', e1, p1⟩ := HDR.out w1 hown1 hturn1
      simp only [Value.slice.injEq, true_and] at e1
      obtain ⟨rfl, rfl⟩ := e1
      have hc := HC.out w1 la lc d1 p1
      have HO1 := Lib.hid o1; have HD1 := Lib.hid d1
      clear hown1 hturn1 p1 d1 o1 HC HDR
      refine hc.mono ?_
      rintro e w3 ⟨rfl, hw⟩
      have HW := Lib.hid hw
      clear hw hc
      by_cases hE0 : E = 0
      · subst hE0
        have HX : Hid (∃ T2 G2, DocI T2 G2 w3 p S2 ∧ Stp T G T2 G2 w w3) := by
          rcases HW.out with ⟨q1, _⟩ | ⟨_, T2, G2, q2, q3⟩
          · exact absurd rfl q1
          · exact ⟨T2, G2, q2, (HS.out.trans (Stp.of_only HO1.out) trivial).trans q3 trivial⟩
        have HI2 : Hid (HlI H s (k + 1) (f - 1) S2) := by
          have h1 := HI.out.1
          rw [HST.out f hs2f, if_pos rfl] at h1
          exact ⟨by rw [h1]; simp only [Prod.mk.injEq, and_true]; omega, by omega⟩
        obtain ⟨T2, G2, hdd, hss⟩ := HX.out
        have HDD := Lib.hid hdd; have HSS := Lib.hid hss
        clear hdd hss
        go_wp2
        go_roundw
        case rel => exact ⟨k + 1, f - 1, S2, T2, G2, by go_num, hs2k, HI2, HDD, HSS⟩
        case measure => simp [intOf]; omega
      · have hq : (E != 0) = true := by simp [hE0]
        have hfin : R = (k, dropH s') := by
          have h1 := HI.out.1
          rw [HRR.out, HST.out f hs2f, if_neg hE0] at h1
          rw [h1]; rfl
        have HX : Hid (DocI T' G' w3 p (dropH s') ∧ Stp T G T' G' w w3) := by
          rcases HW.out with ⟨_, q2⟩ | ⟨q1, _⟩
          · exact ⟨HD1.out.below q2, (HS.out.trans (Stp.of_only HO1.out) trivial).trans (Stp.of_below q2) trivial⟩
          · exact absurd q1 hE0
        have HF := Lib.hid hfin
        clear hfin
        go_wp2_with fail
        go_ret
        rw [HF.out]
        exact ⟨rfl, T', G', HX.out.1, HX.out.2⟩
    · rw [decide_eq_false hin] at hlook
      have hfin : R = (k, s') := by
        have h1 := HI.out.1
        rw [HRR.out] at h1
        have h2 : hldF f s' = (0, s') := by
          cases f with
          | zero => rfl
          | succ f => simp only [hldF]; rw [if_neg hin]
        rw [h1, h2]; rfl
      rw [hx] at c0 hlook
      have HF := Lib.hid hfin
      clear hfin hd hm hh hlk hat hx
      go_wp2_with fail
      go_ret
      rw [HF.out]
      exact ⟨rfl, T', G', HD.out, HS.out⟩

end Go.Proofs.Ytkehgoailhpenaa
