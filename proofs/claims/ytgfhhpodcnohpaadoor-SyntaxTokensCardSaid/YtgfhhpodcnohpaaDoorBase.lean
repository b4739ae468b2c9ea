/- Bytes, slices of integers that lie in memory, and rows of a call's own. It has no conditions. -/
import Derived.Test.YtgfhhpodcnohpaaDoorProg
import Derived.Shelf.Abstract
import Derived.RangeFuncBox
import Derived.WalkKit
import Derived.WalkSpells
import Derived.WalkLawsBesides
import Derived.BigQuiet
import Derived.Deep.QuietTactic
import Derived.Lib.Hide
import Derived.Maps.AppendAt
import Derived.Laws.AppendOwnNone
import Derived.Below
namespace Go.Proofs.YtgfhhpodcnohpaaDoor
open Go.RowKit Go.Shelf

def Byt (l : List Int) : Prop := ∀ c ∈ l, 0 ≤ c ∧ c ≤ 255
theorem Byt.cons {c : Int} {l : List Int} (h : Byt (c :: l)) : 0 ≤ c ∧ c ≤ 255 ∧ Byt l :=
  ⟨(h c (by simp)).1, (h c (by simp)).2, fun x hx => h x (by simp [hx])⟩
theorem Byt.take {l : List Int} (h : Byt l) (n : Nat) : Byt (l.take n) := fun c hc => h c (List.mem_of_mem_take hc)
theorem Byt.drop {l : List Int} (h : Byt l) (n : Nat) : Byt (l.drop n) := fun c hc => h c (List.mem_of_mem_drop hc)
theorem wrap_u64 (n : Int) : IntKind.u64.wrap n = n % 18446744073709551616 := by
  simp [IntKind.wrap, IntKind.signed, IntKind.bits]

/-- The bytes of a string, as numbers. -/
def sb (s : ByteArray) : List Int := s.data.toList.map (fun c => (c.toNat : Int))
theorem sb_len (s : ByteArray) : (sb s).length = s.size := by simp [sb]
theorem sb_byt (s : ByteArray) : Byt (sb s) := by
  intro c hc
  simp only [sb, List.mem_map] at hc
  obtain ⟨u, _, rfl⟩ := hc
  have := u.toNat_lt
  omega
/-- The elements of a slice of integers lie in memory, below block B. -/
def CellsAt (k : IntKind) (B : Nat) (w : World) (a : Option Addr) (zs : List Int) : Prop :=
  zs = [] ∨ ∃ b off, a = some ⟨b, off, none⟩ ∧ b < B ∧ ∀ j, j < zs.length → w.cell? ⟨b, off + j, none⟩ = some (.int k (zs[j]?.getD 0))
abbrev Cells (k : IntKind) (w : World) (a : Option Addr) (zs : List Int) : Prop := CellsAt k w.heap.size w a zs
theorem CellsAt.keep {k : IntKind} {B : Nat} {w w' : World} {a : Option Addr} {zs : List Int} (h : CellsAt k B w a zs) (hb : ∀ b, b < B → w'.heap[b]? = w.heap[b]?) : CellsAt k B w' a zs := by
  rcases h with h | ⟨b, off, ha, hlt, hc⟩
  · exact .inl h
  · exact .inr ⟨b, off, ha, hlt, fun j hj => (World.cell?_of_block (w := w) (a := ⟨b, off + j, none⟩) (hb b hlt)).trans (hc j hj)⟩
theorem CellsAt.below {k : IntKind} {B : Nat} {w w' : World} {a : Option Addr} {zs : List Int} (h : CellsAt k B w a zs) (hb : Below B w w') : CellsAt k B w' a zs := h.keep hb.block
theorem CellsAt.mono {k : IntKind} {B B' : Nat} {w : World} {a : Option Addr} {zs : List Int} (h : CellsAt k B w a zs) (hb : B ≤ B') : CellsAt k B' w a zs := by
  rcases h with h | ⟨b, off, ha, hlt, hc⟩
  · exact .inl h
  · exact .inr ⟨b, off, ha, by omega, hc⟩
theorem Cells.below {k : IntKind} {w w' : World} {a : Option Addr} {zs : List Int} (h : Cells k w a zs) (hb : Below w.heap.size w w') : Cells k w' a zs := (CellsAt.below h hb).mono hb.size
theorem bytesRow_cell (s : ByteArray) (cap : Nat) (W : World) (t : TypeId) (f : Nat × Nat) (b : Nat) (h : W.heap[b]? = some (.cells (bytesRow s cap) t f)) (j : Nat) (hj : j < s.size) :
    W.cell? ⟨b, 0 + j, none⟩ = some (.int .u8 ((sb s)[j]?.getD 0)) := by
  have e : (bytesRow s cap)[j]? = some (.int .u8 ((sb s)[j]?.getD 0)) := by
    have h2 : j < s.data.size := hj
    unfold bytesRow sb
    rw [Array.getElem?_append_left (by simpa using h2)]
    simp [Array.getElem?_eq_getElem h2]
  simp [World.cell?, h, e]

theorem own_same {A C : World} {base e size n : Nat} {v : Value} {xs : List Value} (h : A.ownsRow base e size v n xs) (hb : ∀ g, v.ownBlock = some g → C.heap[g]? = A.heap[g]?) : C.ownsRow base e size v n xs := by
  refine ⟨h.1, ?_⟩
  rcases h.2 with hn | ⟨g, cap, cur, rfl, h1, h2, r⟩
  · exact .inl hn
  · exact .inr ⟨g, cap, cur, rfl, h1, (hb g rfl).trans h2, r⟩
theorem info3 : (Tryd.prog.info? 3).map (fun i => (i.zero, i.size, i.bytes)) = some (some (.int .i64 0), 1, 8) := by kernel_rfl
/-- The elements of an owned row of integers. -/
theorem cells_of_own {w : World} {base g n cap : Nat} {k : IntKind} {e : TypeId} {zs : List Int} (h : w.ownsRow base e 1 (.slice (some ⟨g, 0, none⟩) n cap) n (zs.map (Value.int k))) : Cells k w (some ⟨g, 0, none⟩) zs := by
  refine .inr ⟨g, 0, rfl, (h.lt g rfl).2, fun j hj => ?_⟩
  have h1 := h.cells rfl j (.int k (zs[j]?.getD 0)) (by rw [List.getElem?_map]; simp [hj])
  rw [← h1]
  by_cases h0 : j = 0 <;> simp [Addr.add, h0]

theorem own_slice {w : World} {base e size n : Nat} {v : Value} {xs : List Value} (h : w.ownsRow base e size v n xs) : ∃ a cap, v = .slice a n cap := by
  rcases h.2 with ⟨rfl, rfl⟩ | ⟨g, cap, cur, rfl, _⟩
  · exact ⟨none, 0, rfl⟩
  · exact ⟨_, cap, rfl⟩

/-- A slice of integers that lies in memory, below block B. -/
structure SliAt (k : IntKind) (B : Nat) (w : World) (a : Option Addr) (cap : Nat) (zs : List Int) : Prop where
  le : zs.length ≤ cap
  mx : cap ≤ 9223372036854775807
  nil : a = none → cap = 0
  cells : CellsAt k B w a zs
abbrev Sli (k : IntKind) (w : World) (a : Option Addr) (cap : Nat) (zs : List Int) : Prop := SliAt k w.heap.size w a cap zs
theorem SliAt.keep {k : IntKind} {B : Nat} {w w' : World} {a : Option Addr} {cap : Nat} {zs : List Int} (h : SliAt k B w a cap zs) (hb : ∀ b, b < B → w'.heap[b]? = w.heap[b]?) : SliAt k B w' a cap zs := ⟨h.le, h.mx, h.nil, h.cells.keep hb⟩
theorem SliAt.below {k : IntKind} {B : Nat} {w w' : World} {a : Option Addr} {cap : Nat} {zs : List Int} (h : SliAt k B w a cap zs) (hb : Below B w w') : SliAt k B w' a cap zs := ⟨h.le, h.mx, h.nil, h.cells.below hb⟩
theorem SliAt.mono {k : IntKind} {B B' : Nat} {w : World} {a : Option Addr} {cap : Nat} {zs : List Int} (h : SliAt k B w a cap zs) (hb : B ≤ B') : SliAt k B' w a cap zs := ⟨h.le, h.mx, h.nil, h.cells.mono hb⟩
theorem Sli.below {k : IntKind} {w w' : World} {a : Option Addr} {cap : Nat} {zs : List Int} (h : Sli k w a cap zs) (hb : Below w.heap.size w w') : Sli k w' a cap zs := (SliAt.below h hb).mono hb.size
/-- A call hands back a slice of these integers in memory of its own, and writes nothing that lay. -/
def NewRow (k : IntKind) (e : TypeId) (w : World) (xs : List Int) (en : Ending) (w' : World) : Prop :=
  ∃ v, en = .returned v ∧ w'.ownsRow w.heap.size e 1 v xs.length (xs.map (Value.int k)) ∧ Below w.heap.size w w'
/-- What is owned is a slice that lies in memory. -/
theorem sli_of_own {w : World} {base n : Nat} {k : IntKind} {e : TypeId} {v : Value} {zs : List Int} (h : w.ownsRow base e 1 v n (zs.map (Value.int k))) : n = zs.length ∧ ∃ a cap, v = .slice a zs.length cap ∧ Sli k w a cap zs := by
  have hn : n = zs.length := by have := h.1; simp at this; omega
  refine ⟨hn, ?_⟩
  rcases h.2 with ⟨rfl, h0⟩ | ⟨g, cap, cur, rfl, hg, hh, hc, hm, r⟩
  · have : zs = [] := List.eq_nil_of_length_eq_zero (by omega)
    subst this
    exact ⟨none, 0, rfl, by simp, by omega, fun _ => rfl, .inl rfl⟩
  · exact ⟨some ⟨g, 0, none⟩, cap, by rw [hn], by omega, by unfold maxLen at hm; omega, (fun h => by cases h), cells_of_own h⟩
theorem info5 : (Tryd.prog.info? 5).map (fun i => (i.zero, i.size, i.bytes)) = some (some (.int .u8 0), 1, 1) := by kernel_rfl
theorem one_ints (k : IntKind) (l : List Int) : ∀ u ∈ l.map (Value.int k), u.oneCell' = true := by
  intro u hu
  obtain ⟨x, _, rfl⟩ := List.mem_map.1 hu
  rfl
theorem cells_take {k : IntKind} {w : World} {ad : Addr} {zs : List Int} {B : Nat} (h : CellsAt k B w (some ad) zs) (m : Nat) :
    ∀ j u, ((zs.take m).map (Value.int k))[j]? = some u → w.cell? (ad.add j) = some u := by
  intro j u hu
  rcases h with rfl | ⟨b, off, hab, hlt, hc⟩
  · simp at hu
  · cases hab
    rw [List.getElem?_map, List.getElem?_take] at hu
    split at hu
    · cases hz : zs[j]? with
      | none => simp [hz] at hu
      | some x =>
        simp [hz] at hu
        subst hu
        have hj : j < zs.length := (List.getElem?_eq_some_iff.1 hz).1
        have h1 := hc j hj
        rw [hz] at h1
        rw [show (⟨b, off, none⟩ : Addr).add j = ⟨b, off + j, none⟩ by by_cases h0 : j = 0 <;> simp [Addr.add, h0]]
        exact h1
    · simp at hu
theorem take_step (xs ys : List Int) (k : Nat) (hx : k < xs.length) (hy : k < ys.length) (h : xs.take k = ys.take k) (e : xs[k]?.getD 0 = ys[k]?.getD 0) : xs.take (k + 1) = ys.take (k + 1) := by
  rw [List.take_succ_eq_append_getElem hx, List.take_succ_eq_append_getElem hy, h]
  simp [hx, hy] at e
  rw [e]
theorem take_stop (xs ys : List Int) (k : Nat) (_hx : k < xs.length) (_hy : k < ys.length) (e : ¬ xs[k]?.getD 0 = ys[k]?.getD 0) : ¬ xs = ys := fun h => e (by rw [h])
/-- A call hands back a slice of these integers that lies in memory, and writes nothing that lay. -/
def NewSli (k : IntKind) (w : World) (xs : List Int) (en : Ending) (w' : World) : Prop :=
  ∃ a cap, en = .returned (.slice a xs.length cap) ∧ Sli k w' a cap xs ∧ Below w.heap.size w w'
theorem newSli_of_row {k : IntKind} {e : TypeId} {w : World} {xs : List Int} {en : Ending} {w' : World} (h : NewRow k e w xs en w') : NewSli k w xs en w' := by
  obtain ⟨v, rfl, hown, hb⟩ := h
  obtain ⟨_, a, cap, rfl, hs⟩ := sli_of_own hown
  exact ⟨a, cap, rfl, hs, hb⟩
/-- What the frame of a law tells of a slice that came in. -/
def IsRow (k : IntKind) (w : World) (a : Option Addr) (len cap : Nat) (zs : List Int) : Prop :=
  (a = none ∧ len = 0 ∧ cap = 0 ∧ zs = []) ∨
  ∃ x, a = some x ∧ len ≤ cap ∧ cap ≤ maxLen ∧ zs.length = cap ∧ (∀ i, i < zs.length → w.cell? (x.add i) = some (.int k (zs.getD i 0))) ∧ ∀ n ∈ zs, (Lit.int k n).wf = true
theorem sli_of_isRow {k : IntKind} {w : World} {a : Option Addr} {len cap : Nat} {zs : List Int} (h : IsRow k w a len cap zs) :
    ∃ xs : List Int, xs.length = len ∧ Sli k w a cap xs ∧ ∀ n ∈ xs, (Lit.int k n).wf = true := by
  rcases h with ⟨rfl, rfl, rfl, rfl⟩ | ⟨x, rfl, hl, hm, hz, hcell, hwf⟩
  · exact ⟨[], rfl, ⟨by simp, by omega, fun _ => rfl, .inl rfl⟩, by simp⟩
  · have hlen : (zs.take len).length = len := by rw [List.length_take]; omega
    refine ⟨zs.take len, hlen, ⟨by omega, by unfold maxLen at hm; omega, (fun h => by cases h), ?_⟩, fun n hn => hwf n (List.mem_of_mem_take hn)⟩
    by_cases h0 : len = 0
    · subst h0; exact .inl (by simp)
    · obtain ⟨b, off, spot⟩ := x
      have hc0 := hcell 0 (by omega)
      have hspot : spot = none := by simpa [Addr.add] using World.cell?_spot hc0
      subst hspot
      have hlt : b < w.heap.size := by
        have := World.block_lt_of_cell? w _ hc0
        simpa [Addr.add] using this
      refine .inr ⟨b, off, rfl, hlt, fun j hj => ?_⟩
      have h1 := hcell j (by omega)
      rw [show (⟨b, off, none⟩ : Addr).add j = ⟨b, off + j, none⟩ by by_cases h0 : j = 0 <;> simp [Addr.add, h0]] at h1
      rw [h1, List.getElem?_take, if_pos (by omega)]
      simp
theorem byt_of_wf {xs : List Int} (h : ∀ n ∈ xs, (Lit.int .u8 n).wf = true) : Byt xs := fun c hc => by
  have h1 := h c hc
  simp only [Lit.wf, IntKind.min, IntKind.max, IntKind.signed, IntKind.bits, Bool.and_eq_true] at h1
  simp at h1
  omega

theorem sli_string (s : ByteArray) (G : Nat) (W : World) (b : Nat) (t : TypeId) (f : Nat × Nat) (hG : s.size ≤ G) (hG2 : G ≤ 9223372036854775807) (h : W.heap[b]? = some (.cells (bytesRow s G) t f)) :
    Sli .u8 W (some ⟨b, 0, none⟩) G (sb s) :=
  ⟨by rw [sb_len]; exact hG, hG2, (fun h => by cases h), .inr ⟨b, 0, rfl, (Array.getElem?_eq_some_iff.1 h).1, fun j hj => bytesRow_cell s G W t f b h j (by rwa [sb_len] at hj)⟩⟩

theorem sli_row {w : World} {base n g cap : Nat} {k : IntKind} {e : TypeId} {zs : List Int} (h : w.ownsRow base e 1 (.slice (some ⟨g, 0, none⟩) n cap) n (zs.map (Value.int k))) : Sli k w (some ⟨g, 0, none⟩) cap zs := by
  obtain ⟨hn, a, cap', hv, hs⟩ := sli_of_own h
  simp only [Value.slice.injEq] at hv
  obtain ⟨rfl, _, rfl⟩ := hv
  exact hs
/-- A call hands back a slice of these integers, at the head of a block of its own. -/
def NewOwn (k : IntKind) (e : TypeId) (w : World) (xs : List Int) (en : Ending) (w' : World) : Prop :=
  ∃ g cap, en = .returned (.slice (some ⟨g, 0, none⟩) xs.length cap) ∧ w'.ownsRow w.heap.size e 1 (.slice (some ⟨g, 0, none⟩) xs.length cap) xs.length (xs.map (Value.int k)) ∧ Below w.heap.size w w'
theorem newOwn_of_row {k : IntKind} {e : TypeId} {w : World} {xs : List Int} {en : Ending} {w' : World} (hx : xs ≠ []) (h : NewRow k e w xs en w') : NewOwn k e w xs en w' := by
  obtain ⟨v, rfl, hown, hb⟩ := h
  obtain ⟨m, hm⟩ : ∃ m, xs.length = m + 1 := ⟨xs.length - 1, by have := List.length_pos_iff.2 hx; omega⟩
  have h1 := hown
  rw [hm] at h1
  obtain ⟨g, cap, rfl⟩ := ownsRow_succ h1
  rw [← hm] at hown
  exact ⟨g, cap, by rw [hm], hown, hb⟩
theorem row_lt {w : World} {base e size n g cap : Nat} {xs : List Value} (h : w.ownsRow base e size (.slice (some ⟨g, 0, none⟩) n cap) n xs) : base ≤ g ∧ g < w.heap.size := h.lt g rfl
theorem row_cell {w : World} {base n g cap : Nat} {k : IntKind} {e : TypeId} {zs : List Int} (h : w.ownsRow base e 1 (.slice (some ⟨g, 0, none⟩) n cap) n (zs.map (Value.int k))) (j : Nat) (hj : j < n) :
    w.cell? ⟨g, j, none⟩ = some (.int k (zs[j]?.getD 0)) := by
  have hn : n = zs.length := by have := h.1; simp at this; omega
  rw [h.cellAt j (by omega), List.getElem?_map]
  simp [show j < zs.length by omega]
theorem row_stored {w : World} {base n g cap : Nat} {k : IntKind} {e : TypeId} {zs : List Int} (h : w.ownsRow base e 1 (.slice (some ⟨g, 0, none⟩) n cap) n (zs.map (Value.int k))) (j : Nat) (x : Int) :
    (w.setCell ⟨g, j, none⟩ (.int k x)).ownsRow base e 1 (.slice (some ⟨g, 0, none⟩) n cap) n ((zs.set j x).map (Value.int k)) := by
  have := (h.stored j (.int k x)).1
  rwa [← List.map_set] at this
theorem byt_set {l : List Int} (h : Byt l) (j : Nat) {x : Int} (hx : 0 ≤ x ∧ x ≤ 255) : Byt (l.set j x) := by
  intro c hc
  rcases List.mem_or_eq_of_mem_set hc with h1 | rfl
  · exact h c h1
  · exact hx
theorem byt_snoc {l : List Int} (h : Byt l) {x : Int} (hx : 0 ≤ x ∧ x ≤ 255) : Byt (l ++ [x]) := by
  intro c hc
  rcases List.mem_append.1 hc with h1 | h1
  · exact h c h1
  · simp at h1; subst h1; exact hx
theorem own_below {w w' : World} {base e size n g cap : Nat} {xs : List Value} (h : w.ownsRow base e size (.slice (some ⟨g, 0, none⟩) n cap) n xs) (hb : Below w.heap.size w w') : w'.ownsRow base e size (.slice (some ⟨g, 0, none⟩) n cap) n xs :=
  own_same h (fun j e => by cases e; exact hb.block g (row_lt h).2)

end Go.Proofs.YtgfhhpodcnohpaaDoor
