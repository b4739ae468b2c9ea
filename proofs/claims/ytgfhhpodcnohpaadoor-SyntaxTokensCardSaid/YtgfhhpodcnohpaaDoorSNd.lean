/- Trees: as data, and how they lie in memory. It has no conditions. -/
import Derived.Test.YtgfhhpodcnohpaaDoorBase
import Derived.Test.YtgfhhpodcnohpaaDoorOnly
namespace Go.Proofs.YtgfhhpodcnohpaaDoor
open Go.RowKit Go.Shelf
set_option linter.unusedVariables false

inductive Nd where
  | mk (id kind : Int) (text : ByteArray) (kids : List Nd)
def Nd.id : Nd → Int | .mk i _ _ _ => i
def Nd.kind : Nd → Int | .mk _ k _ _ => k
def Nd.text : Nd → ByteArray | .mk _ _ t _ => t
def Nd.kids : Nd → List Nd | .mk _ _ _ l => l
/-- The kind is that of a leaf. -/
def Nd.leaf (t : Nd) : Prop := 0 ≤ t.kind ∧ t.kind ≤ 8
instance (t : Nd) : Decidable t.leaf := by unfold Nd.leaf; infer_instance
mutual
/-- The leaves, as the reference counts them. -/
def Nd.lf : Nd → List (Int × ByteArray)
  | .mk _ k t ks => if 0 ≤ k ∧ k ≤ 8 then [(k, t)] else lfs ks
def lfs : List Nd → List (Int × ByteArray)
  | [] => []
  | x :: l => x.lf ++ lfs l
end
mutual
def Nd.dep : Nd → Nat
  | .mk _ _ _ ks => deps ks + 1
def deps : List Nd → Nat
  | [] => 0
  | x :: l => max x.dep (deps l)
end
mutual
def Nd.cnt : Nd → Nat
  | .mk _ _ _ ks => cnts ks + 1
def cnts : List Nd → Nat
  | [] => 0
  | x :: l => x.cnt + cnts l
end
mutual
/-- All nodes in preorder. -/
def Nd.all : Nd → List Nd
  | .mk i k t ks => .mk i k t ks :: alls ks
def alls : List Nd → List Nd
  | [] => []
  | x :: l => x.all ++ alls l
end
theorem Nd.eta (t : Nd) : t = .mk t.id t.kind t.text t.kids := by cases t; rfl
theorem Nd.lf_eq (t : Nd) : t.lf = if t.leaf then [(t.kind, t.text)] else lfs t.kids := by cases t; rw [Nd.lf]; rfl
theorem Nd.dep_eq (t : Nd) : t.dep = deps t.kids + 1 := by cases t; rw [Nd.dep]; rfl
theorem Nd.cnt_eq (t : Nd) : t.cnt = cnts t.kids + 1 := by cases t; rw [Nd.cnt]; rfl
theorem Nd.all_eq (t : Nd) : t.all = t :: alls t.kids := by cases t; rw [Nd.all]; rfl
theorem lfs_nil : lfs [] = [] := by rw [lfs]
theorem lfs_cons (x : Nd) (l : List Nd) : lfs (x :: l) = x.lf ++ lfs l := by rw [lfs]
theorem lfs_app : ∀ (a b : List Nd), lfs (a ++ b) = lfs a ++ lfs b
  | [], b => by rw [lfs_nil]; rfl
  | x :: a, b => by rw [List.cons_append, lfs_cons, lfs_cons, lfs_app a b, List.append_assoc]
theorem alls_nil : alls [] = [] := by rw [alls]
theorem alls_cons (x : Nd) (l : List Nd) : alls (x :: l) = x.all ++ alls l := by rw [alls]
theorem alls_app : ∀ (a b : List Nd), alls (a ++ b) = alls a ++ alls b
  | [], b => by rw [alls_nil]; rfl
  | x :: a, b => by rw [List.cons_append, alls_cons, alls_cons, alls_app a b, List.append_assoc]
theorem deps_app : ∀ (a b : List Nd), deps (a ++ b) = max (deps a) (deps b)
  | [], b => by rw [List.nil_append, deps]; omega
  | x :: a, b => by rw [List.cons_append, deps, deps, deps_app a b]; omega
mutual
theorem Nd.dep_cnt : ∀ (t : Nd), t.dep ≤ t.cnt
  | .mk i k t ks => by
    have := deps_cnt ks
    rw [Nd.dep, Nd.cnt]; omega
theorem deps_cnt : ∀ (l : List Nd), deps l ≤ cnts l
  | [] => by rw [deps]; omega
  | x :: l => by
    have h1 := x.dep_cnt
    have h2 := deps_cnt l
    rw [deps, cnts]; omega
end
theorem deps_mem : ∀ {l : List Nd} {x : Nd}, x ∈ l → x.dep ≤ deps l
  | y :: l, x, h => by
    rw [deps]
    rcases List.mem_cons.1 h with rfl | h
    · omega
    · have := deps_mem h; omega
theorem cnts_mem : ∀ {l : List Nd} {x : Nd}, x ∈ l → x.cnt ≤ cnts l
  | y :: l, x, h => by
    rw [cnts]
    rcases List.mem_cons.1 h with rfl | h
    · omega
    · have := cnts_mem h; omega
theorem cnts_len : ∀ (l : List Nd), l.length ≤ cnts l
  | [] => by simp
  | y :: l => by
    have := cnts_len l
    have h2 := y.cnt_eq
    rw [cnts, List.length_cons]; omega
theorem Nd.kid_dep {t x : Nd} (h : x ∈ t.kids) : x.dep + 1 ≤ t.dep := by rw [t.dep_eq]; have := deps_mem h; omega
theorem Nd.kid_cnt {t x : Nd} (h : x ∈ t.kids) : x.cnt + 1 ≤ t.cnt := by rw [t.cnt_eq]; have := cnts_mem h; omega
theorem Nd.kids_len (t : Nd) : t.kids.length + 1 ≤ t.cnt := by rw [t.cnt_eq]; have := cnts_len t.kids; omega
/-- How many bytes leaves have. -/
def wid : List (Int × ByteArray) → Nat
  | [] => 0
  | x :: l => x.2.size + wid l
theorem wid_app : ∀ (a b : List (Int × ByteArray)), wid (a ++ b) = wid a + wid b
  | [], b => by simp [wid]
  | x :: a, b => by rw [List.cons_append, wid, wid, wid_app a b]; omega
/-- Leaves with their offsets. -/
def toks : List (Int × ByteArray) → Nat → List (Int × ByteArray × Nat)
  | [], _ => []
  | x :: l, at_ => (x.1, x.2, at_) :: toks l (at_ + x.2.size)
theorem toks_app : ∀ (a b : List (Int × ByteArray)) (n : Nat), toks (a ++ b) n = toks a n ++ toks b (n + wid a)
  | [], b, n => by simp [toks, wid]
  | x :: a, b, n => by
    rw [List.cons_append, toks, toks, toks_app a b, wid, List.cons_append]
    rw [show n + x.2.size + wid a = n + (x.2.size + wid a) by omega]
theorem toks_len : ∀ (a : List (Int × ByteArray)) (n : Nat), (toks a n).length = a.length
  | [], n => rfl
  | x :: a, n => by rw [toks, List.length_cons, List.length_cons, toks_len a]
mutual
theorem Nd.lf_len : ∀ (t : Nd), t.lf.length ≤ t.cnt
  | .mk i k t ks => by
    rw [Nd.lf, Nd.cnt]
    split
    · simp
    · have := lfs_len ks; omega
theorem lfs_len : ∀ (l : List Nd), (lfs l).length ≤ cnts l
  | [] => by rw [lfs]; simp
  | x :: l => by
    have h1 := x.lf_len
    have h2 := lfs_len l
    rw [lfs, cnts, List.length_append]; omega
end
theorem lfs_take (l : List Nd) (k : Nat) (h : k < l.length) : lfs (l.take (k + 1)) = lfs (l.take k) ++ (l[k]).lf := by
  rw [List.take_succ_eq_append_getElem h, lfs_app, lfs_cons, lfs_nil, List.append_nil]
theorem alls_take (l : List Nd) (k : Nat) (h : k < l.length) : alls (l.take (k + 1)) = alls (l.take k) ++ (l[k]).all := by
  rw [List.take_succ_eq_append_getElem h, alls_app, alls_cons, alls_nil, List.append_nil]
theorem wid_take (l : List Nd) (k : Nat) : wid (lfs (l.take k)) ≤ wid (lfs l) := by
  have h : lfs l = lfs (l.take k) ++ lfs (l.drop k) := by rw [← lfs_app, List.take_append_drop]
  rw [h, wid_app]; omega

/-- The Kids of a node lie in memory, in blocks of G. -/
inductive KV (G : Nat → Prop) (w : World) : Option Addr → Nat → Nat → List Nd → Prop
  | nil {a : Option Addr} {cap : Nat} (h1 : a = none → cap = 0) (h2 : cap ≤ 9223372036854775807) : KV G w a 0 cap []
  | cons {b off n cap : Nat} {kids : List Nd} (u : Nat → Option Addr) (un uc : Nat → Nat) (hn : kids.length = n) (h0 : n ≠ 0) (hle : n ≤ cap) (hmx : cap ≤ 9223372036854775807) (hb : b < w.heap.size) (hG : G b)
      (hc : ∀ k (hk : k < kids.length), w.cell? ⟨b, off + k * 4, none⟩ = some (.int .i64 (kids[k]).id) ∧ w.cell? ⟨b, off + k * 4 + 1, none⟩ = some (.int .i64 (kids[k]).kind) ∧ w.cell? ⟨b, off + k * 4 + 2, none⟩ = some (.string (kids[k]).text) ∧ w.cell? ⟨b, off + k * 4 + 3, none⟩ = some (.slice (u k) (un k) (uc k)))
      (hk : ∀ k (hk : k < kids.length), KV G w (u k) (un k) (uc k) (kids[k]).kids) : KV G w (some ⟨b, off, none⟩) n cap kids
theorem KV.keep {G G' : Nat → Prop} {w w' : World} {a : Option Addr} {n cap : Nat} {kids : List Nd} (h : KV G w a n cap kids) (hz : w.heap.size ≤ w'.heap.size) (hb : ∀ b, G b → b < w.heap.size → w'.heap[b]? = w.heap[b]?) (hg : ∀ b, G b → b < w.heap.size → G' b) : KV G' w' a n cap kids := by
  induction h with
  | nil h1 h2 => exact .nil h1 h2
  | @cons b off n cap kids u un uc hn h0 hle hmx hb' hG hc hk ih =>
    refine .cons u un uc hn h0 hle hmx (by omega) (hg b hG hb') (fun k hk' => ?_) (fun k hk' => ih k hk')
    obtain ⟨q0, q1, q2, q3⟩ := hc k hk'
    have e := hb b hG hb'
    simp only [World.cell?, e] at q0 q1 q2 q3 ⊢
    exact ⟨q0, q1, q2, q3⟩
theorem KV.on {G : Nat → Prop} {w w' : World} {a : Option Addr} {n cap : Nat} {kids : List Nd} (h : KV G w a n cap kids) (hb : Below w.heap.size w w') : KV G w' a n cap kids :=
  h.keep hb.size (fun b _ hlt => hb.block b hlt) (fun _ h _ => h)
theorem KV.len {G : Nat → Prop} {w : World} {a : Option Addr} {n cap : Nat} {kids : List Nd} (h : KV G w a n cap kids) : kids.length = n ∧ n ≤ cap ∧ cap ≤ 9223372036854775807 := by
  cases h with
  | nil h1 h2 => exact ⟨rfl, Nat.zero_le _, h2⟩
  | cons u un uc hn h0 hle hmx hb hG hc hk => exact ⟨hn, hle, hmx⟩
theorem KV.nil_ {G : Nat → Prop} {w : World} {a : Option Addr} {n cap : Nat} {kids : List Nd} (h : KV G w a n cap kids) : a = none → n = 0 ∧ cap = 0 := by
  cases h with
  | nil h1 h2 => exact fun e => ⟨rfl, h1 e⟩
  | cons u un uc hn h0 hle hmx hb hG hc hk => exact fun e => by cases e
/-- A kid's cells, wherever the blocks lie as they lay. -/
theorem KV.kid {G : Nat → Prop} {w : World} {a : Option Addr} {n cap : Nat} {kids : List Nd} (h : KV G w a n cap kids) {k : Nat} (hk : k < kids.length) : ∃ b off u un uc, a = some ⟨b, off, none⟩ ∧ G b ∧ b < w.heap.size ∧ KV G w u un uc (kids[k]).kids ∧
    ∀ V : World, V.heap[b]? = w.heap[b]? → V.cell? ⟨b, off + k * 4, none⟩ = some (.int .i64 (kids[k]).id) ∧ V.cell? ⟨b, off + k * 4 + 1, none⟩ = some (.int .i64 (kids[k]).kind) ∧ V.cell? ⟨b, off + k * 4 + 2, none⟩ = some (.string (kids[k]).text) ∧ V.cell? ⟨b, off + k * 4 + 3, none⟩ = some (.slice u un uc) := by
  cases h with
  | nil h1 h2 => simp at hk
  | @cons b off _ _ _ u un uc hn h0 hle hmx hb hG hc hk' =>
    refine ⟨b, off, u k, un k, uc k, rfl, hG, hb, hk' k hk, fun V hV => ?_⟩
    obtain ⟨q0, q1, q2, q3⟩ := hc k hk
    simp only [World.cell?, hV] at q0 q1 q2 q3 ⊢
    exact ⟨q0, q1, q2, q3⟩
/-- The value of a node. -/
abbrev ndv (t : Nd) (a : Option Addr) (n cap : Nat) : Value := .agg #[.int .i64 t.id, .int .i64 t.kind, .string t.text, .slice a n cap]
/-- The cells of a node's own block. -/
abbrev ndc (t : Nd) (a : Option Addr) (n cap : Nat) : Array Value := #[.int .i64 t.id, .int .i64 t.kind, .string t.text, .slice a n cap]

end Go.Proofs.YtgfhhpodcnohpaaDoor
