/- Texts of one claim, put together: RDb, RDy, RDa, RDe, RDs, RDk, RDh, RDf, DFrm, DSnc, RDt, RDm. Each part says what it proves and under which conditions. -/
import Derived.Test.YtkehgoailhpenaaGreatRn08

/- The contract of the reference's become. Conditions: at most 900 versions. -/
namespace Go.Proofs.YtkehgoailhpenaaGreat
open Go.RowKit Go.Shelf Go.Maps
set_option linter.unusedVariables false

def becE (r : RS) (es : List Er) : Int := if vErr (r.text.size : Int) es = 0 then (if 4096 < (apS r.text es).size then 4 else 0) else vErr (r.text.size : Int) es
def becS (r : RS) (es : List Er) : RS := ⟨r.f, r.h ++ [(apS r.text es, es)], r.hs⟩
theorem infoStr : (Tryz.prog.info? 9).map (fun i => (i.zero, i.size, i.bytes)) = some (some (.string ⟨#[]⟩), 1, 16) := by kernel_rfl
theorem infoEds : (Tryz.prog.info? 38).map (fun i => (i.zero, i.size, i.bytes)) = some (some (.slice none 0 0), 1, 24) := by kernel_rfl
/-- The block of a row and a block of another type are two. -/
theorem own_neB {w : World} {base size n p : Nat} {e t : TypeId} {v : Value} {xs : List Value} {cs : Array Value} (h : w.ownsRow base e size v n xs) (k : Blk w p t cs) (hne : e ≠ t) : v.ownBlock ≠ some p := by
  intro hv
  rcases h.2 with ⟨rfl, _⟩ | ⟨g, cap, cur, rfl, _, hg, _⟩
  · cases hv
  · cases hv
    unfold Blk at k
    rw [hg] at k
    cases k
    exact hne rfl
theorem own_neR {w : World} {base base' size size' n n' : Nat} {e t : TypeId} {v v' : Value} {xs xs' : List Value} (h : w.ownsRow base e size v n xs) (k : w.ownsRow base' t size' v' n' xs') (hne : e ≠ t) {b : Nat} (hb : v.ownBlock = some b) : v'.ownBlock ≠ some b := by
  intro hv
  rcases h.2 with ⟨rfl, _⟩ | ⟨g, cap, cur, rfl, _, hg, _⟩
  · cases hb
  · cases hb
    rcases k.2 with ⟨rfl, _⟩ | ⟨g', cap', cur', rfl, _, hg', _⟩
    · cases hv
    · cases hv
      rw [hg] at hg'
      cases hg'
      exact hne rfl
theorem All2.keep {G G' : Nat → Prop} {w w' : World} {us : List Value} {h : List (ByteArray × List Er)} (k : All2 (fun u x => EsG G w u x.2) us h) (hz : w.heap.size ≤ w'.heap.size) (hG : ∀ b, G b → b < w.heap.size → w'.heap[b]? = w.heap[b]?) (hg : ∀ b, G b → G' b) : All2 (fun u x => EsG G' w' u x.2) us h :=
  k.mono (fun u x hu => hu.keep hz hG hg)
/-- The parts of the document between the two stores, and behind them. -/
theorem bec_fin {T G : Nat → Prop} {p : Nat} {r : RS} {w w2 w4 w7 : World} {t : ByteArray} {a : Option Addr} {cap : Nat} {es : List Er} {vT vE vH vT' vE' : Value} {us : List Value} {hv : List (Int × Value)}
    (h : RDocI T G w p r) (h1 : Blk w p 76 #[.int .i64 r.f, vT, vE, vH]) (h2 : w.ownsRow 0 9 1 vT r.h.length (strs r.h)) (h3 : w.ownsRow 0 38 1 vE r.h.length us) (h4 : All2 (fun u x => EsG G w u x.2) us r.h)
    (h5 : w.ownsRow 0 47 2 vH r.hs.length (cv hv)) (h6 : HeldA G w hv r.hs) (h7 : ∀ b, vT.ownBlock = some b ∨ vE.ownBlock = some b ∨ vH.ownBlock = some b → T b)
    (ht : t = apS r.text es) (htz : t.size ≤ 4096) (hlen : r.h.length ≤ 900) (hE : ES w.heap.size w a cap es) (hn : es.length ≤ 64) (hf : ∀ e ∈ es, e.Fit) (hT : ∀ b, blkOf a b → ¬ T b) (hb : Below w.heap.size w w2)
    (o4 : w4.ownsRow 0 9 1 vT' (r.h.length + 1) (strs r.h ++ [.string t])) (g4 : (w2.alloc (.cells #[.string t] 9)).grownBy w4 vT.ownBlock) (a4 : vT'.ownBlock = vT.ownBlock ∨ vT'.ownBlock = some (w2.alloc (.cells #[.string t] 9)).heap.size)
    (o7 : w7.ownsRow 0 38 1 vE' (r.h.length + 1) (us ++ [.slice a es.length cap])) (g7 : ((w4.setCell ⟨p, 1, none⟩ vT').alloc (.cells #[.slice a es.length cap] 38)).grownBy w7 vE.ownBlock) (a7 : vE'.ownBlock = vE.ownBlock ∨ vE'.ownBlock = some ((w4.setCell ⟨p, 1, none⟩ vT').alloc (.cells #[.slice a es.length cap] 38)).heap.size) :
    ∃ T', RDocI T' (addG G es.length a) (w7.setCell ⟨p, 2, none⟩ vE') p (becS r es) ∧ Only T w (w7.setCell ⟨p, 2, none⟩ vE') ∧ ∀ b, T' b → T b ∨ w.heap.size ≤ b := by
  obtain ⟨W3, hW3⟩ : ∃ W, w2.alloc (.cells #[.string t] 9) = W := ⟨_, rfl⟩
  obtain ⟨W5, hW5⟩ : ∃ W, w4.setCell ⟨p, 1, none⟩ vT' = W := ⟨_, rfl⟩
  obtain ⟨W6, hW6⟩ : ∃ W, W5.alloc (.cells #[.slice a es.length cap] 38) = W := ⟨_, rfl⟩
  obtain ⟨W8, hW8⟩ : ∃ W, w7.setCell ⟨p, 2, none⟩ vE' = W := ⟨_, rfl⟩
  rw [hW3] at g4 a4
  rw [hW5, hW6] at g7 a7
  rw [hW8]
  have hplt := h1.lt
  have b3 : Below w.heap.size w W3 := by rw [← hW3]; exact hb.alloc hb.size _
  have z3 := b3.size
  have z4 := g4.size
  have z5 : W5.heap.size = w4.heap.size := by rw [← hW5]; simp [World.setCell]
  have z6 : W6.heap.size = w4.heap.size + 1 := by rw [← hW6]; simp [z5]
  have z7 := g7.size
  have z8 : W8.heap.size = w7.heap.size := by rw [← hW8]; simp [World.setCell]
  have npT   := own_neB h2 h1 (by decide)
  have npE   := own_neB h3 h1 (by decide)
  have npH   := own_neB h5 h1 (by decide)
  -- an old block other than p and the two rows
  have e34 : ∀ b, b < w.heap.size → vT.ownBlock ≠ some b → w4.heap[b]? = w.heap[b]? := fun b hlt hne => (g4.block b (by omega) (fun e => hne e.symm)).trans (b3.block b hlt)
  have e45 : ∀ b, b ≠ p → W5.heap[b]? = w4.heap[b]? := fun b hne => by rw [← hW5]; exact Below.heap_setCell _ _ _ _ (fun e => hne e)
  have e56 : ∀ b, b < W5.heap.size → W6.heap[b]? = W5.heap[b]? := fun b hlt => by rw [← hW6]; exact Below.heap_alloc _ _ _ hlt
  have e67 : ∀ b, b < W6.heap.size → vE.ownBlock ≠ some b → w7.heap[b]? = W6.heap[b]? := fun b hlt hne => g7.block b hlt (fun e => hne e.symm)
  have e78 : ∀ b, b ≠ p → W8.heap[b]? = w7.heap[b]? := fun b hne => by rw [← hW8]; exact Below.heap_setCell _ _ _ _ (fun e => hne e)
  have e48 : ∀ b, b < w4.heap.size → b ≠ p → vE.ownBlock ≠ some b → W8.heap[b]? = w4.heap[b]? := fun b hlt hp hne => (((e78 b hp).trans (e67 b (by omega) hne)).trans (e56 b (by omega))).trans (e45 b hp)
  have e08 : ∀ b, b < w.heap.size → ¬ T b → W8.heap[b]? = w.heap[b]? := fun b hlt hnT => by
    have q1 : vT.ownBlock ≠ some b := fun e => hnT (h7 b (.inl e))
    have q2 : vE.ownBlock ≠ some b := fun e => hnT (h7 b (.inr (.inl e)))
    have q3 : b ≠ p := fun e => hnT (e ▸ h.tp)
    exact (e48 b (by omega) q3 q2).trans (e34 b hlt q1)
  have e08' : ∀ b, b < w.heap.size → b ≠ p → vT.ownBlock ≠ some b → vE.ownBlock ≠ some b → W8.heap[b]? = w.heap[b]? := fun b hlt q3 q1 q2 => (e48 b (by omega) q3 q2).trans (e34 b hlt q1)
  have ltE : ∀ b, vE.ownBlock = some b → b < w.heap.size := fun b hb' => (h3.lt b hb').2
  have ltT : ∀ b, vT.ownBlock = some b → b < w.heap.size := fun b hb' => (h2.lt b hb').2
  have kp : Blk W8 p 76 #[.int .i64 r.f, vT', vE', vH] := by
    have k4 : Blk w4 p 76 #[.int .i64 r.f, vT, vE, vH] := h1.same (e34 p hplt npT)
    have k5 : Blk W5 p 76 #[.int .i64 r.f, vT', vE, vH] := by rw [← hW5]; exact k4.set 1 vT'
    have k7 : Blk w7 p 76 #[.int .i64 r.f, vT', vE, vH] := k5.same ((e67 p (by omega) npE).trans (e56 p (by omega)))
    rw [← hW8]; exact k7.set 2 vE'
  have r1 : W8.ownsRow 0 9 1 vT' (r.h.length + 1) (strs (becS r es).h) := by
    have : strs (becS r es).h = strs r.h ++ [.string t] := by unfold strs becS; rw [List.map_append, ht]; rfl
    rw [this]
    refine own_same o4 (fun g hg => e48 g (o4.lt g hg).2 ?_ ?_)
    · rcases a4 with e | e
      · exact fun e' => npT (by rw [← e, hg, e'])
      · rw [hg] at e; cases e; omega
    · rcases a4 with e | e
      · exact own_neR h2 h3 (by decide) (by rw [← e]; exact hg)
      · rw [hg] at e; cases e; exact fun e' => by have := ltE _ e'; omega
  have r2 : W8.ownsRow 0 38 1 vE' (r.h.length + 1) (us ++ [.slice a es.length cap]) := by
    refine own_same o7 (fun g hg => e78 g ?_)
    rcases a7 with e | e
    · exact fun e' => npE (by rw [← e, hg, e'])
    · rw [hg] at e; cases e; omega
  have r3 : W8.ownsRow 0 47 2 vH r.hs.length (cv hv) := own_same h5 (fun g hg => e08' g (h5.lt g hg).2 (fun e => npH (by rw [hg, e])) (own_neR h5 h2 (by decide) hg) (own_neR h5 h3 (by decide) hg))
  have hlen' : (becS r es).h.length = r.h.length + 1 := by unfold becS; simp
  have hGk : ∀ b, G b → b < w.heap.size → W8.heap[b]? = w.heap[b]? := fun b hG hlt => e08 b hlt (fun hT' => h.apart b hT' hG)
  have hblk : ∀ b, es.length ≠ 0 → blkOf a b → b < w.heap.size := fun b h0 hb' => es_lt hE h0 hb'
  have hes : EsG (addG G es.length a) W8 (.slice a es.length cap) es :=
    (EsG.of (G := fun b => es.length ≠ 0 ∧ blkOf a b) hE (fun q1 b q2 => ⟨q1, q2⟩)).keep (by omega) (fun b hb' hlt => e08 b hlt (hT b hb'.2)) (fun b hb' => .inr hb')
  refine ⟨fun b => T b ∨ (w.heap.size ≤ b ∧ b < W8.heap.size), ⟨⟨h.ok.f0, h.ok.f1, by unfold becS; simp, by rw [hlen']; omega, ?_, ?_, h.ok.hlen, h.ok.held, h.ok.hk⟩, ⟨vT', vE', vH, us ++ [.slice a es.length cap], hv, kp, by rw [hlen']; exact r1, by rw [hlen']; exact r2, ?_, r3, h6.keep (by omega) hGk (fun b hb' => .inl hb'), ?_⟩, .inl h.tp, ?_, ?_, ?_⟩, ?_, fun b hb' => hb'.imp id (fun h => h.1)⟩
  · intro x hx
    rcases List.mem_append.1 hx with hx | hx
    · exact h.ok.text x hx
    · simp only [List.mem_singleton] at hx; subst hx; show (apS r.text es).size ≤ 4096; rw [← ht]; exact htz
  · intro x hx
    rcases List.mem_append.1 hx with hx | hx
    · exact h.ok.eds x hx
    · simp only [List.mem_singleton] at hx; subst hx; exact ⟨hn, hf⟩
  · exact (All2.keep h4 (by omega) hGk (fun b hb' => .inl hb')).app (.cons hes .nil)
  · intro b hb'
    rcases hb' with hb' | hb' | hb'
    · rcases a4 with e | e
      · exact .inl (h7 b (.inl (by rw [← e]; exact hb')))
      · rw [hb'] at e; cases e
        have := (o4.lt _ hb').2
        exact .inr ⟨by omega, by omega⟩
    · rcases a7 with e | e
      · exact .inl (h7 b (.inr (.inl (by rw [← e]; exact hb'))))
      · rw [hb'] at e; cases e
        have := (o7.lt _ hb').2
        exact .inr ⟨by omega, by omega⟩
    · exact .inl (h7 b (.inr (.inr hb')))
  · intro b hb'
    rcases hb' with hb' | hb'
    · have := h.lt b hb'; omega
    · exact hb'.2
  · intro b hb'
    rcases hb' with hb' | hb'
    · have := h.glt b hb'; omega
    · have := hblk b hb'.1 hb'.2; omega
  · intro b hb' hG'
    rcases hb' with hb' | hb'
    · rcases hG' with hG' | hG'
      · exact h.apart b hb' hG'
      · exact hT b hG'.2 hb'
    · rcases hG' with hG' | hG'
      · have := h.glt b hG'; omega
      · have := hblk b hG'.1 hG'.2; omega
  · have q3 : Only T w W3 := Only.of_below b3
    have q4 : Only T w w4 := q3.grown g4 (fun k hk => .inr (h7 k (.inl hk)))
    have q5 : Only T w W5 := by rw [← hW5]; exact q4.setCell (p := ⟨p, 1, none⟩) (.inr h.tp) _
    have q6 : Only T w W6 := by rw [← hW6]; exact q5.alloc _
    have q7 : Only T w w7 := q6.grown g7 (fun k hk => .inr (h7 k (.inr (.inl hk))))
    rw [← hW8]; exact q7.setCell (p := ⟨p, 2, none⟩) (.inr h.tp) _

set_option maxRecDepth 100000 in
set_option maxHeartbeats 4000000 in
theorem rbecome_any (T G : Nat → Prop) (p : Nat) (r : RS) (w : World) (h : RDocI T G w p r) (hlen : r.h.length ≤ 900) (a : Option Addr) (cap : Nat) (es : List Er) (hE : ES w.heap.size w a cap es) (hn : es.length ≤ 1000) (hf : ∀ e ∈ es, e.Fit) (hT : ∀ b, blkOf a b → ¬ T b) :
    Calls Tryz.prog 40 #[.pointer (some ⟨p, 0, none⟩), .slice a es.length cap] w fun e w' => e = .returned (.int .i64 (becE r es)) ∧ ((becE r es ≠ 0 ∧ Below w.heap.size w w') ∨ (becE r es = 0 ∧ ∃ T', RDocI T' (addG G es.length a) w' p (becS r es) ∧ Only T w w' ∧ ∀ b, T' b → T b ∨ w.heap.size ≤ b)) := by
  obtain ⟨iS, hiS, sy0, sy1, sy2⟩ := info_parts infoStr
  obtain ⟨iD, hiD, dy0, dy1, dy2⟩ := info_parts infoEds
  obtain ⟨s, hs⟩ : ∃ s, r.text = s := ⟨_, rfl⟩
  obtain ⟨t, ht⟩ : ∃ t, apS s es = t := ⟨_, rfl⟩
  obtain ⟨V, hV⟩ : ∃ v, vErr (s.size : Int) es = v := ⟨_, rfl⟩
  have hsz : s.size ≤ 4096 := by
    rw [← hs]
    unfold RS.text
    cases hq : r.h.getLast? with
    | none => show (⟨#[]⟩ : ByteArray).size ≤ 4096; decide
    | some x => exact h.ok.text x (List.mem_of_getLast? hq)
  have hB : becE r es = if V = 0 then (if 4096 < t.size then 4 else 0) else V := by unfold becE; rw [hs, ht, hV]
  obtain ⟨n, hn'⟩ : ∃ n, es.length = n := ⟨_, rfl⟩
  have CT := rtxt_any T G p r w h
  rw [hs] at CT
  have HAP : Hid (∀ W, Below w.heap.size w W → Calls Tryz.prog 33 #[.string s, .slice a n cap] W fun e w' => e = .returned (.tuple #[.string t, .int .i64 V]) ∧ Below W.heap.size W w') := fun W hW => by
    have := rapply_any s a cap es W (by omega) hn hf (hE.on hW)
    rwa [ht, hV, hn'] at this
  have HCT := Lib.hid CT
  rw [hB, hn']
  by_cases hV0 : V = 0
  · subst hV0
    by_cases hbig : 4096 < t.size
    · have hb2 : (4096 : Int) < (t.size : Int) := by omega
      rw [if_pos rfl, if_pos hbig]
      clear h hE hf hT hs ht hV hB CT hbig hn'
      go_enter Tryz.func40, Tryz.ntmps40
      go_wp2_with fail
      refine HCT.out.mono ?_
      rintro e w1 ⟨rfl, b1⟩
      have B1 := Lib.hid b1
      go_wp2_with fail
      refine (HAP.out w1 b1).mono ?_
      rintro e w2 ⟨rfl, b2⟩
      have B2 : Hid (Below w.heap.size w w2) := B1.out.trans (b2.mono B1.out.size)
      clear b1 b2
      go_wp2_with fail
      go_ret
      exact ⟨rfl, .inl ⟨by decide, B2.out⟩⟩
    · have hb2 : ¬ (4096 : Int) < (t.size : Int) := by omega
      have hn64 : es.length ≤ 64 := vErr_len hV
      rw [if_pos rfl, if_neg hbig]
      have hokl := h.ok.len
      obtain ⟨vT, vE, vH, us, hv, h1, h2, h3, h4, h5, h6, h7⟩ := h.mem
      obtain ⟨N, hN⟩ : ∃ N, r.h.length = N := ⟨_, rfl⟩
      have HFIN : Hid (∀ w2 vT' w4 vE' w7, Below w.heap.size w w2 → w4.ownsRow 0 9 1 vT' (N + 1) (strs r.h ++ [.string t]) → (w2.alloc (.cells #[.string t] 9)).grownBy w4 vT.ownBlock → (vT'.ownBlock = vT.ownBlock ∨ vT'.ownBlock = some (w2.alloc (.cells #[.string t] 9)).heap.size) →
          w7.ownsRow 0 38 1 vE' (N + 1) (us ++ [.slice a n cap]) → ((w4.setCell ⟨p, 1, none⟩ vT').alloc (.cells #[.slice a n cap] 38)).grownBy w7 vE.ownBlock → (vE'.ownBlock = vE.ownBlock ∨ vE'.ownBlock = some ((w4.setCell ⟨p, 1, none⟩ vT').alloc (.cells #[.slice a n cap] 38)).heap.size) →
          ∃ T', RDocI T' (addG G n a) (w7.setCell ⟨p, 2, none⟩ vE') p (becS r es) ∧ Only T w (w7.setCell ⟨p, 2, none⟩ vE') ∧ ∀ b, T' b → T b ∨ w.heap.size ≤ b) := fun w2 vT' w4 vE' w7 q1 q2 q3 q4 q5 q6 q7 => by
        rw [← hN] at q2 q5
        rw [← hn'] at q5 q6 q7 ⊢
        exact bec_fin h h1 h2 h3 h4 h5 h6 h7 (by rw [hs, ht]) (by omega) hlen hE hn64 hf hT q1 q2 q3 q4 q5 q6 q7
      rw [hN] at h2 h3 hlen
      have npT := own_neB h2 h1 (by decide)
      have npE := own_neB h3 h1 (by decide)
      have neET : ∀ b, vE.ownBlock = some b → vT.ownBlock ≠ some b := fun b hb => own_neR h3 h2 (by decide) hb
      have hplt := h1.lt
      have HKEY2 : Hid (∀ w2, Below w.heap.size w w2 → w2.cell? ⟨p, 1, none⟩ = some vT ∧ Hid (World.ownsRow (w2.alloc (.cells #[.string t] 9)) 0 9 1 vT N (strs r.h))) := fun w2 hb => by
        have k := (h1.same (hb.block p hplt)).cell 1
        simp only [List.getElem?_toArray, List.getElem?_cons_zero, List.getElem?_cons_succ] at k
        exact ⟨k, (own_same h2 (fun g hg => hb.block g (h2.lt g hg).2)).alloc _⟩
      have HKEY4 : Hid (∀ w2 vT' w4, Below w.heap.size w w2 → w4.ownsRow 0 9 1 vT' (N + 1) (strs r.h ++ [.string t]) → (w2.alloc (.cells #[.string t] 9)).grownBy w4 vT.ownBlock →
          ∃ aT cT, vT' = .slice aT (N + 1) cT ∧ w4.cell? ⟨p, 1, none⟩ = some vT ∧ w4.frozen? ⟨p, 1, none⟩ = false ∧ (w4.setCell ⟨p, 1, none⟩ (.slice aT (N + 1) cT)).cell? ⟨p, 2, none⟩ = some vE ∧ Hid (World.ownsRow ((w4.setCell ⟨p, 1, none⟩ (.slice aT (N + 1) cT)).alloc (.cells #[.slice a n cap] 38)) 0 38 1 vE N us) ∧ Hid (Blk ((w4.setCell ⟨p, 1, none⟩ (.slice aT (N + 1) cT)).alloc (.cells #[.slice a n cap] 38)) p 76 #[.int .i64 r.f, .slice aT (N + 1) cT, vE, vH]) ∧ Hid (∀ j y, ([.slice a n cap] : List Value)[j]? = some y → World.cell? ((w4.setCell ⟨p, 1, none⟩ (.slice aT (N + 1) cT)).alloc (.cells #[.slice a n cap] 38)) ((⟨w4.heap.size, 0, none⟩ : Addr).add j) = some y)) := fun w2 vT' w4 hb o4 g4 => by
        have b3 := hb.alloc hb.size (.cells #[.string t] 9)
        have z3 := b3.size
        obtain ⟨aT, cT, rfl⟩ := own_slice o4
        have k4 : Blk w4 p 76 #[.int .i64 r.f, vT, vE, vH] := h1.same ((g4.block p (by omega) (fun e => npT e.symm)).trans (b3.block p hplt))
        have k5 : Blk (w4.setCell ⟨p, 1, none⟩ (.slice aT (N + 1) cT)) p 76 #[.int .i64 r.f, .slice aT (N + 1) cT, vE, vH] := k4.set 1 _
        have c1 := k4.cell 1
        have c2 := k5.cell 2
        simp only [List.getElem?_toArray, List.getElem?_cons_zero, List.getElem?_cons_succ] at c1 c2
        have hcn := cell_one_new (w4.setCell ⟨p, 1, none⟩ (.slice aT (N + 1) cT)) (.slice a n cap) 38
        rw [show (w4.setCell ⟨p, 1, none⟩ (.slice aT (N + 1) cT)).heap.size = w4.heap.size by simp [World.setCell]] at hcn
        refine ⟨aT, cT, rfl, c1, k4.frozen 1, c2, ?_, k5.alloc _, hcn⟩
        refine World.ownsRow.alloc (own_same h3 (fun g hg => ?_)) _
        have hgl := (h3.lt g hg).2
        exact (Below.heap_setCell _ _ _ _ (fun e => npE (by rw [hg]; exact congrArg some e))).trans ((g4.block g (by omega) (fun e => neET g hg e.symm)).trans (b3.block g hgl))
      have HKEY7 : Hid (∀ W6 vE' w7 aT cT, Blk W6 p 76 #[.int .i64 r.f, .slice aT (N + 1) cT, vE, vH] → w7.ownsRow 0 38 1 vE' (N + 1) (us ++ [.slice a n cap]) → W6.grownBy w7 vE.ownBlock → ∃ aE cE, vE' = .slice aE (N + 1) cE ∧ w7.cell? ⟨p, 2, none⟩ = some vE ∧ w7.frozen? ⟨p, 2, none⟩ = false) := fun W6 vE' w7 aT cT k6 o7 g7 => by
        obtain ⟨aE, cE, rfl⟩ := own_slice o7
        have k7 := k6.same (g7.block p k6.lt (fun e => npE e.symm))
        have c2 := k7.cell 2
        simp only [List.getElem?_toArray, List.getElem?_cons_zero, List.getElem?_cons_succ] at c2
        exact ⟨aE, cE, rfl, c2, k7.frozen 2⟩
      clear h h1 h2 h3 h4 h5 h6 h7 hE hf hT hs ht hV hB CT hbig hn' npT npE neET hplt hn64 hokl hN
      go_enter Tryz.func40, Tryz.ntmps40
      go_wp2_with fail
      refine HCT.out.mono ?_
      rintro e w1 ⟨rfl, b1⟩
      have B1 := Lib.hid b1
      go_wp2_with fail
      refine (HAP.out w1 b1).mono ?_
      rintro e w2 ⟨rfl, b2⟩
      have B2 : Hid (Below w.heap.size w w2) := B1.out.trans (b2.mono B1.out.size)
      obtain ⟨c1, HO3⟩ := HKEY2.out w2 B2.out
      clear b1 b2
      go_wp2_with (first
        | (at_builtin; refine wpList_append_own_at _ rfl _ _ 73 rfl 0 9 iS (.string ⟨#[]⟩) 1 16 Tryz.underlying73 hiS sy0 sy1 sy2 rfl (by decide) vT N (strs r.h) rfl HO3.out ⟨w2.heap.size, 0, none⟩ 1 1 [.string t] rfl rfl (cell_one_new _ _ _) (fun x hx => by simp at hx; subst hx; rfl) (by unfold maxLen; omega) (by omega) (Nat.zero_le _) ?_; intro vT' w4 hown4 hgrow4 _ hat4; obtain ⟨aT, cT, rfl, d1, d2, d3, HO6, HK6, HCN6⟩ := HKEY4.out w2 vT' w4 B2.out hown4 hgrow4; have H4 := Lib.hid (And.intro hown4 (And.intro hgrow4 hat4)); clear hown4 hgrow4 hat4)
        | (at_builtin; refine wpList_append_own_at _ rfl _ _ 74 rfl 0 38 iD (.slice none 0 0) 1 24 Tryz.underlying74 hiD dy0 dy1 dy2 rfl (by decide) vE N us rfl HO6.out ⟨w4.heap.size, 0, none⟩ 1 1 [.slice a n cap] rfl rfl HCN6.out (fun x hx => by simp at hx; subst hx; rfl) (by unfold maxLen; omega) (by omega) (Nat.zero_le _) ?_; intro vE' w7 hown7 hgrow7 _ hat7; obtain ⟨aE, cE, rfl, f1, f2⟩ := HKEY7.out _ vE' w7 aT cT HK6.out hown7 hgrow7; have HQ := Lib.hid (HFIN.out w2 _ w4 _ w7 B2.out H4.out.1 H4.out.2.1 H4.out.2.2 hown7 hgrow7 hat7); clear hown7 hgrow7 hat7))
      go_ret
      first | exact ⟨rfl, .inr ⟨trivial, HQ.out⟩⟩ | exact ⟨rfl, .inr ⟨rfl, HQ.out⟩⟩
  · have hq : (V != 0) = true := by simp [hV0]
    rw [if_neg hV0]
    have HV := Lib.hid hV0
    clear h hE hf hT hs ht hV hB CT hn' hV0
    go_enter Tryz.func40, Tryz.ntmps40
    go_wp2_with fail
    refine HCT.out.mono ?_
    rintro e w1 ⟨rfl, b1⟩
    have B1 := Lib.hid b1
    go_wp2_with fail
    refine (HAP.out w1 b1).mono ?_
    rintro e w2 ⟨rfl, b2⟩
    have B2 : Hid (Below w.heap.size w w2) := B1.out.trans (b2.mono B1.out.size)
    clear b1 b2
    go_wp2_with fail
    go_ret
    exact ⟨rfl, .inl ⟨HV.out, B2.out⟩⟩

end Go.Proofs.YtkehgoailhpenaaGreat

/- The contract of the reference's Bytes, with its new block, and of the reference's apply. Conditions: at most 900 versions. -/
namespace Go.Proofs.YtkehgoailhpenaaGreat
open Go.RowKit Go.Shelf Go.Maps
set_option linter.unusedVariables false

set_option maxRecDepth 100000 in
set_option maxHeartbeats 4000000 in
theorem rbytesF_any (s : ByteArray) (a : Option Addr) (n cap : Nat) (es : Nat → PE) (ds : Nat → Ed) (ers : Nat → Int) (w : World) (hs : s.size ≤ 100000) (hn : n ≤ 1000) (hcap : n ≤ cap) (hfit : ∀ k, k < n → (es k).fit) (hc : PCells w.heap.size w a n es) (h : ∀ k, k < n → EdS (sb s) (es k) (ds k) (ers k)) :
    Calls Tryz.prog 66 #[.string s, .slice a n cap] w (BytesPostF n ds ers w) := by
  obtain ⟨i3, hi3, hy0, hy1, hy2⟩ := info_parts infoE
  by_cases hlim : 64 < n
  · have hl2 : (64 : Int) < (n : Int) := by omega
    clear h hc hfit
    go_enter Tryz.func66, Tryz.ntmps66
    go_wp2
    go_ret2
    exact .inl ⟨hlim, Below.refl _ _, rfl⟩
  · have hl2 : ¬ (64 : Int) < (n : Int) := by omega
    obtain ⟨B, hB⟩ : ∃ B, w.heap.size = B := ⟨_, rfl⟩
    rw [hB] at hc
    have hcore : ∃ b off, (n = 0 ∨ (a = some ⟨b, off, none⟩ ∧ b < B)) ∧ ∀ k, k < n → ∀ W, Below B w W → W.cell? ⟨b, off + k * 5, none⟩ = some (.int .i64 (es k).l1) ∧ W.cell? ⟨b, off + k * 5 + 1, none⟩ = some (.int .i64 (es k).u1) ∧ W.cell? ⟨b, off + k * 5 + 2, none⟩ = some (.int .i64 (es k).l2) ∧ W.cell? ⟨b, off + k * 5 + 2 + 1, none⟩ = some (.int .i64 (es k).u2) ∧ W.cell? ⟨b, off + k * 5 + 4, none⟩ = some (.string (es k).t) := by
      rcases hc with h0 | ⟨b, off, ha, hb, hcc⟩
      · exact ⟨0, 0, .inl h0, fun k hk => by omega⟩
      · refine ⟨b, off, .inr ⟨ha, hb⟩, fun k hk W hW => ⟨?_, ?_, ?_, ?_, ?_⟩⟩
        · exact (hW.cell (p := ⟨b, off + k * 5, none⟩) hb).trans (hcc k hk 0 (by omega))
        · exact (hW.cell (p := ⟨b, off + k * 5 + 1, none⟩) hb).trans (hcc k hk 1 (by omega))
        · exact (hW.cell (p := ⟨b, off + k * 5 + 2, none⟩) hb).trans (hcc k hk 2 (by omega))
        · exact (hW.cell (p := ⟨b, off + k * 5 + 2 + 1, none⟩) hb).trans (hcc k hk 3 (by omega))
        · exact (hW.cell (p := ⟨b, off + k * 5 + 4, none⟩) hb).trans (hcc k hk 4 (by omega))
    obtain ⟨b, off, hab, hcell⟩ := hcore
    have HAB := Lib.hid hab; have HC := Lib.hid hcell; have HB := Lib.hid hB; have HS := Lib.hid h; have HF := Lib.hid hfit
    have H0 : Hid (w.ownsRow B 84 3 (.slice none 0 0) 0 (dvals ds 0)) := World.ownsRow_nil _ _ _ _
    clear hc hab hcell hB h hfit
    go_enter Tryz.func66, Tryz.ntmps66
    go_wp2_with fail
    go_loopw [6, 7] (fun v q wr => ∃ (k : Nat) (ov : Value), k ≤ n ∧ q = .int .i64 (k : Int) ∧ v = ov ∧ Hid (∀ j, j < k → ers j = 0) ∧ Hid (wr.ownsRow B 84 3 ov k (dvals ds k)) ∧ Hid (Below B w wr)) (fun _ q _ => n - (intOf q).toNat)
    case atStart => exact ⟨0, _, by omega, rfl, rfl, Lib.hid (fun j h => by omega), H0, Below.refl _ _⟩
    case round =>
      obtain ⟨k, ov, hk, rfl, rfl, HI, HO, HR⟩ := hrel
      by_cases hlt : k < n
      · obtain ⟨ha, hbB⟩ := HAB.out.resolve_left (by omega)
        subst ha
        obtain ⟨c0, c1, _, _, _⟩ := HC.out k hlt wr HR.out
        have hkk : (k : Int) < (n : Int) := by omega
        have hBr : B ≤ wr.heap.size := by have := HR.out.size; have := HB.out; omega
        obtain ⟨o1, e1, o2, e2, h1, h2, hway⟩ := HS.out k hlt
        obtain ⟨fit1, fit2, fit3, fit4⟩ := HF.out k hlt
        have ho1 := off_le h1
        have ho2 := off_le h2
        rw [sb_len] at ho1 ho2
        have C1 := Lib.hid (fun W => roff_at W hs fit1 h1)
        have C2 := Lib.hid (fun W => roff_at W hs fit3 h2)
        have HW := Lib.hid hway
        clear h1 h2 hway fit1 fit2 fit3 fit4
        go_wp2_with fail
        refine (C1.out _).mono ?_
        rintro e w4 ⟨rfl, b4⟩
        have HB4 := Lib.hid b4
        have H4 := Lib.hid (HR.out.trans (b4.mono hBr))
        obtain ⟨_, _, c2, c3, _⟩ := HC.out k hlt w4 H4.out
        have hB4 : B ≤ w4.heap.size := by have := H4.out.size; have := HB.out; omega
        clear b4 c0 c1
        by_cases he1 : e1 = 0
        · have hq1 : (e1 != 0) = false := by simp [he1]
          have HE1 := Lib.hid he1
          clear he1
          go_wp2_with fail
          refine (C2.out _).mono ?_
          rintro e w5 ⟨rfl, b5⟩
          have HB5 := Lib.hid (HB4.out.trans (b5.mono HB4.out.size))
          have H5 := Lib.hid (H4.out.trans (b5.mono hB4))
          obtain ⟨_, _, _, _, c4⟩ := HC.out k hlt w5 H5.out
          have hB5 : B ≤ w5.heap.size := by have := H5.out.size; have := HB.out; omega
          clear b5 c2 c3
          by_cases he2 : e2 = 0
          · have hq2 : (e2 != 0) = false := by simp [he2]
            have HE2 := Lib.hid he2
            clear he2
            by_cases hlo : o2 < o1
            · have hlo2 : (o2 : Int) < (o1 : Int) := by omega
              have her : ers k = 1 := by
                rcases HW.out with ⟨x, _⟩ | ⟨_, x, _⟩ | ⟨_, _, _, x, _⟩ | ⟨_, _, x, _⟩
                · exact absurd HE1.out x
                · exact absurd HE2.out x
                · exact x
                · omega
              have HER := Lib.hid her
              clear her
              go_wp2
              go_ret2
              exact .inr ⟨by omega, by rw [HB.out]; exact H5.out, .inl ⟨1, ⟨k, hlt, HER.out, by decide, HI.out⟩, rfl⟩⟩
            · have hlo2 : ¬ (o2 : Int) < (o1 : Int) := by omega
              have hres : ers k = 0 ∧ ds k = ⟨o1, o2, (es k).t⟩ := by
                rcases HW.out with ⟨x, _⟩ | ⟨_, x, _⟩ | ⟨_, _, x, _⟩ | ⟨_, _, _, x, y⟩
                · exact absurd HE1.out x
                · exact absurd HE2.out x
                · omega
                · exact ⟨x, y⟩
              have HI2 : Hid (∀ j, j < k + 1 → ers j = 0) := by
                intro j hj
                by_cases hjk : j = k
                · subst hjk; exact hres.1
                · exact HI.out j (by omega)
              have hdv : dvals ds (k + 1) = dvals ds k ++ [.int .i64 (o1 : Int), .int .i64 (o2 : Int), .string (es k).t] := by rw [dvals_succ, hres.2]; rfl
              have HDV := Lib.hid hdv
              have HO5 := Lib.hid (own_same HO.out (fun g hg => HB5.out.block g (HO.out.lt g hg).2))
              clear hres hdv
              go_wp2_with (at_builtin; refine wpList_append_own _ rfl _ _ 38 rfl B 84 i3 (.agg #[.int .i64 0, .int .i64 0, .string ⟨#[]⟩]) 3 32 Tryz.underlying38 hi3 hy0 hy1 hy2 rfl (by decide) u6 k (dvals ds k) rfl (HO5.out.alloc _) ⟨w5.heap.size, 0, none⟩ 1 1 [.int .i64 (o1 : Int), .int .i64 (o2 : Int), .string (es k).t] rfl rfl (cells_new _ [.int .i64 (o1 : Int), .int .i64 (o2 : Int), .string (es k).t] _) (fun x hx => by simp at hx; rcases hx with rfl | rfl | rfl <;> rfl) (by unfold maxLen; omega) (by omega) (by simp; omega) ?_; intro v' w6 hown6 hgrow6 _)
              have HO6 : Hid (w6.ownsRow B 84 3 v' (k + 1) (dvals ds (k + 1))) := by rw [HDV.out]; exact hown6
              have H6 : Hid (Below B w w6) := H5.out.trans (((Below.refl _ _).alloc hB5 _).grown hgrow6 (by simp; omega) (fun g eg => (HO5.out.lt g eg).1))
              clear hown6 hgrow6
              go_wp2
              go_roundw
              case rel => exact ⟨k + 1, _, by omega, by go_num, rfl, HI2, HO6, H6⟩
              case measure => simp [intOf]; omega
          · have hq2 : (e2 != 0) = true := by simp [he2]
            have her : ers k = e2 := by
              rcases HW.out with ⟨x, _⟩ | ⟨_, _, x, _⟩ | ⟨_, x, _⟩ | ⟨_, x, _⟩
              · exact absurd HE1.out x
              · exact x
              all_goals exact absurd x he2
            have HER := Lib.hid (And.intro her he2)
            clear her he2
            go_wp2
            go_ret2
            exact .inr ⟨by omega, by rw [HB.out]; exact H5.out, .inl ⟨e2, ⟨k, hlt, HER.out.1, HER.out.2, HI.out⟩, rfl⟩⟩
        · have hq1 : (e1 != 0) = true := by simp [he1]
          have her : ers k = e1 := by
            rcases HW.out with ⟨_, x, _⟩ | ⟨x, _⟩ | ⟨x, _⟩ | ⟨x, _⟩
            · exact x
            all_goals exact absurd x he1
          have HER := Lib.hid (And.intro her he1)
          clear her he1
          go_wp2
          go_ret2
          exact .inr ⟨by omega, by rw [HB.out]; exact H4.out, .inl ⟨e1, ⟨k, hlt, HER.out.1, HER.out.2, HI.out⟩, rfl⟩⟩
      · obtain rfl : n = k := by omega
        have hown := HO.out
        obtain ⟨A8, k8, hv8⟩ := own_slice hown
        subst hv8
        have hE : n ≤ k8 ∧ k8 ≤ 9223372036854775807 ∧ ECells wr.heap.size wr A8 n ds ∧ ∀ b off, A8 = some ⟨b, off, none⟩ → w.heap.size ≤ b := by
          rcases hown.2 with ⟨hv, h0⟩ | ⟨g, cp, cur, hv, _, hg, h1, h2, _, _⟩
          · simp only [Value.slice.injEq] at hv
            obtain ⟨rfl, _, rfl⟩ := hv
            exact ⟨by omega, by omega, .inl h0, fun b off e => by cases e⟩
          · simp only [Value.slice.injEq, true_and] at hv
            obtain ⟨rfl, rfl⟩ := hv
            refine ⟨h1, by unfold maxLen at h2; omega, .inr ⟨g, rfl, (Array.getElem?_eq_some_iff.1 hg).1, fun j hj i hi => ?_⟩, fun b off e => by cases e; have := (hown.lt g rfl).1; rw [HB.out]; exact this⟩
            rw [hown.cellAt (j * 3 + i) (by omega)]
            exact dvals_get ds n j i hj hi
        have HE := Lib.hid hE
        clear hown hE
        go_wp2
        go_ret2
        exact .inr ⟨by omega, by rw [HB.out]; exact HR.out, .inr ⟨HI.out, A8, k8, rfl, HE.out⟩⟩

theorem rdbytes_any (s : ByteArray) (a : Option Addr) (cap : Nat) (ps : List PE) (w : World) (hs : s.size ≤ 100000) (hn : ps.length ≤ 1000) (hfit : ∀ p ∈ ps, p.fit) (hS : PS w.heap.size w a cap ps) :
    Calls Tryz.prog 66 #[.string s, .slice a ps.length cap] w (NewESF w (pL s ps) (pE s ps)) := by
  refine (rbytesF_any s a ps.length cap (pG ps) (fun k => (edD (sb s) (pG ps k)).1) (fun k => (edD (sb s) (pG ps k)).2) w hs hn hS.le (fun k hk => hfit _ (pG_mem hk)) hS.cells (fun k hk => edD_ok _ _)).mono ?_
  intro e w' h
  obtain ⟨m, er, a', cap', rfl, h1, h2, h3, h4, h5, h6⟩ := bytesF_one h
  obtain ⟨rfl, rfl⟩ := pE_det h4
  refine ⟨a', cap', rfl, ⟨h1, h2, ?_, ?_⟩, h6, h5⟩
  · rintro rfl
    rcases h3 with h3 | ⟨g, hg, _⟩
    · exact h3
    · cases hg
  · rcases h3 with h3 | ⟨g, rfl, hg, hc⟩
    · exact .inl h3
    · refine .inr ⟨g, 0, rfl, hg, fun k hk i hi => ?_⟩
      rw [Nat.zero_add, pL_get hk]
      exact hc k hk i hi

end Go.Proofs.YtkehgoailhpenaaGreat

/- The contracts of the reference's apply and Edit. Conditions: at most 900 versions. -/
namespace Go.Proofs.YtkehgoailhpenaaGreat
open Go.RowKit Go.Shelf Go.Maps
set_option linter.unusedVariables false

noncomputable def rapE (r : RS) (ps : List PE) : Int := if pE r.text ps = 0 then becE r (pL r.text ps) else pE r.text ps
noncomputable def rapS (r : RS) (ps : List PE) : RS := becS r (pL r.text ps)
theorem RDocI.tsize {T G : Nat → Prop} {w : World} {p : Nat} {r : RS} (h : RDocI T G w p r) : r.text.size ≤ 4096 := by
  unfold RS.text
  cases hq : r.h.getLast? with
  | none => show (⟨#[]⟩ : ByteArray).size ≤ 4096; decide
  | some x => exact h.ok.text x (List.mem_of_getLast? hq)

set_option maxRecDepth 100000 in
set_option maxHeartbeats 4000000 in
theorem rapp_any (T G : Nat → Prop) (p : Nat) (r : RS) (w : World) (h : RDocI T G w p r) (hlen : r.h.length ≤ 900) (a : Option Addr) (cap : Nat) (ps : List PE) (hP : PS w.heap.size w a cap ps) (hn : ps.length ≤ 64) (hf : ∀ q ∈ ps, q.fit ∧ q.t.size ≤ 100000) :
    Calls Tryz.prog 49 #[.pointer (some ⟨p, 0, none⟩), .slice a ps.length cap] w fun e w' => e = .returned (.int .i64 (rapE r ps)) ∧ ((rapE r ps ≠ 0 ∧ Below w.heap.size w w') ∨ (rapE r ps = 0 ∧ ∃ T' G', RDocI T' G' w' p (rapS r ps) ∧ Stp T G T' G' w w')) := by
  have hts := h.tsize
  obtain ⟨s, hs⟩ : ∃ s, r.text = s := ⟨_, rfl⟩
  have CT := rtxt_any T G p r w h
  rw [hs] at CT hts
  have hE : rapE r ps = if pE s ps = 0 then becE r (pL s ps) else pE s ps := by unfold rapE; rw [hs]
  have hS : rapS r ps = becS r (pL s ps) := by unfold rapS; rw [hs]
  have hfit : ∀ e ∈ pL s ps, e.Fit := pL_fit (by omega) (fun q hq => (hf q hq).2)
  have hll := (pL_len s ps).2
  obtain ⟨es, hes⟩ : ∃ x, pL s ps = x := ⟨_, rfl⟩
  obtain ⟨E, hE1⟩ : ∃ x, pE s ps = x := ⟨_, rfl⟩
  obtain ⟨np, hnp⟩ : ∃ x, ps.length = x := ⟨_, rfl⟩
  obtain ⟨ne, hne⟩ : ∃ x, es.length = x := ⟨_, rfl⟩
  have CB : ∀ W, Below w.heap.size w W → Calls Tryz.prog 66 #[.string s, .slice a np cap] W fun e w' => ∃ a' c', e = .returned (.tuple #[.slice a' ne c', .int .i64 E]) ∧ ES w'.heap.size w' a' c' es ∧ (∀ b, blkOf a' b → W.heap.size ≤ b) ∧ Below W.heap.size W w' := fun W hW => by
    have := rdbytes_any s a cap ps W (by omega) (by omega) (fun q hq => (hf q hq).1) (hP.on hW)
    rw [hes, hE1, hnp] at this
    refine this.mono (fun e w' ⟨a', c', q1, q2, q3, q4⟩ => ⟨a', c', by rw [q1, hne], q2, q3, q4⟩)
  rw [hes, hE1] at hE
  rw [hes] at hS hfit hll
  have CM : ∀ W a' c', Below w.heap.size w W → ES W.heap.size W a' c' es → (∀ b, blkOf a' b → w.heap.size ≤ b) → Calls Tryz.prog 40 #[.pointer (some ⟨p, 0, none⟩), .slice a' ne c'] W fun e w' => e = .returned (.int .i64 (becE r es)) ∧ ((becE r es ≠ 0 ∧ Below W.heap.size W w') ∨ (becE r es = 0 ∧ ∃ T', RDocI T' (addG G ne a') w' p (becS r es) ∧ Only T W w' ∧ ∀ b, T' b → T b ∨ W.heap.size ≤ b)) := fun W a' c' hW hEs hT => by
    have := rbecome_any T G p r W (h.below hW) hlen a' c' es hEs (by omega) hfit (fun b hb hTb => by have := hT b hb; have := h.lt b hTb; omega)
    rwa [hne] at this
  have HCT := Lib.hid CT; have HCB := Lib.hid CB; have HCM := Lib.hid CM
  rw [hE, hS]
  obtain ⟨M, hM⟩ : ∃ x, becE r es = x := ⟨_, rfl⟩
  rw [hM] at HCM ⊢
  rw [hnp]
  clear h hP hf CT CB CM hs hE hS hes hE1 hnp hne hfit hM
  by_cases hE0 : E = 0
  · subst hE0
    rw [if_pos rfl]
    go_enter Tryz.func49, Tryz.ntmps49
    go_wp2_with fail
    refine HCT.out.mono ?_
    rintro e w1 ⟨rfl, b1⟩
    have B1 := Lib.hid b1
    go_wp2_with fail
    refine (HCB.out w1 b1).mono ?_
    rintro e w2 ⟨a', c', rfl, hes2, hbk, b2⟩
    have B2 : Hid (Below w.heap.size w w2) := B1.out.trans (b2.mono B1.out.size)
    have HBK : Hid (∀ b, blkOf a' b → w.heap.size ≤ b) := fun b hb => by have := hbk b hb; have := B1.out.size; omega
    have HC2 := Lib.hid (HCM.out w2 a' c' B2.out hes2 HBK.out)
    clear b1 b2 hes2 hbk
    go_wp2_with fail
    refine HC2.out.mono ?_
    rintro e w3 ⟨rfl, hw⟩
    have HQ : Hid ((M ≠ 0 ∧ Below w.heap.size w w3) ∨ (M = 0 ∧ ∃ T' G', RDocI T' G' w3 p (becS r es) ∧ Stp T G T' G' w w3)) := by
      have hz := B2.out.size
      rcases hw with ⟨q1, q2⟩ | ⟨q1, T', q2, q3, q4⟩
      · exact .inl ⟨q1, B2.out.trans (q2.mono hz)⟩
      · exact .inr ⟨q1, T', _, q2, (Only.of_below B2.out).trans q3, fun b hb => (q4 b hb).imp id (fun h => by omega), fun b hb => hb.imp id (fun h => HBK.out b h.2)⟩
    clear hw
    go_wp2_with fail
    go_ret
    exact ⟨rfl, HQ.out⟩
  · have hq : (E != 0) = true := by simp [hE0]
    rw [if_neg hE0]
    have HE0 := Lib.hid hE0
    clear hE0
    go_enter Tryz.func49, Tryz.ntmps49
    go_wp2_with fail
    refine HCT.out.mono ?_
    rintro e w1 ⟨rfl, b1⟩
    have B1 := Lib.hid b1
    go_wp2_with fail
    refine (HCB.out w1 b1).mono ?_
    rintro e w2 ⟨a', c', rfl, _, _, b2⟩
    have B2 : Hid (Below w.heap.size w w2) := B1.out.trans (b2.mono B1.out.size)
    clear b1 b2
    go_wp2_with fail
    go_ret
    exact ⟨rfl, .inl ⟨HE0.out, B2.out⟩⟩

end Go.Proofs.YtkehgoailhpenaaGreat

/- The contract of the reference's Edit. Conditions: at most 900 versions. -/
namespace Go.Proofs.YtkehgoailhpenaaGreat
open Go.RowKit Go.Shelf Go.Maps
set_option linter.unusedVariables false

def redE (r : RS) (es : List Er) : Int := if 0 < r.hs.length then 23 else if r.v = 1099511627776 then 5 else becE r es
theorem becS_v (r : RS) (es : List Er) : (becS r es).v = r.v + 1 := by unfold RS.v becS; simp; omega
theorem RDocI.hcell {T G : Nat → Prop} {w : World} {p : Nat} {r : RS} (h : RDocI T G w p r) : ∃ aH cH, w.cell? ⟨p, 3, none⟩ = some (.slice aH r.hs.length cH) ∧ p < w.heap.size := by
  obtain ⟨vT, vE, vH, us, hv, h1, h2, h3, h4, h5, h6, h7⟩ := h.mem
  obtain ⟨aH, cH, rfl⟩ := own_slice h5
  have c3 := h1.cell 3
  simp only [List.getElem?_toArray, List.getElem?_cons_zero, List.getElem?_cons_succ] at c3
  exact ⟨aH, cH, c3, h1.lt⟩

set_option maxRecDepth 100000 in
set_option maxHeartbeats 4000000 in
theorem redit_any (T G : Nat → Prop) (p : Nat) (r : RS) (w : World) (h : RDocI T G w p r) (hlen : r.h.length ≤ 900) (a : Option Addr) (cap : Nat) (es : List Er) (hE : ES w.heap.size w a cap es) (hn : es.length ≤ 1000) (hf : ∀ e ∈ es, e.Fit) (hT : ∀ b, blkOf a b → ¬ T b) :
    Calls Tryz.prog 15 #[.pointer (some ⟨p, 0, none⟩), .slice a es.length cap] w fun e w' =>
      (redE r es ≠ 0 ∧ e = .returned (.tuple #[.int .i64 0, .int .i64 (redE r es)]) ∧ Below w.heap.size w w') ∨
      (redE r es = 0 ∧ e = .returned (.tuple #[.int .i64 (r.v + 1), .int .i64 0]) ∧ ∃ T', RDocI T' (addG G es.length a) w' p (becS r es) ∧ Only T w w' ∧ ∀ b, T' b → T b ∨ w.heap.size ≤ b) := by
  obtain ⟨aH, cH, c3, hplt⟩ := h.hcell
  have hl16 := h.ok.hlen
  obtain ⟨nH, hnH⟩ : ∃ x, r.hs.length = x := ⟨_, rfl⟩
  rw [hnH] at c3 hl16
  have CV := rversion_any T G p r w h
  obtain ⟨v, hv⟩ : ∃ x, r.v = x := ⟨_, rfl⟩
  obtain ⟨n, hn'⟩ : ∃ x, es.length = x := ⟨_, rfl⟩
  obtain ⟨M, hM⟩ : ∃ x, becE r es = x := ⟨_, rfl⟩
  have hR : redE r es = if 0 < nH then 23 else if v = 1099511627776 then 5 else M := by unfold redE; rw [hnH, hv, hM]
  have HCM : Hid (∀ W, Below w.heap.size w W → Calls Tryz.prog 40 #[.pointer (some ⟨p, 0, none⟩), .slice a n cap] W fun e w' => e = .returned (.int .i64 M) ∧ ((M ≠ 0 ∧ Below W.heap.size W w') ∨ (M = 0 ∧ ∃ T', RDocI T' (addG G n a) w' p (becS r es) ∧ Only T W w' ∧ ∀ b, T' b → T b ∨ W.heap.size ≤ b))) := fun W hW => by
    have := rbecome_any T G p r W (h.below hW) hlen a cap es (hE.on hW) hn hf hT
    rwa [hn', hM] at this
  have HVE : Hid (∀ T' G' W, RDocI T' G' W p (becS r es) → Calls Tryz.prog 39 #[.pointer (some ⟨p, 0, none⟩)] W fun e w' => e = .returned (.int .i64 (v + 1)) ∧ Below W.heap.size W w') := fun T' G' W h' => by
    have := rversion_any T' G' p _ W h'
    rwa [becS_v, hv] at this
  rw [hv] at CV
  have HCV := Lib.hid CV
  rw [hR, hn', hv]
  have HV := Lib.hid hv
  clear h hE hf hT CV hnH hn' hM hR hv
  by_cases h1 : 0 < nH
  · have h2 : (0 : Int) < (nH : Int) := by omega
    rw [if_pos h1]
    clear h1
    go_enter Tryz.func15, Tryz.ntmps15
    go_wp2
    go_ret2
    first | exact .inl ⟨by decide, rfl, Below.refl _ _⟩ | exact ⟨rfl, Below.refl _ _⟩
  · have h2 : ¬ (0 : Int) < (nH : Int) := by omega
    rw [if_neg h1]
    by_cases h3 : v = 1099511627776
    · have h4 : (v == 1099511627776) = true := by simp [h3]
      rw [if_pos h3]
      clear h1 h3
      go_enter Tryz.func15, Tryz.ntmps15
      go_wp2_with fail
      refine HCV.out.mono ?_
      rintro e w1 ⟨rfl, b1⟩
      have B1 := Lib.hid b1
      clear b1
      go_wp2_with fail
      go_ret2
      first | exact .inl ⟨by decide, rfl, B1.out⟩ | exact ⟨rfl, B1.out⟩
    · have h4 : (v == 1099511627776) = false := by simp [h3]
      rw [if_neg h3]
      clear h1 h3
      go_enter Tryz.func15, Tryz.ntmps15
      go_wp2_with fail
      refine HCV.out.mono ?_
      rintro e w1 ⟨rfl, b1⟩
      have B1 := Lib.hid b1
      have HM1 := Lib.hid (HCM.out w1 b1)
      clear b1
      go_wp2_with fail
      refine HM1.out.mono ?_
      rintro e w2 ⟨rfl, hw⟩
      rcases hw with ⟨q1, q2⟩ | ⟨q1, T', q2, q3, q4⟩
      · have h5 : (M != 0) = true := by simp [q1]
        have HQ := Lib.hid (And.intro q1 (B1.out.trans (q2.mono B1.out.size)))
        clear q1 q2
        go_wp2_with fail
        go_ret2
        exact .inl ⟨HQ.out.1, rfl, HQ.out.2⟩
      · subst q1
        have HD2 := Lib.hid q2
        have HO2 : Hid (Only T w w2 ∧ ∀ b, T' b → T b ∨ w.heap.size ≤ b) := ⟨(Only.of_below B1.out).trans q3, fun b hb => (q4 b hb).imp id (fun h => by have := B1.out.size; omega)⟩
        have HV2 := Lib.hid (HVE.out T' _ w2 q2)
        clear q2 q3 q4
        go_wp2_with fail
        refine HV2.out.mono ?_
        rintro e w3 ⟨rfl, b3⟩
        have HD3 := Lib.hid (HD2.out.below b3)
        have HO3 : Hid (Only T w w3) := HO2.out.1.trans (Only.of_below b3)
        clear b3
        go_wp2_with fail
        go_ret2
        first | exact .inr ⟨trivial, rfl, T', HD3.out, HO3.out, HO2.out.2⟩ | exact .inr ⟨rfl, rfl, T', HD3.out, HO3.out, HO2.out.2⟩ | exact ⟨rfl, T', HD3.out, HO3.out, HO2.out.2⟩

end Go.Proofs.YtkehgoailhpenaaGreat

/- The reference's Receive as a function, and the two documents side by side: mathematics. It has no conditions. -/
namespace Go.Proofs.YtkehgoailhpenaaGreat
open Go.RowKit Go.Shelf Go.Maps
set_option linter.unusedVariables false

def heldI (hs : List (Int × List PE)) (k : Int) : List PE := (hs[(findI hs k 0).toNat]?.getD (0, [])).2
def rdropH (r : RS) : RS := ⟨r.f, r.h, r.hs.eraseIdx (findI r.hs (r.v + 1) 0).toNat⟩
def rholdS (r : RS) (k : Int) (ps : List PE) : RS := ⟨r.f, r.h, r.hs ++ [(k, ps)]⟩
/-- How many held changes the reference applies, and its state behind them. -/
noncomputable def rhldF : Nat → RS → Nat × RS
  | 0, r => (0, r)
  | f + 1, r => if 0 ≤ findI r.hs (r.v + 1) 0 then (if rapE (rdropH r) (heldI r.hs (r.v + 1)) = 0 then ((rhldF f (rapS (rdropH r) (heldI r.hs (r.v + 1)))).1 + 1, (rhldF f (rapS (rdropH r) (heldI r.hs (r.v + 1)))).2) else (0, rdropH r)) else (0, r)
/-- What the reference's Receive answers, and the state behind it. -/
noncomputable def rrcvF (r : RS) (k : Int) (ps : List PE) : (Int × Int) × RS :=
  if k < 1 ∨ 1099511627776 < k then ((0, 1), r)
  else if 64 < ps.length then ((0, 4), r)
  else if k ≤ r.v ∨ 0 ≤ findI r.hs k 0 then ((0, 8), r)
  else if r.v + 1 < k then (if 16 ≤ r.hs.length then ((0, 4), r) else ((0, 0), rholdS r k ps))
  else if rapE r ps ≠ 0 then ((0, rapE r ps), r)
  else ((1 + ((rhldF r.hs.length (rapS r ps)).1 : Int), 0), (rhldF r.hs.length (rapS r ps)).2)

theorem delH_none {hs : List (Int × List PE)} {k : Int} (h : k ∉ hs.map Prod.fst) : delH hs k = hs := by
  unfold delH
  rw [List.filter_eq_self]
  intro x hx
  simp only [decide_eq_true_eq]
  intro e
  exact h (List.mem_map.2 ⟨x, hx, e⟩)
theorem findI_spec (k : Int) : ∀ (hs : List (Int × List PE)) (i : Nat),
    (k ∈ hs.map Prod.fst ∧ ∃ j, j < hs.length ∧ findI hs k i = (i : Int) + j ∧ (hs[j]?.getD (0, [])).2 = lookH hs k ∧ ((hs.map Prod.fst).Nodup → hs.eraseIdx j = delH hs k)) ∨ (k ∉ hs.map Prod.fst ∧ findI hs k i = -1) := by
  intro hs
  induction hs with
  | nil => intro i; exact .inr ⟨by simp, rfl⟩
  | cons x l ih =>
    intro i
    by_cases e : x.1 = k
    · refine .inl ⟨by simp [e], 0, by simp, by simp only [findI]; rw [if_pos e]; omega, ?_, fun hn => ?_⟩
      · unfold lookH
        rw [List.find?_cons_of_pos (by simp [e])]
        rfl
      · rw [List.map_cons, List.nodup_cons] at hn
        have h1 : delH (x :: l) k = delH l k := by unfold delH; rw [List.filter_cons_of_neg (by simp [e])]
        rw [h1, delH_none (by rw [← e]; exact hn.1)]
        rfl
    · have h0 : lookH (x :: l) k = lookH l k := by unfold lookH; rw [List.find?_cons_of_neg (by simp [e])]
      have h1 : delH (x :: l) k = x :: delH l k := by unfold delH; rw [List.filter_cons_of_pos (by simp [e])]
      have h2 : findI (x :: l) k i = findI l k (i + 1) := by simp only [findI]; rw [if_neg e]
      rcases ih (i + 1) with ⟨q1, j, q2, q3, q4, q5⟩ | ⟨q1, q2⟩
      · refine .inl ⟨by rw [List.map_cons]; exact List.mem_cons_of_mem _ q1, j + 1, by simp; omega, by rw [h2, q3]; omega, by rw [h0, ← q4]; simp, fun hn => ?_⟩
        rw [List.map_cons, List.nodup_cons] at hn
        rw [h1, ← q5 hn.2]; rfl
      · refine .inr ⟨?_, by rw [h2, q2]⟩
        rw [List.map_cons, List.mem_cons]
        rintro (h | h)
        · exact e h.symm
        · exact q1 h
theorem findI_mem (hs : List (Int × List PE)) (k : Int) : 0 ≤ findI hs k 0 ↔ k ∈ hs.map Prod.fst := by
  rcases findI_spec k hs 0 with ⟨q1, j, _, q3, _, _⟩ | ⟨q1, q2⟩
  · exact ⟨fun _ => q1, fun _ => by omega⟩
  · exact ⟨fun h => by omega, fun h => absurd h q1⟩
theorem heldI_look {hs : List (Int × List PE)} {k : Int} (h : k ∈ hs.map Prod.fst) : heldI hs k = lookH hs k := by
  rcases findI_spec k hs 0 with ⟨q1, j, _, q3, q4, _⟩ | ⟨q1, q2⟩
  · unfold heldI; rw [q3, show ((0 : Nat) + (j : Int)).toNat = j by omega]; exact q4
  · exact absurd h q1
theorem eraseI_del {hs : List (Int × List PE)} {k : Int} (h : k ∈ hs.map Prod.fst) (hn : (hs.map Prod.fst).Nodup) : hs.eraseIdx (findI hs k 0).toNat = delH hs k := by
  rcases findI_spec k hs 0 with ⟨q1, j, _, q3, _, q5⟩ | ⟨q1, q2⟩
  · rw [q3, show ((0 : Nat) + (j : Int)).toNat = j by omega]; exact q5 hn
  · exact absurd h q1
theorem delH_nodup {hs : List (Int × List PE)} (k : Int) (hn : (hs.map Prod.fst).Nodup) : ((delH hs k).map Prod.fst).Nodup := by
  unfold delH
  exact (List.Sublist.map Prod.fst List.filter_sublist).nodup hn

/-- The document and the reference's: the same version, the same text, the same held changes. -/
structure Sim (s : DS) (r : RS) : Prop where
  v : s.v = r.v
  t : s.text = r.text
  hs : s.hs = r.hs
  hn : (s.hs.map Prod.fst).Nodup
theorem becS_text (r : RS) (es : List Er) : (becS r es).text = apS r.text es := by unfold becS; simp [RS.text]
theorem advS_txt (s : DS) (es : List Er) : (advS s es).text = apS s.text es := by
  show (((remS (s.ss.set (s.ss.length - 1) (s.text, es)) (apS s.text es)).getLast?).getD (⟨#[]⟩, [])).1 = _
  rw [remS_text]; rfl
theorem Sim.advE {s : DS} {r : RS} (h : Sim s r) (es : List Er) : advE s es = becE r es := by unfold Go.Proofs.YtkehgoailhpenaaGreat.advE becE; rw [h.t]
theorem Sim.adv {s : DS} {r : RS} (h : Sim s r) (es : List Er) : Sim (advS s es) (becS r es) :=
  ⟨by rw [becS_v, ← h.v]; rfl, by rw [advS_txt, becS_text, h.t], h.hs, h.hn⟩
theorem Sim.edtE {s : DS} {r : RS} (h : Sim s r) (es : List Er) : (if 0 < s.hs.length then (23 : Int) else if s.v = 1099511627776 then 5 else Go.Proofs.YtkehgoailhpenaaGreat.advE s es) = redE r es := by unfold redE; rw [h.hs, h.v, h.advE]
theorem Sim.aplE {s : DS} {r : RS} (h : Sim s r) (ps : List PE) : aplE s ps = rapE r ps := by unfold Go.Proofs.YtkehgoailhpenaaGreat.aplE rapE; rw [h.t, h.advE]
theorem Sim.apl {s : DS} {r : RS} (h : Sim s r) (ps : List PE) : Sim (aplS s ps) (rapS r ps) := by
  unfold aplS rapS; rw [h.t]; exact h.adv _
theorem Sim.drop {s : DS} {r : RS} (h : Sim s r) (hk : (s.v + 1) ∈ s.hs.map Prod.fst) : Sim (dropH s) (rdropH r) := by
  refine ⟨h.v, h.t, ?_, delH_nodup _ h.hn⟩
  show delH s.hs (s.v + 1) = r.hs.eraseIdx (findI r.hs (r.v + 1) 0).toNat
  rw [← h.hs, ← h.v, eraseI_del hk h.hn]
theorem Sim.hld : ∀ (f : Nat) {s : DS} {r : RS}, Sim s r → (hldF f s).1 = (rhldF f r).1 ∧ Sim (hldF f s).2 (rhldF f r).2 := by
  intro f
  induction f with
  | zero => intro s r h; exact ⟨rfl, h⟩
  | succ f ih =>
    intro s r h
    simp only [hldF, rhldF]
    by_cases hk : (s.v + 1) ∈ s.hs.map Prod.fst
    · have hd := h.drop hk
      have h2 : 0 ≤ findI r.hs (r.v + 1) 0 := by rw [findI_mem, ← h.hs, ← h.v]; exact hk
      have h3 : heldI r.hs (r.v + 1) = lookH s.hs (s.v + 1) := by rw [← h.hs, ← h.v]; exact heldI_look hk
      rw [if_pos hk, if_pos h2, h3, hd.aplE]
      split
      · obtain ⟨q1, q2⟩ := ih (hd.apl (lookH s.hs (s.v + 1)))
        exact ⟨by simp only; rw [q1], q2⟩
      · exact ⟨rfl, hd⟩
    · have h2 : ¬ 0 ≤ findI r.hs (r.v + 1) 0 := by rw [findI_mem, ← h.hs, ← h.v]; exact hk
      rw [if_neg hk, if_neg h2]
      exact ⟨rfl, h⟩
theorem Sim.rcv {s : DS} {r : RS} (h : Sim s r) (k : Int) (ps : List PE) : (rcvF s k ps).1 = (rrcvF r k ps).1 ∧ Sim (rcvF s k ps).2 (rrcvF r k ps).2 := by
  have hf : (0 ≤ findI r.hs k 0) ↔ k ∈ s.hs.map Prod.fst := by rw [findI_mem, h.hs]
  unfold rcvF rrcvF chkE
  rw [← h.v, ← h.hs, ← h.aplE]
  rw [← h.hs] at hf
  by_cases h1 : k < 1 ∨ 1099511627776 < k
  · simp only [if_pos h1]; simp; exact h
  · simp only [if_neg h1]
    by_cases h2 : 64 < ps.length
    · simp only [if_pos h2]; simp; exact h
    · simp only [if_neg h2]
      by_cases h3 : k ≤ s.v ∨ k ∈ s.hs.map Prod.fst
      · have h3' : k ≤ s.v ∨ 0 ≤ findI s.hs k 0 := by rw [hf]; exact h3
        simp only [if_pos h3, if_pos h3']; simp; exact h
      · have h3' : ¬ (k ≤ s.v ∨ 0 ≤ findI s.hs k 0) := by rw [hf]; exact h3
        rw [if_neg h3, if_neg h3']
        by_cases h4 : s.v + 1 < k
        · by_cases h5 : 16 ≤ s.hs.length
          · have hc : (if s.v + 1 < k ∧ 16 ≤ s.hs.length then (4 : Int) else 0) = 4 := if_pos ⟨h4, h5⟩
            rw [hc, if_pos (by decide), if_pos h4, if_pos h5]; exact ⟨rfl, h⟩
          · have hc : (if s.v + 1 < k ∧ 16 ≤ s.hs.length then (4 : Int) else 0) = 0 := if_neg (fun q => h5 q.2)
            rw [hc, if_neg (by decide), if_pos h4, if_pos h4, if_neg h5]
            refine ⟨rfl, ⟨h.v, h.t, by show s.hs ++ _ = r.hs ++ _; rw [h.hs], ?_⟩⟩
            show ((s.hs ++ [(k, ps)]).map Prod.fst).Nodup
            rw [List.map_append, List.nodup_append]
            refine ⟨h.hn, by simp, fun a ha b hb e => ?_⟩
            simp at hb
            subst hb; subst e
            exact h3 (.inr ha)
        · have hc : (if s.v + 1 < k ∧ 16 ≤ s.hs.length then (4 : Int) else 0) = 0 := if_neg (fun q => h4 q.1)
          rw [hc, if_neg (by decide), if_neg h4, if_neg h4]
          by_cases h6 : Go.Proofs.YtkehgoailhpenaaGreat.aplE s ps ≠ 0
          · rw [if_pos h6, if_pos h6]; exact ⟨rfl, h⟩
          · rw [if_neg h6, if_neg h6]
            obtain ⟨q1, q2⟩ := Sim.hld s.hs.length (h.apl ps)
            exact ⟨by simp only; rw [q1], q2⟩

/-- The states of the document as the reference's history tells them: each text with the edits that lead away from it. -/
def shiftH : List (ByteArray × List Er) → List (ByteArray × List Er)
  | [] => []
  | [x] => [(x.1, [])]
  | x :: y :: l => (x.1, y.2) :: shiftH (y :: l)
theorem shiftH_len : ∀ (h : List (ByteArray × List Er)), (shiftH h).length = h.length
  | [] => rfl
  | [x] => rfl
  | x :: y :: l => by show (shiftH (y :: l)).length + 1 = _; rw [shiftH_len (y :: l)]; rfl
theorem shiftH_snoc : ∀ (h : List (ByteArray × List Er)) (t : ByteArray) (es : List Er), h ≠ [] → shiftH (h ++ [(t, es)]) = (shiftH h).set (h.length - 1) ((h.getLast?.getD (⟨#[]⟩, [])).1, es) ++ [(t, [])]
  | [], _, _, hh => absurd rfl hh
  | [x], t, es, _ => rfl
  | x :: y :: l, t, es, _ => by
    have ih := shiftH_snoc (y :: l) t es (by simp)
    show (x.1, y.2) :: shiftH ((y :: l) ++ [(t, es)]) = _
    rw [ih]
    rw [show (x :: y :: l).getLast? = (y :: l).getLast? by simp [List.getLast?_cons_cons]]
    rfl
/-- The document remembers the last 17 states of the reference's history. -/
def Hist (s : DS) (r : RS) : Prop := s.ss = (shiftH r.h).drop (r.h.length - 17)
theorem Hist.adv {s : DS} {r : RS} (h : Hist s r) (ht : s.text = r.text) (hne : r.h ≠ []) (es : List Er) : Hist (advS s es) (becS r es) := by
  have hl := shiftH_len r.h
  have hpos : 0 < r.h.length := List.length_pos_iff.2 hne
  have hsl : s.ss.length = r.h.length - (r.h.length - 17) := by rw [h, List.length_drop, hl]
  unfold Hist
  show remS (s.ss.set (s.ss.length - 1) (s.text, es)) (apS s.text es) = (shiftH (r.h ++ [(apS r.text es, es)])).drop ((r.h ++ [(apS r.text es, es)]).length - 17)
  rw [shiftH_snoc _ _ _ hne, ← ht]
  have h2 : (r.h.getLast?.getD (⟨#[]⟩, [])).1 = s.text := ht.symm
  rw [h2, List.length_append, List.length_singleton]
  have h3 : s.ss.set (s.ss.length - 1) (s.text, es) = ((shiftH r.h).set (r.h.length - 1) (s.text, es)).drop (r.h.length - 17) := by
    rw [hsl, h, List.drop_set, if_neg (by omega)]
    congr 1
    omega
  have h4 : (s.ss.set (s.ss.length - 1) (s.text, es)).length = s.ss.length := by simp
  unfold remS
  rw [h4, h3, hsl]
  rw [List.drop_append_of_le_length (by rw [List.length_set, hl]; omega)]
  by_cases hc : 17 ≤ r.h.length
  · rw [if_pos (by omega), List.drop_drop]
    congr 2
    omega
  · rw [if_neg (by omega)]
    congr 2
    omega

end Go.Proofs.YtkehgoailhpenaaGreat

/- The contracts of the reference's known and At. It has no conditions. -/
namespace Go.Proofs.YtkehgoailhpenaaGreat
open Go.RowKit Go.Shelf Go.Maps
set_option linter.unusedVariables false

def Kn (r : RS) (x : Int) : Prop := r.f ≤ x ∧ x ≤ r.v ∧ r.v - 16 ≤ x
instance (r : RS) (x : Int) : Decidable (Kn r x) := by unfold Kn; infer_instance

end Go.Proofs.YtkehgoailhpenaaGreat

/- A store to what the reference's document holds. It has no conditions. -/
namespace Go.Proofs.YtkehgoailhpenaaGreat
open Go.RowKit Go.Shelf Go.Maps
set_option linter.unusedVariables false

/-- The field Held is stored anew: the other lists stay. -/
theorem RDocI.setHeld {T G G' : Nat → Prop} {w w7 : World} {p : Nat} {r : RS} (h : RDocI T G w p r) {hs' : List (Int × List PE)} {hv' : List (Int × Value)} {vH vH' : Value}
    (hc : w.cell? ⟨p, 3, none⟩ = some vH) (hO : Only T w w7) (hsame : ∀ b, b < w.heap.size → vH.ownBlock ≠ some b → w7.heap[b]? = w.heap[b]?)
    (o7 : w7.ownsRow 0 47 2 vH' hs'.length (cv hv')) (a7 : vH'.ownBlock = vH.ownBlock ∨ ∀ b, vH'.ownBlock = some b → w.heap.size ≤ b)
    (h6' : HeldA G' w7 hv' hs') (hGG : ∀ b, G b → G' b) (hG' : ∀ b, G' b → b < w.heap.size ∧ ¬ T b)
    (k1 : hs'.length ≤ 16) (k2 : ∀ x ∈ hs', x.2.length ≤ 64 ∧ ∀ q ∈ x.2, q.fit ∧ q.t.size ≤ 100000) (k3 : ∀ x ∈ hs', 1 ≤ x.1 ∧ x.1 ≤ 1099511627776) :
    ∃ T', RDocI T' G' (w7.setCell ⟨p, 3, none⟩ vH') p ⟨r.f, r.h, hs'⟩ ∧ Only T w (w7.setCell ⟨p, 3, none⟩ vH') ∧ ∀ b, T' b → T b ∨ w.heap.size ≤ b := by
  obtain ⟨vT, vE, vH0, us, hv, h1, h2, h3, h4, h5, h6, h7⟩ := h.mem
  have c3 := h1.cell 3
  simp only [List.getElem?_toArray, List.getElem?_cons_zero, List.getElem?_cons_succ] at c3
  rw [hc] at c3
  simp only [Option.some.injEq] at c3
  subst c3
  obtain ⟨W8, hW8⟩ : ∃ W, w7.setCell ⟨p, 3, none⟩ vH' = W := ⟨_, rfl⟩
  rw [hW8]
  have hplt := h1.lt
  have hz := hO.size
  have z8 : W8.heap.size = w7.heap.size := by rw [← hW8]; simp [World.setCell]
  have npT := own_neB h2 h1 (by decide)
  have npE := own_neB h3 h1 (by decide)
  have npH := own_neB h5 h1 (by decide)
  have e78 : ∀ b, b ≠ p → W8.heap[b]? = w7.heap[b]? := fun b hne => by rw [← hW8]; exact Below.heap_setCell _ _ _ _ (fun e => hne e)
  have e08 : ∀ b, b < w.heap.size → b ≠ p → vH.ownBlock ≠ some b → W8.heap[b]? = w.heap[b]? := fun b hlt hp hne => (e78 b hp).trans (hsame b hlt hne)
  have kp : Blk W8 p 76 #[.int .i64 r.f, vT, vE, vH'] := by rw [← hW8]; exact (h1.same (hsame p hplt npH)).set 3 vH'
  have r1 : W8.ownsRow 0 9 1 vT r.h.length (strs r.h) := own_same h2 (fun g hg => e08 g (h2.lt g hg).2 (fun e => npT (by rw [hg, e])) (own_neR h2 h5 (by decide) hg))
  have r2 : W8.ownsRow 0 38 1 vE r.h.length us := own_same h3 (fun g hg => e08 g (h3.lt g hg).2 (fun e => npE (by rw [hg, e])) (own_neR h3 h5 (by decide) hg))
  have r3 : W8.ownsRow 0 47 2 vH' hs'.length (cv hv') := own_same o7 (fun g hg => e78 g (by
    rcases a7 with e | e
    · exact fun e' => npH (by rw [← e, hg, e'])
    · have := e g hg; omega))
  have hGk : ∀ b, G b → b < w.heap.size → W8.heap[b]? = w.heap[b]? := fun b hG hlt => e08 b hlt (fun e => h.apart b (e ▸ h.tp) hG) (fun e => h.apart b (h7 b (.inr (.inr e))) hG)
  refine ⟨fun b => T b ∨ (w.heap.size ≤ b ∧ b < W8.heap.size), ⟨⟨h.ok.f0, h.ok.f1, h.ok.ne, h.ok.len, h.ok.text, h.ok.eds, k1, k2, k3⟩, ⟨vT, vE, vH', us, hv', kp, r1, r2, All2.keep h4 (by omega) hGk hGG, r3, h6'.keep (by omega) (fun b hb hlt => e78 b (fun e => (hG' b hb).2 (e ▸ h.tp))) (fun _ h => h), ?_⟩, .inl h.tp, ?_, ?_, ?_⟩, ?_, fun b hb => hb.imp id (fun h => h.1)⟩
  · intro b hb
    rcases hb with hb | hb | hb
    · exact .inl (h7 b (.inl hb))
    · exact .inl (h7 b (.inr (.inl hb)))
    · rcases a7 with e | e
      · exact .inl (h7 b (.inr (.inr (by rw [← e]; exact hb))))
      · have := (o7.lt b hb).2
        exact .inr ⟨e b hb, by omega⟩
  · intro b hb
    rcases hb with hb | hb
    · have := h.lt b hb; omega
    · exact hb.2
  · intro b hb
    have := (hG' b hb).1; omega
  · intro b hb hg
    rcases hb with hb | hb
    · exact (hG' b hg).2 hb
    · have := (hG' b hg).1; omega
  · rw [← hW8]; exact hO.setCell (p := ⟨p, 3, none⟩) (.inr h.tp) _
/-- A change joins those that are held. -/
theorem HeldA.snoc {G : Nat → Prop} {w : World} {vs : List (Int × Value)} {As : List (Int × List PE)} (h : HeldA G w vs As) {x : Int} {u : Value} {ps : List PE} (hu : PsG G w u ps) : HeldA G w (vs ++ [(x, u)]) (As ++ [(x, ps)]) := by
  have hl := h.1
  refine ⟨by simp [hl], fun k y hk => ?_⟩
  by_cases e : k < As.length
  · rw [List.getElem?_append_left e] at hk
    rw [cG_app1 (by omega)]
    exact h.2 k y hk
  · have hk2 := (List.getElem?_eq_some_iff.1 hk).1
    simp at hk2
    have : k = As.length := by omega
    subst this
    simp at hk
    subst hk
    rw [← hl, cG_app2]
    exact ⟨rfl, hu⟩
/-- One of the held changes is taken out. -/
theorem HeldA.erase {G : Nat → Prop} {w : World} {vs : List (Int × Value)} {As : List (Int × List PE)} (h : HeldA G w vs As) (i : Nat) : HeldA G w (vs.eraseIdx i) (As.eraseIdx i) := by
  have hl := h.1
  refine ⟨by rw [List.length_eraseIdx, List.length_eraseIdx, hl], fun k y hk => ?_⟩
  rw [List.getElem?_eraseIdx] at hk
  unfold cG
  rw [List.getElem?_eraseIdx]
  by_cases e : k < i
  · rw [if_pos e] at hk ⊢
    exact h.2 k y hk
  · rw [if_neg e] at hk ⊢
    exact h.2 (k + 1) y hk
/-- The two appends of the reference's Receive leave the row without the i-th. -/
theorem cv_erase (vs : List (Int × Value)) (i : Nat) : cv (vs.eraseIdx i) = cv (vs.take i) ++ cv (vs.drop (i + 1)) := by
  rw [← cv_app, List.eraseIdx_eq_take_drop_succ]

end Go.Proofs.YtkehgoailhpenaaGreat

/- The contracts of the reference's Version and find, as calls that only read. It has no conditions. -/
namespace Go.Proofs.YtkehgoailhpenaaGreat
open Go.RowKit Go.Shelf Go.Maps
set_option linter.unusedVariables false

set_option maxRecDepth 100000 in
set_option maxHeartbeats 1000000 in
theorem rversion_q (T G : Nat → Prop) (p : Nat) (r : RS) (w : World) (h : RDocI T G w p r) :
    Calls Tryz.prog 39 #[.pointer (some ⟨p, 0, none⟩)] w fun e w' => e = .returned (.int .i64 r.v) ∧ ∃ m, w' = w.drewN m := by
  have hl := h.ok.len
  have hf0 := h.ok.f0
  have hf1 := h.ok.f1
  obtain ⟨g, cap, n, vE, vH, h1, h2, c0, c1, _, _, _, _, _⟩ := h.cells
  have hv : r.v = r.f + (n : Int) := by unfold RS.v; omega
  rw [hv]
  obtain ⟨N, hN⟩ : ∃ N, n + 1 = N := ⟨_, rfl⟩
  rw [hN] at c1 h1 h2
  obtain ⟨f, hf⟩ : ∃ f, r.f = f := ⟨_, rfl⟩
  rw [hf] at c0 hf0 hf1 ⊢
  have hj1 : IntKind.i64.wrap (f + (N : Int)) = f + (N : Int) := by simp [IntKind.wrap, IntKind.signed, IntKind.bits]; omega
  have hj2 : IntKind.i64.wrap (f + (N : Int) - 1) = f + (n : Int) := by simp [IntKind.wrap, IntKind.signed, IntKind.bits]; omega
  clear h h1 hN hv hf
  go_enter Tryz.func39, Tryz.ntmps39
  go_wp2_with fail
  go_quiet (fail)
  go_wp2
  go_ret
  exact ⟨rfl, _, rfl⟩

set_option maxRecDepth 100000 in
set_option maxHeartbeats 2000000 in
theorem rfind_q (T G : Nat → Prop) (p : Nat) (r : RS) (k : Int) (w : World) (h : RDocI T G w p r) :
    Calls Tryz.prog 48 #[.pointer (some ⟨p, 0, none⟩), .int .i64 k] w fun e w' => e = .returned (.int .i64 (findI r.hs k 0)) ∧ w' = w := by
  have hl := h.ok.hlen
  obtain ⟨vT, vE, vH, us, hv, h1, h2, h3, h4, h5, h6, h7⟩ := h.mem
  have c3 := h1.cell 3
  simp only [List.getElem?_toArray, List.getElem?_cons_zero, List.getElem?_cons_succ] at c3
  obtain ⟨n, hn⟩ : ∃ n, r.hs.length = n := ⟨_, rfl⟩
  have hvl : hv.length = n := by rw [h6.1, hn]
  rw [hn] at h5 hl
  obtain ⟨_, av, cv9, rfl, hVS, _, _⟩ := vs_of_own h5
  rw [hvl] at c3
  have hplt := h1.lt
  have HC : Hid (∀ i, i < n → ∃ b off, av = some ⟨b, off, none⟩ ∧ b < w.heap.size ∧ w.cell? ⟨b, off + i * 2, none⟩ = some (.int .i64 ((r.hs[i]?.getD (0, [])).1))) := fun i hi => by
    obtain ⟨b, off, q1, q2, q3⟩ := hVS.cells.resolve_left (by omega)
    have h8 := (q3 i (by omega)).1
    have hi' : i < r.hs.length := by omega
    rw [(h6.2 i _ (List.getElem?_eq_getElem hi')).1] at h8
    refine ⟨b, off, q1, q2, ?_⟩
    rw [h8, List.getElem?_eq_getElem hi']; rfl
  obtain ⟨R, hR⟩ : ∃ x, findI r.hs k 0 = x := ⟨_, rfl⟩
  rw [hR]
  have HR := Lib.hid hR; have HN := Lib.hid hn
  clear h h1 h2 h3 h4 h5 h6 h7 hR hn hvl hVS
  go_enter Tryz.func48, Tryz.ntmps48
  go_wp2_with fail
  go_loopw [5] (fun q wr => ∃ (i : Nat), q = .int .i64 (i : Int) ∧ i ≤ n ∧ Hid (∀ j, j < i → (r.hs[j]?.getD (0, [])).1 ≠ k) ∧ wr = w) (fun q _ => n - (intOf q).toNat)
  case atStart => exact ⟨0, rfl, by omega, Lib.hid (fun j h => by omega), rfl⟩
  case round =>
    obtain ⟨i, rfl, hi, HJ, rfl⟩ := hrel
    have m1 : IntKind.i64.wrap ((i : Int) + 1) = (i : Int) + 1 := by simp [IntKind.wrap, IntKind.signed, IntKind.bits]; omega
    by_cases hin : i < n
    · have hin2 : (i : Int) < (n : Int) := by omega
      obtain ⟨b, off, rfl, q2, c4⟩ := HC.out i hin
      obtain ⟨x, hx⟩ : ∃ x, (r.hs[i]?.getD (0, [])).1 = x := ⟨_, rfl⟩
      rw [hx] at c4
      have HX := Lib.hid hx
      clear hx
      by_cases hk : x = k
      · have hkb : (x == k) = true := by simp [hk]
        have hfin : R = (i : Int) := by
          have hi' : i < r.hs.length := by have := HN.out; omega
          rw [← HR.out]
          refine findI_at r.hs k i hi' (fun j hj h => ?_) ?_
          · have := HJ.out j hj
            rwa [List.getElem?_eq_getElem h] at this
          · have := HX.out
            rw [List.getElem?_eq_getElem hi'] at this
            exact this.trans hk
        subst hfin
        clear hk
        go_wp2_with fail
        go_ret
        exact ⟨rfl, rfl⟩
      · have hkb : (x == k) = false := by simp [hk]
        have HJ2 : Hid (∀ j, j < i + 1 → (r.hs[j]?.getD (0, [])).1 ≠ k) := fun j hj => by
          by_cases e : j = i
          · subst e; rw [HX.out]; exact hk
          · exact HJ.out j (by omega)
        clear hk
        go_wp2
        go_roundw
        case rel => first | exact ⟨i + 1, by go_num, by omega, HJ2, rfl⟩ | exact ⟨i + 1, by go_num, by omega, HJ2, trivial⟩
        case measure => simp [intOf]; omega
    · have hin2 : ¬ ((i : Int) < (n : Int)) := by omega
      have hfin : R = -1 := by
        rw [← HR.out]
        refine findI_end r.hs k (fun j h => ?_)
        have := HJ.out j (by have := HN.out; omega)
        rwa [List.getElem?_eq_getElem h] at this
      subst hfin
      go_wp2_with fail
      go_ret
      exact ⟨rfl, rfl⟩

end Go.Proofs.YtkehgoailhpenaaGreat

/- The contract of from. It has no conditions. -/
namespace Go.Proofs.YtkehgoailhpenaaGreat
open Go.RowKit Go.Shelf Go.Maps
set_option linter.unusedVariables false

/-- The oldest version that is remembered. -/
def oldS (s : DS) : Int := s.v - s.ss.length + 1
/-- The states of a document, wherever a walk reads them. -/
theorem DocI.states {T G : Nat → Prop} {w : World} {p : Nat} {s : DS} (h : DocI T G w p s) : ∃ g cap m vs, w.cell? ⟨p, 0, none⟩ = some (.int .i64 s.v) ∧ w.cell? ⟨p, 1, none⟩ = some (.slice (some ⟨g, 0, none⟩) s.ss.length cap) ∧ w.cell? ⟨p, 2, none⟩ = some (.map (some m)) ∧ s.ss.length ≤ cap ∧ T g ∧ All2 (StOk G w) vs s.ss ∧
    ∀ V : World, V.heap[g]? = w.heap[g]? → ∀ i (hi : i < vs.length), V.cell? ⟨g, i * 2, none⟩ = some (.string (vs[i]).1) ∧ V.cell? ⟨g, i * 2 + 1, none⟩ = some (vs[i]).2 := by
  obtain ⟨g, cap, m, D, vs, h1, h2, h3, h4, h5, h6, h7⟩ := h.mem
  have hl := h3.len
  have c0 := h1.cell 0
  have c1 := h1.cell 1
  have c2 := h1.cell 2
  simp only [List.getElem?_toArray, List.getElem?_cons_zero, List.getElem?_cons_succ] at c0 c1 c2
  have hcap : vs.length ≤ cap := by
    rcases h2.2 with ⟨hv, _⟩ | ⟨g', cp, cur, hv, _, _, h1, _⟩
    · simp at hv
    · simp only [Value.slice.injEq] at hv; omega
  rw [hl] at c1 hcap
  refine ⟨g, cap, m, vs, c0, c1, c2, hcap, h6, h3, fun V hV i hi => ?_⟩
  have e : ∀ j, V.cell? ⟨g, j, none⟩ = w.cell? ⟨g, j, none⟩ := fun j => by simp only [World.cell?, hV]
  rw [e, e, h2.cellAt (i * 2) (by omega), h2.cellAt (i * 2 + 1) (by omega)]
  exact svals_get vs i hi

set_option maxRecDepth 100000 in
set_option maxHeartbeats 2000000 in
theorem from_any (T G : Nat → Prop) (p : Nat) (s : DS) (w : World) (h : DocI T G w p s) (x : Int) (hx1 : -9223372036854775808 ≤ x) (hx2 : x ≤ 9223372036854775807) :
    Calls Tryz.prog 58 #[.pointer (some ⟨p, 0, none⟩), .int .i64 x] w fun e w' => Below w.heap.size w w' ∧
      ((¬ (oldS s ≤ x ∧ x ≤ s.v) ∧ e = .returned (.slice none 0 0)) ∨
       ((oldS s ≤ x ∧ x ≤ s.v) ∧ ∃ (g cap : Nat) (vs : List (ByteArray × Value)) (k : Nat), (k : Int) = x - oldS s ∧ k < s.ss.length ∧ e = .returned (.slice (some ⟨g, k * 2, none⟩) (s.ss.length - k) (cap - k)) ∧ s.ss.length ≤ cap ∧ T g ∧ All2 (StOk G w) vs s.ss ∧
         ∀ V : World, V.heap[g]? = w.heap[g]? → ∀ i (hi : i < vs.length), V.cell? ⟨g, i * 2, none⟩ = some (.string (vs[i]).1) ∧ V.cell? ⟨g, i * 2 + 1, none⟩ = some (vs[i]).2)) := by
  have hv0 := h.ok.v0
  have hv1 := h.ok.v1
  have hlen := h.ok.len
  have hne : 0 < s.ss.length := List.length_pos_iff.2 h.ok.ne
  obtain ⟨g, cap, m, vs, c0, c1, c2, hcap, hTg, h3, hst⟩ := h.states
  obtain ⟨v, hv⟩ : ∃ v, s.v = v := ⟨_, rfl⟩
  obtain ⟨n, hn⟩ : ∃ n, s.ss.length = n := ⟨_, rfl⟩
  obtain ⟨o, ho⟩ : ∃ o, oldS s = o := ⟨_, rfl⟩
  have ho2 : o = v - (n : Int) + 1 := by rw [← ho, ← hv, ← hn]; rfl
  rw [hv] at c0 hv0 hv1 ⊢
  rw [hn] at c1 hcap hlen hne ⊢
  rw [ho]
  have hw1 : IntKind.i64.wrap (v - (n : Int)) = v - (n : Int) := by simp [IntKind.wrap, IntKind.signed, IntKind.bits]; omega
  have hw2 : IntKind.i64.wrap (v - (n : Int) + 1) = o := by rw [ho2]; simp [IntKind.wrap, IntKind.signed, IntKind.bits]; omega
  have H3 := Lib.hid h3; have HST := Lib.hid hst; have HO := Lib.hid ho2
  have ho3 : -1000 ≤ o ∧ o ≤ 1099511627777 := by omega
  clear h h3 hst hv hn ho ho2 c2
  by_cases h1 : x < o
  · have hN : ¬ (o ≤ x ∧ x ≤ v) := by omega
    have HN := Lib.hid hN
    clear hN
    go_enter Tryz.func58, Tryz.ntmps58
    go_wp2_with fail
    go_quiet (fail)
    go_wp2
    go_ret
    exact ⟨below_drewN (Below.refl _ _) _, .inl ⟨HN.out, rfl⟩⟩
  · by_cases h2 : v < x
    · have hN : ¬ (o ≤ x ∧ x ≤ v) := by omega
      have HN := Lib.hid hN
      clear hN
      go_enter Tryz.func58, Tryz.ntmps58
      go_wp2_with fail
      go_quiet (fail)
      go_wp2
      go_ret
      exact ⟨below_drewN (Below.refl _ _) _, .inl ⟨HN.out, rfl⟩⟩
    · obtain ⟨k, hk⟩ : ∃ k : Nat, x - o = (k : Int) := ⟨(x - o).toNat, by omega⟩
      have hkn : k < n := by have := HO.out; omega
      have HN : Hid (o ≤ x ∧ x ≤ v) := ⟨by omega, by omega⟩
      have hkw : IntKind.i64.wrap (x - o) = (k : Int) := by rw [hk]; simp [IntKind.wrap, IntKind.signed, IntKind.bits]; omega
      have hk1 : (k : Int) ≤ (n : Int) := by omega
      have HK := Lib.hid hk
      clear hk
      go_enter Tryz.func58, Tryz.ntmps58
      go_wp2_with fail
      go_quiet (fail)
      go_wp2
      go_ret
      exact ⟨below_drewN (Below.refl _ _) _, .inr ⟨HN.out, g, cap, vs, k, HK.out.symm, hkn, rfl, hcap, hTg, H3.out, HST.out⟩⟩

end Go.Proofs.YtkehgoailhpenaaGreat

/- The contract of Since where no composition has an error. Conditions: as SncOk says. -/
namespace Go.Proofs.YtkehgoailhpenaaGreat
open Go.RowKit Go.Shelf Go.Maps
set_option linter.unusedVariables false

/-- The compositions go through, and end at r. -/
def SncOk (t : ByteArray) : List Er → List (List Er) → List Er → Prop
  | x, [], r => x = r
  | x, y :: l, r => cmE t x y = 0 ∧ (apS t x).size ≤ 1000000 ∧ (apS (apS t x) y).size ≤ 1000000 ∧ (∀ e ∈ cmS t x y, e.Fit) ∧ (cmS t x y).length ≤ 64 ∧ SncOk t (cmS t x y) l r
/-- The edits of the versions behind the k-th state. -/
def nexts (s : DS) (k : Nat) : List (List Er) := ((s.ss.drop k).take (s.ss.length - k - 1)).map Prod.snd
theorem nexts_len {s : DS} {k : Nat} (hk : k < s.ss.length) : (nexts s k).length = s.ss.length - k - 1 := by
  unfold nexts
  rw [List.length_map, List.length_take, List.length_drop]
  omega
theorem nexts_at {s : DS} {k i : Nat} (hk : k < s.ss.length) (hi : i < (nexts s k).length) : (nexts s k)[i]? = (s.ss[k + i]?).map Prod.snd := by
  rw [nexts_len hk] at hi
  unfold nexts
  rw [List.getElem?_map, List.getElem?_take, if_pos (by omega), List.getElem?_drop]
theorem nexts_get {s : DS} {k i : Nat} (hk : k < s.ss.length) (hi : i < (nexts s k).length) : (nexts s k)[i] = (s.ss[k + i]'(by rw [nexts_len hk] at hi; omega)).2 := by
  simp [nexts]

set_option maxRecDepth 100000 in
set_option maxHeartbeats 4000000 in
theorem since_any (T G : Nat → Prop) (p : Nat) (s : DS) (w : World) (h : DocI T G w p s) (x : Int) (hx1 : -9223372036854775808 ≤ x) (hx2 : x ≤ 9223372036854775807) (hin : oldS s ≤ x ∧ x ≤ s.v) (k : Nat) (hkx : (k : Int) = x - oldS s) (hk : k < s.ss.length) (R : List Er) (hok : SncOk (s.ss[k]).1 [] (nexts s k) R) :
    Calls Tryz.prog 27 #[.pointer (some ⟨p, 0, none⟩), .int .i64 x] w (NewES w R 0) := by
  have CF := Lib.hid (from_any T G p s w h x hx1 hx2)
  have HNG : Hid (∀ i, i < (nexts s k).length → (nexts s k)[i]? = (s.ss[k + i]?).map Prod.snd) := fun i hi => nexts_at hk hi
  have hlen := h.ok.len
  have hets := h.ok.eds
  obtain ⟨t, ht⟩ : ∃ t, (s.ss[k]).1 = t := ⟨_, rfl⟩
  rw [ht] at hok
  have htz : t.size ≤ 4096 := by rw [← ht]; exact h.ok.text _ (List.getElem_mem _)
  have hTl := h.lt
  have hGl := h.glt
  obtain ⟨n, hn⟩ : ∃ n, s.ss.length = n := ⟨_, rfl⟩
  have hnl := nexts_len hk
  have HET := Lib.hid hets; have HTX := Lib.hid ht; have HTL := Lib.hid hTl; have HGL := Lib.hid hGl; have HIN := Lib.hid hin; have HNL := Lib.hid hnl; have HNN := Lib.hid hn
  obtain ⟨L, hL⟩ : ∃ l, nexts s k = l := ⟨_, rfl⟩
  have HL := Lib.hid hL
  rw [hL] at hok
  have HOK := Lib.hid hok
  have HKX := Lib.hid hkx
  have HK := Lib.hid hk
  have hk' : k < n := by omega
  have hn17 : n ≤ 17 := by omega
  clear hok hL hnl hets hTl hGl hin ht hkx h hn hlen
  go_enter Tryz.func27, Tryz.ntmps27
  go_wp2_with fail
  refine CF.out.mono ?_
  rintro e w1 ⟨b1, hw⟩
  have B1 := Lib.hid b1
  obtain ⟨g, cap, vs, k2, hk2, hk3, he, hcap, hTg, h3, hst⟩ := (hw.resolve_left (fun hh => hh.1 HIN.out)).2
  obtain rfl : k2 = k := by have := HKX.out; omega
  subst he
  have hvl := h3.len
  have hglt := HTL.out g hTg
  have hgk : ∀ V, Below w.heap.size w V → V.heap[g]? = w.heap[g]? := fun V hV => hV.block g hglt
  rw [HNN.out] at hcap ⊢
  have hvn : vs.length = n := by rw [hvl]; exact HNN.out
  have HALL : Hid (∀ i, k2 + i < n → ∃ (y : ByteArray × List Er) (nx : Value), s.ss[k2 + i]? = some y ∧ EsG G w nx y.2 ∧ ∀ V, Below w.heap.size w V → V.cell? ⟨g, k2 * 2 + i * 2, none⟩ = some (.string y.1) ∧ V.cell? ⟨g, k2 * 2 + i * 2 + 1, none⟩ = some nx) := fun i hi => by
    have h9 := h3.at_ (k2 + i) (by omega) (by omega)
    refine ⟨s.ss[k2 + i]'(by omega), (vs[k2 + i]'(by omega)).2, List.getElem?_eq_getElem _, h9.2, fun V hV => ?_⟩
    have := hst V (hgk V hV) (k2 + i) (by omega)
    rw [show (k2 + i) * 2 = k2 * 2 + i * 2 by omega, h9.1] at this
    exact this
  obtain ⟨y0, nx0, hy0, _, hc0⟩ := HALL.out 0 (by omega)
  have c0 := (hc0 w1 B1.out).1
  have ht0 : y0.1 = t := by
    have hk9 := HK.out
    rw [Nat.add_zero, List.getElem?_eq_getElem hk9] at hy0
    rw [← Option.some.inj hy0]; exact HTX.out
  rw [ht0] at c0
  simp only [Nat.zero_mul, Nat.add_zero] at c0
  obtain ⟨N, hN⟩ : ∃ N, n - k2 = N := ⟨_, rfl⟩
  obtain ⟨M, hM⟩ : ∃ M, M + 1 = N := ⟨N - 1, by omega⟩
  have hML : L.length = M := by rw [← HL.out, HNL.out, HNN.out]; omega
  obtain ⟨cp, hcp⟩ : ∃ c, cap - k2 = c := ⟨_, rfl⟩
  rw [hN, hcp]
  have hN1 : IntKind.i64.wrap ((N : Int) - 1) = (M : Int) := by simp [IntKind.wrap, IntKind.signed, IntKind.bits]; omega
  have hNn : ¬ (N : Int) = 0 := by omega
  have hN0 : (0 : Int) < (N : Int) := by omega
  have hMN : (M : Int) ≤ (cp : Int) := by omega
  have hM17 : M ≤ 17 := by omega
  have hNz : ((N : Int) == 0) = false := by simp; omega
  have HVN := Lib.hid hvn; have HMM := Lib.hid (And.intro hM hN); have HML := Lib.hid hML
  have HE0 : Hid (ES w1.heap.size w1 none 0 [] ∧ (∀ e ∈ ([] : List Er), e.Fit) ∧ ([] : List Er).length ≤ 64 ∧ SncOk t [] (L.drop 0) R) := ⟨ES.none _ _, fun e he => by simp at he, Nat.zero_le _, HOK.out⟩
  clear hw b1 hk2 hk3 h3 hst hvl hgk hvn ht0 hN hM hML hcp hc0 hy0
  go_wp2_with fail
  go_loopw [8, 29] (fun u q wr => ∃ (i : Nat) (xs : List Er) (ax : Option Addr) (cx : Nat), i ≤ M ∧ q = .int .i64 (i : Int) ∧ u = .slice ax xs.length cx ∧ Hid (ES wr.heap.size wr ax cx xs ∧ (∀ e ∈ xs, e.Fit) ∧ xs.length ≤ 64 ∧ SncOk t xs (L.drop i) R) ∧ Hid (Below w.heap.size w wr)) (fun _ q _ => M - (intOf q).toNat)
  case atStart => exact ⟨0, [], none, 0, by omega, rfl, rfl, HE0, B1.out⟩
  case round =>
    obtain ⟨i, xs, ax, cx, hi, rfl, rfl, HX, HR⟩ := hrel
    by_cases hlt : i < M
    · have hkk : (i : Int) < (M : Int) := by omega
      obtain ⟨y, nx, hy, hnx, hcl⟩ := HALL.out i (by have := HMM.out; omega)
      obtain ⟨an, cn, rfl, hEn⟩ := hnx.es
      obtain ⟨d0, d1⟩ := hcl wr HR.out
      obtain ⟨yt, ye⟩ := y
      simp only at d0 d1 hEn hnx
      obtain ⟨e1, e2, e3, e4⟩ := HX.out
      have hLi : L.drop i = ye :: L.drop (i + 1) := by
        have h8 : i < L.length := by rw [HML.out]; exact hlt
        rw [List.drop_eq_getElem_cons h8]
        congr 1
        have := HNG.out i (by rw [HL.out]; exact h8)
        rw [hy, HL.out, List.getElem?_eq_getElem h8] at this
        simpa using this
      rw [hLi] at e4
      obtain ⟨q1, q2, q3, q4, q5, q6⟩ := e4
      have hye := HET.out (yt, ye) (List.mem_of_getElem? hy)
      simp only at hye
      obtain ⟨ln, hln⟩ : ∃ n, ye.length = n := ⟨_, rfl⟩
      rw [hln] at d1
      have HC : Hid (∀ W, Below wr.heap.size wr W → Calls Tryz.prog 59 #[.string t, .slice ax xs.length cx, .slice an ln cn] W fun e w' => NewES W (cmS t xs ye) 0 e w') := fun W hW => by
        have h1 : ES W.heap.size W an cn ye := hEn.on (HR.out.trans (hW.mono HR.out.size))
        have := pcompose_any t ax an cx cn xs ye W (by omega) q2 q3 (by omega) (by omega) e2 hye.2 (e1.on hW) h1
        rw [q1, hln] at this
        exact this
      obtain ⟨X, hX⟩ : ∃ x, cmS t xs ye = x := ⟨_, rfl⟩
      rw [hX] at q4 q5 q6 HC
      have HQ : Hid ((∀ e ∈ X, e.Fit) ∧ X.length ≤ 64 ∧ SncOk t X (L.drop (i + 1)) R) := ⟨q4, q5, q6⟩
      have HBW : Hid (Below wr.heap.size wr (wr.alloc (.cells #[.string yt, .slice an ln cn] 68))) := (Below.refl _ _).alloc (Nat.le_refl _) _
      clear hy hnx hcl hEn e1 e2 e3 hLi q1 q2 q3 q4 q5 q6 hye hln hX
      go_wp2_with fail
      refine (HC.out _ HBW.out).mono ?_
      rintro e w7 ⟨a7, c7, rfl, hE7, b7⟩
      have HX7 : Hid (ES w7.heap.size w7 a7 c7 X ∧ (∀ e ∈ X, e.Fit) ∧ X.length ≤ 64 ∧ SncOk t X (L.drop (i + 1)) R) := ⟨hE7, HQ.out.1, HQ.out.2.1, HQ.out.2.2⟩
      have H7 : Hid (Below w.heap.size w w7) := HR.out.trans ((HBW.out.trans (b7.mono HBW.out.size)).mono HR.out.size)
      clear hE7 b7
      go_wp2
      go_roundw
      case rel => exact ⟨i + 1, X, a7, c7, by omega, by go_num, rfl, HX7, H7⟩
      case measure => simp [intOf]; omega
    · obtain rfl : M = i := by omega
      have hR := HX.out.2.2.2
      rw [List.drop_eq_nil_of_le (by rw [HML.out]; omega)] at hR
      have hRR : xs = R := hR
      subst hRR
      clear hR
      go_wp2_with fail
      go_ret2
      exact ⟨ax, cx, rfl, HX.out.1, HR.out⟩

end Go.Proofs.YtkehgoailhpenaaGreat

/- What the document remembers, in the reference's history: texts and edits by place. It has no conditions. -/
namespace Go.Proofs.YtkehgoailhpenaaGreat
open Go.RowKit Go.Shelf Go.Maps
set_option linter.unusedVariables false

theorem shiftH_fst : ∀ (h : List (ByteArray × List Er)), (shiftH h).map Prod.fst = h.map Prod.fst
  | [] => rfl
  | [x] => rfl
  | x :: y :: l => by
    have := shiftH_fst (y :: l)
    show x.1 :: (shiftH (y :: l)).map Prod.fst = _
    rw [this]; rfl
theorem shiftH_nexts : ∀ (h : List (ByteArray × List Er)) (j : Nat), j < h.length → (((shiftH h).drop j).take (h.length - j - 1)).map Prod.snd = (h.drop (j + 1)).map Prod.snd
  | [], j, hj => absurd hj (by simp)
  | [x], j, hj => by
    have : j = 0 := by simp at hj; omega
    subst this; rfl
  | x :: y :: l, 0, hj => by
    have := shiftH_nexts (y :: l) 0 (by simp)
    rw [List.drop_zero] at this
    show ((((x.1, y.2) :: shiftH (y :: l)) : List (ByteArray × List Er)).take (l.length + 1)).map Prod.snd = (y :: l).map Prod.snd
    rw [List.take_succ_cons, List.map_cons]
    have h2 : (y :: l).length - 0 - 1 = l.length := by simp
    rw [h2] at this
    rw [this]; rfl
  | x :: y :: l, j + 1, hj => by
    have := shiftH_nexts (y :: l) j (by simp at hj ⊢; omega)
    show (((shiftH (y :: l)).drop j).take _).map Prod.snd = ((y :: l).drop (j + 1)).map Prod.snd
    rw [← this]
    congr 2
    simp
theorem Hist.len {s : DS} {r : RS} (h : Hist s r) : s.ss.length = r.h.length - (r.h.length - 17) := by
  rw [h, List.length_drop, shiftH_len]
/-- The k-th state's text. -/
theorem Hist.text_at {s : DS} {r : RS} (h : Hist s r) {k : Nat} (hk : k < s.ss.length) : (s.ss[k]).1 = (r.h[r.h.length - 17 + k]'(by have := h.len; omega)).1 := by
  have hl := h.len
  have hm := congrArg (fun l => (l.drop (r.h.length - 17))[k]?) (shiftH_fst r.h)
  simp only [← List.map_drop] at hm
  rw [← h] at hm
  rw [List.getElem?_map, List.getElem?_map, List.getElem?_drop, List.getElem?_eq_getElem hk, List.getElem?_eq_getElem (by omega)] at hm
  simpa using hm
/-- The edits behind the k-th state. -/
theorem Hist.nexts_at {s : DS} {r : RS} (h : Hist s r) {k : Nat} (hk : k < s.ss.length) : nexts s k = (r.h.drop (r.h.length - 17 + k + 1)).map Prod.snd := by
  have hl := h.len
  rw [← shiftH_nexts r.h (r.h.length - 17 + k) (by omega)]
  unfold nexts
  rw [hl, h, List.drop_drop]
  congr 2
  omega
/-- The oldest version that the document knows is the oldest that the reference's does. -/
theorem Hist.old {s : DS} {r : RS} (h : Hist s r) (hv : s.v = r.v) : oldS s = r.f + ((r.h.length - 17 : Nat) : Int) := by
  have hl := h.len
  unfold oldS
  rw [hv]
  unfold RS.v
  rw [hl]
  omega
/-- Since, as a function: the compositions one after another, or, where one has an error, one edit that d names. -/
def sncG (t : ByteArray) (d : List Er) : List Er → List (List Er) → List Er
  | x, [] => x
  | x, y :: l => if cmE t x y = 0 then sncG t d (cmS t x y) l else d
theorem SncOk.eq {t : ByteArray} {d : List Er} : ∀ {l : List (List Er)} {x R : List Er}, SncOk t x l R → sncG t d x l = R
  | [], x, R, h => h
  | y :: l, x, R, h => by
    obtain ⟨h1, _, _, _, _, h6⟩ := h
    unfold sncG
    rw [if_pos h1]
    exact h6.eq

end Go.Proofs.YtkehgoailhpenaaGreat

/- What both documents remember, and Since as a relation: mathematics. It has no conditions. -/
namespace Go.Proofs.YtkehgoailhpenaaGreat
open Go.RowKit Go.Shelf Go.Maps
set_option linter.unusedVariables false

def lastR (h : List (ByteArray × List Er)) : ByteArray := (h.getLast?.getD (⟨#[]⟩, [])).1
/-- The reference's history: each text is what its edits make of the one before. -/
def LinkR : List (ByteArray × List Er) → Prop
  | [] => True
  | [_] => True
  | x :: y :: l => (vErr (x.1.size : Int) y.2 = 0 ∧ apS x.1 y.2 = y.1) ∧ LinkR (y :: l)
theorem LinkR.snoc : ∀ {h : List (ByteArray × List Er)} {es : List Er}, LinkR h → h ≠ [] → vErr ((lastR h).size : Int) es = 0 → LinkR (h ++ [(apS (lastR h) es, es)])
  | [], _, _, hne, _ => absurd rfl hne
  | [x], es, _, _, hv => ⟨⟨hv, rfl⟩, trivial⟩
  | x :: y :: l, es, hl, _, hv => by
    have e : lastR (x :: y :: l) = lastR (y :: l) := by unfold lastR; rw [List.getLast?_cons_cons]
    rw [e] at hv ⊢
    exact ⟨hl.1, LinkR.snoc hl.2 (by simp) hv⟩
/-- Edits that follow each other from a text, and where they lead. -/
def ChF : ByteArray → List (List Er) → Prop
  | _, [] => True
  | u, y :: l => vErr (u.size : Int) y = 0 ∧ (apS u y).size ≤ 4096 ∧ ChF (apS u y) l
def endF : ByteArray → List (List Er) → ByteArray
  | u, [] => u
  | u, y :: l => endF (apS u y) l
theorem LinkR.ch0 : ∀ (l : List (ByteArray × List Er)) (x : ByteArray × List Er), LinkR (x :: l) → (∀ y ∈ x :: l, y.1.size ≤ 4096) → ChF x.1 (l.map Prod.snd) ∧ endF x.1 (l.map Prod.snd) = lastR (x :: l)
  | [], x, _, _ => ⟨trivial, rfl⟩
  | y :: l, x, h, hs => by
    obtain ⟨q1, q2⟩ := LinkR.ch0 l y h.2 (fun z hz => hs z (List.mem_cons_of_mem _ hz))
    have e : lastR (x :: y :: l) = lastR (y :: l) := by unfold lastR; rw [List.getLast?_cons_cons]
    obtain ⟨k1, k2⟩ := h.1
    rw [e]
    show (vErr _ _ = 0 ∧ (apS x.1 y.2).size ≤ 4096 ∧ ChF (apS x.1 y.2) (l.map Prod.snd)) ∧ endF (apS x.1 y.2) (l.map Prod.snd) = _
    rw [k2]
    exact ⟨⟨k1, hs y (by simp), q1⟩, q2⟩
theorem LinkR.tail {x : ByteArray × List Er} {l : List (ByteArray × List Er)} (h : LinkR (x :: l)) : LinkR l := by
  cases l with
  | nil => trivial
  | cons y l => exact h.2
theorem LinkR.ch : ∀ {h : List (ByteArray × List Er)} (k : Nat) (hk : k < h.length), LinkR h → (∀ y ∈ h, y.1.size ≤ 4096) → ChF (h[k]).1 ((h.drop (k + 1)).map Prod.snd) ∧ endF (h[k]).1 ((h.drop (k + 1)).map Prod.snd) = lastR h
  | [], k, hk, _, _ => absurd hk (by simp)
  | x :: l, 0, _, h, hs => LinkR.ch0 l x h hs
  | x :: l, k + 1, hk, h, hs => by
    have hk' : k < l.length := by simpa using hk
    obtain ⟨q1, q2⟩ := LinkR.ch k hk' h.tail (fun z hz => hs z (List.mem_cons_of_mem _ hz))
    have e : lastR (x :: l) = lastR l := by
      cases l with
      | nil => simp at hk'
      | cons y l => unfold lastR; rw [List.getLast?_cons_cons]
    rw [e]
    exact ⟨q1, q2⟩

/-- Both documents, and the reference's history. -/
structure Two (s : DS) (r : RS) : Prop where
  sim : Sim s r
  hist : Hist s r
  lk : LinkR r.h
  ne : r.h ≠ []
theorem bec_zero {r : RS} {es : List Er} (h : becE r es = 0) : vErr (r.text.size : Int) es = 0 := by
  unfold becE at h
  split at h
  · assumption
  · exact h
theorem rap_zero {r : RS} {ps : List PE} (h : rapE r ps = 0) : becE r (pL r.text ps) = 0 := by
  unfold rapE at h
  split at h
  · exact h
  · rename_i h1; exact absurd h h1
theorem Two.adv {s : DS} {r : RS} (h : Two s r) {es : List Er} (hz : becE r es = 0) : Two (advS s es) (becS r es) :=
  ⟨h.sim.adv es, h.hist.adv h.sim.t h.ne es, h.lk.snoc h.ne (bec_zero hz), by show r.h ++ _ ≠ []; simp⟩
theorem Two.apl {s : DS} {r : RS} (h : Two s r) {ps : List PE} (hz : rapE r ps = 0) : Two (aplS s ps) (rapS r ps) := by
  unfold aplS rapS
  rw [h.sim.t]
  exact h.adv (rap_zero hz)
theorem Two.drop {s : DS} {r : RS} (h : Two s r) (hk : (s.v + 1) ∈ s.hs.map Prod.fst) : Two (dropH s) (rdropH r) := ⟨h.sim.drop hk, h.hist, h.lk, h.ne⟩
theorem Two.hld : ∀ (f : Nat) {s : DS} {r : RS}, Two s r → Two (hldF f s).2 (rhldF f r).2 := by
  intro f
  induction f with
  | zero => intro s r h; exact h
  | succ f ih =>
    intro s r h
    simp only [hldF, rhldF]
    by_cases hk : (s.v + 1) ∈ s.hs.map Prod.fst
    · have hd := h.drop hk
      have h2 : 0 ≤ findI r.hs (r.v + 1) 0 := by rw [findI_mem, ← h.sim.hs, ← h.sim.v]; exact hk
      have h3 : heldI r.hs (r.v + 1) = lookH s.hs (s.v + 1) := by rw [← h.sim.hs, ← h.sim.v]; exact heldI_look hk
      rw [if_pos hk, if_pos h2, h3, hd.sim.aplE]
      split
      · rename_i hz
        exact ih (hd.apl hz)
      · exact hd
    · have h2 : ¬ 0 ≤ findI r.hs (r.v + 1) 0 := by rw [findI_mem, ← h.sim.hs, ← h.sim.v]; exact hk
      rw [if_neg hk, if_neg h2]
      exact h
theorem Two.rcv {s : DS} {r : RS} (h : Two s r) (k : Int) (ps : List PE) : Two (rcvF s k ps).2 (rrcvF r k ps).2 := by
  obtain ⟨_, hs⟩ := h.sim.rcv k ps
  have key : Hist (rcvF s k ps).2 (rrcvF r k ps).2 ∧ LinkR (rrcvF r k ps).2.h ∧ (rrcvF r k ps).2.h ≠ [] := by
    have hf : (0 ≤ findI r.hs k 0) ↔ k ∈ s.hs.map Prod.fst := by rw [findI_mem, h.sim.hs]
    unfold rcvF rrcvF chkE
    rw [← h.sim.v, ← h.sim.hs, ← h.sim.aplE]
    rw [← h.sim.hs] at hf
    by_cases h1 : k < 1 ∨ 1099511627776 < k
    · simp only [if_pos h1]; simp; exact ⟨h.hist, h.lk, h.ne⟩
    · simp only [if_neg h1]
      by_cases h2 : 64 < ps.length
      · simp only [if_pos h2]; simp; exact ⟨h.hist, h.lk, h.ne⟩
      · simp only [if_neg h2]
        by_cases h3 : k ≤ s.v ∨ k ∈ s.hs.map Prod.fst
        · have h3' : k ≤ s.v ∨ 0 ≤ findI s.hs k 0 := by rw [hf]; exact h3
          simp only [if_pos h3, if_pos h3']; simp; exact ⟨h.hist, h.lk, h.ne⟩
        · have h3' : ¬ (k ≤ s.v ∨ 0 ≤ findI s.hs k 0) := by rw [hf]; exact h3
          rw [if_neg h3, if_neg h3']
          by_cases h4 : s.v + 1 < k
          · by_cases h5 : 16 ≤ s.hs.length
            · have hc : (if s.v + 1 < k ∧ 16 ≤ s.hs.length then (4 : Int) else 0) = 4 := if_pos ⟨h4, h5⟩
              rw [hc, if_pos (by decide), if_pos h4, if_pos h5]; exact ⟨h.hist, h.lk, h.ne⟩
            · have hc : (if s.v + 1 < k ∧ 16 ≤ s.hs.length then (4 : Int) else 0) = 0 := if_neg (fun q => h5 q.2)
              rw [hc, if_neg (by decide), if_pos h4, if_pos h4, if_neg h5]
              exact ⟨h.hist, h.lk, h.ne⟩
          · have hc : (if s.v + 1 < k ∧ 16 ≤ s.hs.length then (4 : Int) else 0) = 0 := if_neg (fun q => h4 q.1)
            rw [hc, if_neg (by decide), if_neg h4, if_neg h4]
            by_cases h6 : Go.Proofs.YtkehgoailhpenaaGreat.aplE s ps ≠ 0
            · rw [if_pos h6, if_pos h6]; exact ⟨h.hist, h.lk, h.ne⟩
            · rw [if_neg h6, if_neg h6]
              have hz : rapE r ps = 0 := by rw [← h.sim.aplE]; omega
              have := Two.hld s.hs.length (h.apl hz)
              exact ⟨this.hist, this.lk, this.ne⟩
  exact ⟨hs, key.1, key.2.1, key.2.2⟩
theorem rhld_len : ∀ (f : Nat) (r : RS), (rhldF f r).2.h.length ≤ r.h.length + f := by
  intro f
  induction f with
  | zero => intro r; exact Nat.le_refl _
  | succ f ih =>
    intro r
    simp only [rhldF]
    split
    · split
      · have := ih (rapS (rdropH r) (heldI r.hs (r.v + 1)))
        have h2 : (rapS (rdropH r) (heldI r.hs (r.v + 1))).h.length = r.h.length + 1 := by unfold rapS becS rdropH; simp
        simp only; omega
      · show r.h.length ≤ _; omega
    · show r.h.length ≤ _; omega
theorem rrcv_len (r : RS) (k : Int) (ps : List PE) : (rrcvF r k ps).2.h.length ≤ r.h.length + 1 + r.hs.length := by
  unfold rrcvF
  split
  · show r.h.length ≤ _; omega
  · split
    · show r.h.length ≤ _; omega
    · split
      · show r.h.length ≤ _; omega
      · split
        · split
          · show r.h.length ≤ _; omega
          · show r.h.length ≤ _; omega
        · split
          · show r.h.length ≤ _; omega
          · have := rhld_len r.hs.length (rapS r ps)
            have h2 : (rapS r ps).h.length = r.h.length + 1 := by unfold rapS becS; simp
            show (rhldF r.hs.length (rapS r ps)).2.h.length ≤ _; omega
theorem Two.new (t : ByteArray) (v : Int) : Two (newS t v) (rnewS t v) := by
  refine ⟨⟨?_, rfl, rfl, List.nodup_nil⟩, rfl, trivial, by simp [rnewS]⟩
  show v = (rnewS t v).v
  unfold RS.v rnewS
  simp

/-- Since, as a relation: the compositions one after another, or, where one has an error, the edit that leads from the text to the last. -/
def SncR (t u : ByteArray) : List Er → List (List Er) → List Er → Prop
  | x, [], R => R = x
  | x, y :: l, R => if cmE t x y = 0 then SncR t u (cmS t x y) l R else DifR t u R
theorem SncR.det {t u : ByteArray} : ∀ {l : List (List Er)} {x R R' : List Er}, SncR t u x l R → SncR t u x l R' → R = R'
  | [], x, R, R', h, k => h.trans k.symm
  | y :: l, x, R, R', h, k => by
    unfold SncR at h k
    split at h
    · rename_i hc
      rw [if_pos hc] at k
      exact SncR.det h k
    · rename_i hc
      rw [if_neg hc] at k
      exact h.det k
theorem comp_to {s : ByteArray} {a b : List Er} (ha : vErr (s.size : Int) a = 0) (hb : vErr ((apS s a).size : Int) b = 0) (hE : cmE s a b = 0) :
    vErr (s.size : Int) (cmS s a b) = 0 ∧ apS s (cmS s a b) = apS (apS s a) b ∧ (cmS s a b).length ≤ 64 ∧ ∀ e ∈ cmS s a b, e.x.size ≤ (apS (apS s a) b).size := by
  obtain ⟨_, va, _⟩ := vErr_ok ha
  obtain ⟨_, vb, _⟩ := vErr_ok hb
  have ht := apS_ok ha
  have hu := apS_ok hb
  have hlen : (cmpl (sb s) (ees a) (ees b)).length ≤ 64 := by
    unfold cmE at hE
    rw [if_pos ha, if_pos hb] at hE
    split at hE
    · omega
    · omega
  have hC : cmS s a b = ers (cmpl (sb s) (ees a) (ees b)) := by unfold cmS; rw [if_pos hE]
  obtain ⟨K, k1, k2, k3⟩ := kept_comp (s := s) (t := apS s a) (u := apS (apS s a) b) ha hb ht hu
  have hbyt : ∀ e ∈ cmpl (sb s) (ees a) (ees b), Byt e.x := by rw [← k3]; exact ees_byt _
  have hCa : cmS s a b = arl s (apS (apS s a) b) 0 0 K := by rw [hC, ← k3, ers_ees arl_pos]
  have va' : Vld (sb s).length 0 (ees a) := by rw [sb_len]; exact va
  have vb' : Vld (appl (sb s) 0 (ees a)).length 0 (ees b) := by rw [← ht, sb_len]; exact vb
  obtain ⟨c1, c2⟩ := cmpl_appl va' vb'
  rw [sb_len] at c1
  have hv : vErr (s.size : Int) (cmS s a b) = 0 := by rw [hC]; exact vErr_ers c1 hlen hbyt
  refine ⟨hv, ?_, by rw [hC, ers_len]; exact hlen, ?_⟩
  · refine sb_inj ?_
    rw [apS_ok hv, hC, ees_ers hbyt, c2, ← ht, ← hu]
  · rw [hCa]
    exact arl_short
theorem difr_to {a b : ByteArray} {es : List Er} (h : DifR a b es) : vErr (a.size : Int) es = 0 ∧ apS a es = b ∧ es.length ≤ 1 := by
  rcases h with ⟨rfl, rfl⟩ | ⟨hne, p, q, hp, hq, rfl⟩
  · refine ⟨rfl, ?_, by simp⟩
    apply sb_inj
    rw [apS_ok rfl]; rfl
  · have hvld := dif_vld hp hq
    have happ := dif_appl hp hq
    have hbyt : ∀ e ∈ [dif (sb a) (sb b) p q], Byt e.x := by
      intro e he
      simp only [List.mem_singleton] at he
      subst he
      exact ((sb_byt b).drop p).take _
    rw [sb_len] at hvld
    have hv : vErr (a.size : Int) [er (dif (sb a) (sb b) p q)] = 0 := vErr_ers (l := [dif (sb a) (sb b) p q]) hvld (by simp) hbyt
    refine ⟨hv, ?_, by simp⟩
    apply sb_inj
    rw [apS_ok hv]
    show appl (sb a) 0 (ees (ers [dif (sb a) (sb b) p q])) = sb b
    rw [ees_ers hbyt]
    exact happ
theorem SncR.ok {t u : ByteArray} : ∀ {l : List (List Er)} {x R : List Er} {u0 : ByteArray}, SncR t u x l R → vErr (t.size : Int) x = 0 → apS t x = u0 → ChF u0 l → endF u0 l = u → vErr (t.size : Int) R = 0 ∧ apS t R = u
  | [], x, R, u0, h, h1, h2, h3, h4 => by
    have : R = x := h
    subst this
    exact ⟨h1, h2.trans h4⟩
  | y :: l, x, R, u0, h, h1, h2, h3, h4 => by
    unfold SncR at h
    split at h
    · rename_i hc
      obtain ⟨k1, k2, _, _⟩ := comp_to h1 (by rw [h2]; exact h3.1) hc
      exact SncR.ok h k1 (by rw [k2, h2]) h3.2.2 h4
    · obtain ⟨k1, k2, _⟩ := difr_to h
      exact ⟨k1, k2⟩

end Go.Proofs.YtkehgoailhpenaaGreat
