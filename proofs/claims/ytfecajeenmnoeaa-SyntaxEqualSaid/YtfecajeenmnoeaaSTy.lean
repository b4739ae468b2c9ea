/- The reference's Tidy. It has no conditions. -/
import Derived.Test.YtfecajeenmnoeaaSRg
import Derived.Test.YtfecajeenmnoeaaSTr
import Derived.Test.YtfecajeenmnoeaaShort
namespace Go.Proofs.Ytfecajeenmnoeaa
open Go.RowKit Go.Shelf
set_option linter.unusedVariables false

/-- A tidy tree is handed back, in memory of its own. -/
def TidyP (d : Nat) (w : World) (e : Ending) (w' : World) : Prop :=
  ∃ (t : Nd) (a : Option Addr) (n cap : Nat), e = .returned (ndv t a n cap) ∧ KV (fun b => w.heap.size ≤ b) w' a n cap t.kids ∧ Sm d t ∧ Below w.heap.size w w'
/-- The state of the call: the node in block q, the result behind it, the new node in block q + 2. -/
structure TyS (w : World) (q : Nat) (cn co : Array Value) (W : World) : Prop where
  hq : w.heap.size = q
  kn : Blk W q 25 cn
  kr : Blk W (q + 1) 25 zcs
  ko : Blk W (q + 2) 25 co
  o : Below q w W
theorem TyS.on {w : World} {q : Nat} {cn co : Array Value} {W W' : World} (h : TyS w q cn co W) (hb : Below W.heap.size W W') : TyS w q cn co W' :=
  ⟨h.hq, h.kn.same (hb.block q h.kn.lt), h.kr.same (hb.block _ h.kr.lt), h.ko.same (hb.block _ h.ko.lt), h.o.trans (hb.mono (by have := h.kn.lt; omega))⟩
theorem TyS.set {w : World} {q : Nat} {cn co : Array Value} {W : World} (h : TyS w q cn co W) (i : Nat) (v : Value) : TyS w q cn (co.setIfInBounds i v) (W.setCell ⟨q + 2, i, none⟩ v) :=
  have hb : ∀ b, b ≠ q + 2 → (W.setCell ⟨q + 2, i, none⟩ v).heap[b]? = W.heap[b]? := fun b hb => Below.heap_setCell W ⟨q + 2, i, none⟩ v b hb
  ⟨h.hq, h.kn.same (hb q (by omega)), h.kr.same (hb _ (by omega)), h.ko.set i v, h.o.setCell (p := ⟨q + 2, i, none⟩) (by show q ≤ q + 2; omega) v⟩
theorem TyS.fin {w : World} {q d : Nat} {cn co : Array Value} {W : World} (h : TyS w q cn co W) {t : Nd} {a : Option Addr} {n cap : Nat} (hk : KV (fun b => q + 2 ≤ b) W a n cap t.kids) (hs : Sm d t) :
    Blk ((((W.setCell ⟨q + 1, 0, none⟩ (.int .i64 t.id)).setCell ⟨q + 1, 1, none⟩ (.int .i64 t.kind)).setCell ⟨q + 1, 2, none⟩ (.string t.text)).setCell ⟨q + 1, 3, none⟩ (.slice a n cap)) (q + 1) 25 #[.int .i64 t.id, .int .i64 t.kind, .string t.text, .slice a n cap] ∧
    TidyP d w (.returned (.agg #[.int .i64 t.id, .int .i64 t.kind, .string t.text, .slice a n cap])) ((((W.setCell ⟨q + 1, 0, none⟩ (.int .i64 t.id)).setCell ⟨q + 1, 1, none⟩ (.int .i64 t.kind)).setCell ⟨q + 1, 2, none⟩ (.string t.text)).setCell ⟨q + 1, 3, none⟩ (.slice a n cap)) := by
  obtain ⟨hb, hs'⟩ := set4 W (q + 1) 0 (.int .i64 t.id) (.int .i64 t.kind) (.string t.text) (.slice a n cap)
  simp only [Nat.zero_add] at hb hs'
  refine ⟨by simpa using (((h.kr.set 0 (.int .i64 t.id)).set 1 (.int .i64 t.kind)).set 2 (.string t.text)).set 3 (.slice a n cap), t, a, n, cap, rfl, ?_, hs, ?_⟩
  · rw [h.hq]
    exact hk.keep (by omega) (fun b hb' _ => hb b (by omega)) (fun b hb' _ => by omega)
  · rw [h.hq]
    exact (((h.o.setCell (p := ⟨q + 1, 0, none⟩) (by show q ≤ q + 1; omega) _).setCell (p := ⟨q + 1, 1, none⟩) (by show q ≤ q + 1; omega) _).setCell (p := ⟨q + 1, 2, none⟩) (by show q ≤ q + 1; omega) _).setCell (p := ⟨q + 1, 3, none⟩) (by show q ≤ q + 1; omega) _
/-- What the loop over the kids keeps. -/
def TyL (w : World) (q : Nat) (cn : Array Value) (x0 x1 : Int) (d i : Nat) (W : World) : Prop :=
  ∃ (kids : List Nd) (us : List (Option Addr × Nat × Nat)) (a : Option Addr) (n c : Nat), kids.length = n ∧ n = i ∧ TyS w q cn #[.int .i64 x0, .int .i64 x1, .string ⟨#[]⟩, .slice a n c] W ∧ KRow (fun b => q + 3 ≤ b) (q + 3) W (.slice a n c) kids us ∧ Sms d kids
theorem TyL.step {w : World} {q : Nat} {cn : Array Value} {x0 x1 : Int} {W w5 w6 : World} {kids : List Nd} {us : List (Option Addr × Nat × Nat)} {a ka : Option Addr} {n c kn kc gg c1 : Nat} {t : Nd} (hn : kids.length = n)
    (ts : TyS w q cn #[.int .i64 x0, .int .i64 x1, .string ⟨#[]⟩, .slice a n c] W) (hk : KRow (fun b => q + 3 ≤ b) (q + 3) W (.slice a n c) kids us) (hkv : KV (fun b => W.heap.size ≤ b) w5 ka kn kc t.kids) (o5 : Below W.heap.size W w5)
    (hown : w6.ownsRow (q + 3) 25 4 (.slice (some ⟨gg, 0, none⟩) (n + 1) c1) (n + 1) (kcs kids us ++ [.int .i64 t.id, .int .i64 t.kind, .string t.text, .slice ka kn kc]))
    (hg : (w5.alloc (.cells #[.int .i64 t.id, .int .i64 t.kind, .string t.text, .slice ka kn kc] 25)).grownBy w6 (Value.slice a n c).ownBlock) (hat : (Value.slice a n c).ownBlock = some gg ∨ gg = w5.heap.size + 1) :
    w6.cell? ⟨q + 2, 3, none⟩ = some (.slice a n c) ∧ w6.frozen? ⟨q + 2, 3, none⟩ = false ∧ TyS w q cn #[.int .i64 x0, .int .i64 x1, .string ⟨#[]⟩, .slice (some ⟨gg, 0, none⟩) (n + 1) c1] (w6.setCell ⟨q + 2, 3, none⟩ (.slice (some ⟨gg, 0, none⟩) (n + 1) c1)) ∧
      KRow (fun b => q + 3 ≤ b) (q + 3) (w6.setCell ⟨q + 2, 3, none⟩ (.slice (some ⟨gg, 0, none⟩) (n + 1) c1)) (.slice (some ⟨gg, 0, none⟩) (n + 1) c1) (kids ++ [t]) (us ++ [(ka, kn, kc)]) := by
  subst hn
  have h3 := ts.hq
  have hz5 := o5.size
  have hol := hk.own.lt
  have ts5 := ts.on o5
  have hrl := ts5.ko.lt
  have hrl0 := ts.ko.lt
  have hk5 : KRow (fun b => q + 3 ≤ b) (q + 3) w5 (.slice a kids.length c) kids us := hk.keep hz5 (fun b hb hlt => o5.block b hlt)
  have hkv5 : KV (fun b => q + 3 ≤ b ∧ (Value.slice a kids.length c).ownBlock ≠ some b) w5 ka kn kc t.kids := hkv.keep (Nat.le_refl _) (fun _ _ _ => rfl) (fun b hb _ => ⟨by omega, fun e => by have := (hol b e).2; omega⟩)
  have hX : Below w5.heap.size w5 (w5.alloc (.cells #[.int .i64 t.id, .int .i64 t.kind, .string t.text, .slice ka kn kc] 25)) := (Below.refl _ _).alloc (Nat.le_refl _) _
  have hk6 := hk5.push hkv5 hX hg (hat.imp id (fun e => by omega)) hown
  have hne : ∀ b, b ≤ q + 2 → some b ≠ (Value.slice a kids.length c).ownBlock := fun b hb e => by have := (hol b e.symm).1; omega
  have hb6 : ∀ b, b ≤ q + 2 → w6.heap[b]? = w5.heap[b]? := fun b hb => (hg.block b (by have := hX.size; omega) (hne b hb)).trans (hX.block b (by omega))
  have o6 : Below q w w6 := (ts5.o.trans (hX.mono (by omega))).grown hg (by have := hX.size; omega) (fun k e => by have := (hol k e).1; omega)
  have ts6 : TyS w q cn #[.int .i64 x0, .int .i64 x1, .string ⟨#[]⟩, .slice a kids.length c] w6 := ⟨h3, ts5.kn.same (hb6 q (by omega)), ts5.kr.same (hb6 _ (by omega)), ts5.ko.same (hb6 _ (by omega)), o6⟩
  refine ⟨ts6.ko.cell 3, ts6.ko.frozen 3, by simpa using ts6.set 3 (.slice (some ⟨gg, 0, none⟩) (kids.length + 1) c1), ?_⟩
  refine hk6.keep (by simp [World.setCell]) (fun b hb hlt => Below.heap_setCell w6 ⟨q + 2, 3, none⟩ _ b ?_)
  rcases hb with hb | hb
  · show b ≠ q + 2; omega
  · have := (hown.lt b hb).1; show b ≠ q + 2; omega

mutual
/-- All texts of a tree have at most so many bytes. -/
def Nd.txl : Nd → Prop
  | .mk _ _ x ks => x.size ≤ 9223372036854775807 ∧ txls ks
def txls : List Nd → Prop
  | [] => True
  | x :: l => x.txl ∧ txls l
end
theorem txls_mem : ∀ (l : List Nd), txls l → ∀ x ∈ l, x.txl
  | [], h, x, hx => by simp at hx
  | y :: l, h, x, hx => by
    rw [txls] at h
    rcases List.mem_cons.1 hx with rfl | hx
    · exact h.1
    · exact txls_mem l h.2 x hx
theorem Nd.txl_eq (t : Nd) : t.txl ↔ t.text.size ≤ 9223372036854775807 ∧ txls t.kids := by cases t; rw [Nd.txl]; rfl

set_option maxRecDepth 100000 in
set_option maxHeartbeats 8000000 in
theorem tidy_step (E D : Nat) (t : Nd) (a : Option Addr) (n cap : Nat) (w : World) (G : Nat → Prop) (hK : KV G w a n cap t.kids) (hx : t.txl) (hE : E = D + 1) (hE2 : E ≤ 10)
    (ih : ∀ (t : Nd) (a : Option Addr) (n cap : Nat) (w : World), 1 < E → t.txl → KV G w a n cap t.kids → Calls Try.prog 13 #[ndv t a n cap, .int .i64 (D : Int)] w (TidyP D w)) :
    Calls Try.prog 13 #[ndv t a n cap, .int .i64 (E : Int)] w (TidyP E w) := by
  obtain ⟨i3, hi3, iy0, iy1, iy2⟩ := info_parts infoNd
  obtain ⟨q, hq⟩ : ∃ q, w.heap.size = q := ⟨_, rfl⟩
  obtain ⟨hkl, hnc, hcm⟩ := hK.len
  obtain ⟨hxt, hxk⟩ := t.txl_eq.1 hx
  have HXK := Lib.hid (txls_mem _ hxk)
  obtain ⟨W3, hW3⟩ : ∃ W, ((w.alloc (.cells (ndc t a n cap) 25)).alloc (.cells #[.int .i64 0, .int .i64 0, .string ⟨#[]⟩, .slice none 0 0] 25)).alloc (.cells #[.int .i64 t.id, .int .i64 t.kind, .string ⟨#[]⟩, .slice none 0 0] 25) = W := ⟨_, rfl⟩
  have HT3 : Hid (TyS w q (ndc t a n cap) #[.int .i64 t.id, .int .i64 t.kind, .string ⟨#[]⟩, .slice none 0 0] W3) := by
    refine ⟨hq, ?_, ?_, ?_, ?_⟩
    · rw [← hW3, ← hq]; exact ((Blk.new _ _ _).alloc _).alloc _
    · rw [← hW3, ← hq]
      have := Blk.new (w.alloc (.cells (ndc t a n cap) 25)) 25 zcs
      rw [World.size_alloc] at this
      exact this.alloc _
    · rw [← hW3, ← hq]
      have := Blk.new ((w.alloc (.cells (ndc t a n cap) 25)).alloc (.cells #[.int .i64 0, .int .i64 0, .string ⟨#[]⟩, .slice none 0 0] 25)) 25 #[.int .i64 t.id, .int .i64 t.kind, .string ⟨#[]⟩, .slice none 0 0]
      rw [World.size_alloc, World.size_alloc] at this
      exact this
    · rw [← hW3, ← hq]; exact (((Below.refl _ _).alloc (Nat.le_refl _) _).alloc (by simp) _).alloc (by simp; omega) _
  have HLF : Hid (∀ W, Calls Try.prog 46 #[ndv t a n cap] W fun e w' => e = .returned (.bool (decide t.leaf)) ∧ Below W.heap.size W w') := fun W => rleaf_any t a n cap W
  have HNL : Hid (∀ W, Below q w W → KV G W a n cap t.kids) := fun W hW => hK.on (by rw [hq]; exact hW)
  obtain ⟨id, hid⟩ : ∃ x, t.id = x := ⟨_, rfl⟩
  obtain ⟨kd, hkd⟩ : ∃ x, t.kind = x := ⟨_, rfl⟩
  obtain ⟨tx, htx⟩ : ∃ x, t.text = x := ⟨_, rfl⟩
  obtain ⟨ks, hks⟩ : ∃ x, t.kids = x := ⟨_, rfl⟩
  have hlf : t.leaf ↔ (0 ≤ kd ∧ kd ≤ 8) := by unfold Nd.leaf; rw [hkd]
  unfold ndv ndc at *
  rw [hid, hkd, htx] at hW3 HT3 HLF
  rw [hid, hkd, htx]
  rw [hks] at HNL hkl HXK
  rw [htx] at hxt
  have HW3 := Lib.hid hW3; have HQ := Lib.hid hq; have HKL := Lib.hid hkl; have HIH := Lib.hid ih; have HE := Lib.hid hE
  have hn5 : n ≤ 9223372036854775807 := by omega
  by_cases hleaf : t.leaf
  · rw [show decide t.leaf = true by simp [hleaf]] at HLF
    have hkd2 := hlf.1 hleaf
    have HSH := Lib.hid (fun W => short_any tx 8 W hxt (by omega))
    have hss := shS_size tx 8
    obtain ⟨sx, hsx⟩ : ∃ x, shS tx 8 = x := ⟨_, rfl⟩
    rw [hsx] at HSH hss
    clear hK hW3 hid hkd htx hks hq hkl ih hlf hleaf hx hxt hxk hsx hE
    go_enter Try.func13, Try.ntmps13
    go_wp2_with fail
    rw [HW3.out]
    refine (HLF.out W3).mono ?_
    rintro e w4 ⟨rfl, b4⟩
    have ts4 := HT3.out.on b4
    have ck0 := ts4.kn.cell 0; have ck1 := ts4.kn.cell 1; have ck2 := ts4.kn.cell 2; have ck3 := ts4.kn.cell 3
    have co0 := ts4.ko.cell 0; have co1 := ts4.ko.cell 1; have co2 := ts4.ko.cell 2; have co3 := ts4.ko.cell 3
    have cr0 := ts4.kr.cell 0; have cr1 := ts4.kr.cell 1; have cr2 := ts4.kr.cell 2; have cr3 := ts4.kr.cell 3
    have cf0 := ts4.kr.frozen 0; have cf1 := ts4.kr.frozen 1; have cf2 := ts4.kr.frozen 2; have cf3 := ts4.kr.frozen 3
    have cp2 := ts4.ko.frozen 2; have cp3 := ts4.ko.frozen 3
    simp only [List.getElem?_toArray, List.getElem?_cons_zero, List.getElem?_cons_succ] at ck0 ck1 ck2 ck3 co0 co1 co2 co3 cr0 cr1 cr2 cr3
    have hfin := (ts4.set 2 (.string sx)).fin (d := E) (t := .mk id kd sx []) (a := none) (n := 0) (cap := 0) (.nil (fun _ => rfl) (by omega)) (Sm.leaf _ _ _ _ hss)
    simp only [Nd.id, Nd.kind, Nd.text] at hfin
    have HFIN := Lib.hid hfin
    have hqs : W3.heap.size = W3.heap.size := rfl
    clear ts4 b4 hfin hqs
    rw [HQ.out]
    go_wp2_with fail
    refine (HSH.out w4).mono ?_
    rintro e w5 ⟨rfl, rfl⟩
    go_wp2
    obtain ⟨z, hz⟩ := HFIN.out
    have z0 := z.cell 0
    have z1 := z.cell 1
    have z2 := z.cell 2
    have z3 := z.cell 3
    simp only [List.getElem?_toArray, List.getElem?_cons_zero, List.getElem?_cons_succ] at z0 z1 z2 z3
    refine bodyPost_ret (v := .agg #[.int .i64 id, .int .i64 kd, .string sx, .slice none 0 0]) (by simp [results, Try.results13, go_sem, z0, z1, z2, z3]) rfl hz
  · rw [show decide t.leaf = false by simp [hleaf]] at HLF
    have hlf : Hid (¬ (0 ≤ kd ∧ kd ≤ 8)) := fun h => hleaf (hlf.2 h)
    clear hK hW3 hid hkd htx hks hq hkl ih hleaf hx hxt hxk hE
    go_enter Try.func13, Try.ntmps13
    go_wp2_with fail
    rw [HW3.out]
    refine (HLF.out W3).mono ?_
    rintro e w4 ⟨rfl, b4⟩
    have HL0 : Hid (TyL w q #[.int .i64 id, .int .i64 kd, .string tx, .slice a n cap] id kd D 0 w4) := ⟨[], [], none, 0, 0, rfl, rfl, HT3.out.on b4, KRow.nil _ _ _, Sms.nil _⟩
    clear b4
    rw [HQ.out]
    go_wp2_with fail
    go_loopw [6] (fun g wr => ∃ i : Nat, i ≤ 3 ∧ g = .int .i64 (i : Int) ∧ Hid (TyL w q #[.int .i64 id, .int .i64 kd, .string tx, .slice a n cap] id kd D i wr)) (fun g _ => 3 - (intOf g).toNat)
    case atStart => exact ⟨0, by omega, rfl, HL0⟩
    case round =>
      obtain ⟨i, hi3', rfl, HL⟩ := hrel
      obtain ⟨kids, us, aa, nn, cc, hn, hni, ts, hkr, hsm⟩ := HL.out
      have hni' := hni.symm
      subst hni'
      clear hni
      by_cases g1 : (i : Int) < (n : Int)
      · by_cases g2 : (i : Int) < 3
        · by_cases g3 : 1 < (E : Int)
          · have hik : i < ks.length := by rw [HKL.out]; omega
            have hm1 : IntKind.i64.wrap ((E : Int) - 1) = (D : Int) := by have := HE.out; simp [IntKind.wrap, IntKind.signed, IntKind.bits]; omega
            obtain ⟨b, off, u, un, uc, rfl, hG, hb, hku, hcell⟩ := (HNL.out wr ts.o).kid hik
            obtain ⟨d0, d1, d2, d3⟩ := hcell wr rfl
            obtain ⟨x, hx⟩ : ∃ x, ks[i] = x := ⟨_, rfl⟩
            rw [hx] at d0 d1 d2 hku
            have hxm : x ∈ ks := by rw [← hx]; exact List.getElem_mem hik
            have HC := Lib.hid (HIH.out x u un uc wr.drew (by omega) (HXK.out x hxm) (hku.on (Below.refl _ wr).drew))
            have tsd : TyS w q #[.int .i64 id, .int .i64 kd, .string tx, .slice (some ⟨b, off, none⟩) n cap] #[.int .i64 id, .int .i64 kd, .string ⟨#[]⟩, .slice aa i cc] wr.drew := ts.on (Below.refl _ wr).drew
            have hkd : KRow (fun b => q + 3 ≤ b) (q + 3) wr.drew (.slice aa i cc) kids us := hkr.keep (Nat.le_refl _) (fun _ _ _ => rfl)
            have HSTEP : Hid (∀ (t : Nd) (ka : Option Addr) (kn kc : Nat) (w5 : World), Below wr.drew.heap.size wr.drew w5 → w5.cell? ⟨q + 2, 3, none⟩ = some (.slice aa i cc) ∧ (w5.alloc (.cells #[.int .i64 t.id, .int .i64 t.kind, .string t.text, .slice ka kn kc] 25)).ownsRow (q + 3) 25 4 (.slice aa i cc) i (kcs kids us) ∧ q + 2 < w5.heap.size) := fun t ka kn kc w5 o5 => by
              have ts5 := tsd.on o5
              have hk5 := hkd.keep o5.size (fun b hb hlt => o5.block b hlt)
              refine ⟨ts5.ko.cell 3, ?_, ts5.ko.lt⟩
              have := hk5.own
              rw [hn] at this
              exact own_same this (fun g hg => Below.heap_alloc _ _ g (hk5.own.lt g hg).2)
            have HGO : Hid (∀ (t : Nd) (ka : Option Addr) (kn kc gg c1 : Nat) (w5 w6 : World), KV (fun b => wr.drew.heap.size ≤ b) w5 ka kn kc t.kids → Below wr.drew.heap.size wr.drew w5 → Sm D t → w6.ownsRow (q + 3) 25 4 (.slice (some ⟨gg, 0, none⟩) (i + 1) c1) (i + 1) (kcs kids us ++ [.int .i64 t.id, .int .i64 t.kind, .string t.text, .slice ka kn kc]) →
                (w5.alloc (.cells #[.int .i64 t.id, .int .i64 t.kind, .string t.text, .slice ka kn kc] 25)).grownBy w6 (Value.slice aa i cc).ownBlock → ((Value.slice aa i cc).ownBlock = some gg ∨ gg = w5.heap.size + 1) →
                w6.cell? ⟨q + 2, 3, none⟩ = some (.slice aa i cc) ∧ w6.frozen? ⟨q + 2, 3, none⟩ = false ∧ TyL w q #[.int .i64 id, .int .i64 kd, .string tx, .slice (some ⟨b, off, none⟩) n cap] id kd D (i + 1) (w6.setCell ⟨q + 2, 3, none⟩ (.slice (some ⟨gg, 0, none⟩) (i + 1) c1))) := fun t ka kn kc gg c1 w5 w6 hkv o5 hst hown hg hat => by
              obtain ⟨q1, q2, q3, q4⟩ := TyL.step hn tsd hkd hkv o5 hown hg hat
              exact ⟨q1, q2, kids ++ [t], us ++ [(ka, kn, kc)], _, i + 1, c1, by simp [hn], by omega, q3, q4, hsm.push hst⟩
            have k3 := ts.kn.cell 3
            have s3 := ts.ko.cell 3
            simp only [List.getElem?_toArray, List.getElem?_cons_zero, List.getElem?_cons_succ] at k3 s3
            obtain ⟨xi, hxi⟩ : ∃ y, x.id = y := ⟨_, rfl⟩
            obtain ⟨xk, hxk⟩ : ∃ y, x.kind = y := ⟨_, rfl⟩
            obtain ⟨xt, hxt⟩ : ∃ y, x.text = y := ⟨_, rfl⟩
            unfold ndv at HC
            rw [hxi] at d0 HC
            rw [hxk] at d1 HC
            rw [hxt] at d2 HC
            clear ts hkr hsm tsd hkd hn HL hG hb hku hcell hx hxm hxi hxk hxt hik
            go_wp2_with fail
            go_region_law (first
              | (refine step_append_lies _ (by rfl) _ _ _ (by rfl) (q + 3) 25 i3 _ 4 56 Try.underlying23 hi3 iy0 iy1 iy2 rfl (by decide) (.slice aa i cc) i (kcs kids us) (by rfl) s6 ⟨w5.heap.size, 0, none⟩ 1 1 [.int .i64 ti, .int .i64 tk, .string tt, .slice ka kn kc] (by rfl) (by rfl) (World.news_of_block (cs := #[.int .i64 ti, .int .i64 tk, .string tt, .slice ka kn kc]) (t := 25) (fr := (0, 0)) (World.alloc_heap_new w5 _)) (fun x hx => by simp at hx; rcases hx with rfl | rfl | rfl | rfl <;> rfl) (by omega) (by unfold maxLen; omega) (by omega) (by simp; omega) (w5.heap.size + 1) (by simp) ?_; intro gg c1 w6 hown6 hgrow6 hat6 hlt6; obtain ⟨s7, f7, HTL⟩ := HG5.out gg c1 w6 hown6 hgrow6 hat6; have HTL := Lib.hid HTL; clear hown6 hgrow6 hat6 hlt6 s6)
              | (go_simp; go_at_call 13; refine HC.out.mono ?_; rintro e w5 ⟨⟨ti, tk, tt, tks⟩, ka, kn, kc, rfl, hkv5, hsm5, o5⟩; obtain ⟨s5, s6, z5⟩ := HSTEP.out ⟨ti, tk, tt, tks⟩ ka kn kc w5 o5; have HG5 := Lib.hid (fun gg c1 w6 => HGO.out _ _ _ _ gg c1 w5 w6 hkv5 o5 hsm5); simp only [Nd.id, Nd.kind, Nd.text] at s6 HG5; clear hkv5 o5 hsm5; simp only [ndv, Nd.id, Nd.kind, Nd.text]))
            all_goals
              go_wp2
              go_roundw
              case rel => exact ⟨i + 1, by omega, by go_num, HTL⟩
              case measure => clear hm1; simp only [intOf]; omega
          · skip
            have hkv := hkr.kv (G' := fun b => q + 2 ≤ b) (fun b hb hlt => by
              rcases hb with hb | hb
              · have hb : q + 3 ≤ b := hb; show q + 2 ≤ b; omega
              · have := (hkr.own.lt b hb).1; show q + 2 ≤ b; omega)
            have hfin := ts.fin (d := E) (t := .mk id kd ⟨#[]⟩ kids) hkv.1 (by rw [HE.out]; exact hsm.root (by omega) _ _ (by have := hlf.out; omega))
            simp only [Nd.id, Nd.kind, Nd.text] at hfin
            have ek0 := ts.kn.cell 0; have ek1 := ts.kn.cell 1; have ek2 := ts.kn.cell 2; have ek3 := ts.kn.cell 3
            have eo0 := ts.ko.cell 0; have eo1 := ts.ko.cell 1; have eo2 := ts.ko.cell 2; have eo3 := ts.ko.cell 3
            have er0 := ts.kr.cell 0; have er1 := ts.kr.cell 1; have er2 := ts.kr.cell 2; have er3 := ts.kr.cell 3
            have ef0 := ts.kr.frozen 0; have ef1 := ts.kr.frozen 1; have ef2 := ts.kr.frozen 2; have ef3 := ts.kr.frozen 3
            have ep2 := ts.ko.frozen 2; have ep3 := ts.ko.frozen 3
            simp only [List.getElem?_toArray, List.getElem?_cons_zero, List.getElem?_cons_succ] at ek0 ek1 ek2 ek3 eo0 eo1 eo2 eo3 er0 er1 er2 er3
            have HFIN := Lib.hid hfin
            clear ts hkr hsm hkv hfin hn
            go_wp2
            obtain ⟨z, hz⟩ := HFIN.out
            have z0 := z.cell 0
            have z1 := z.cell 1
            have z2 := z.cell 2
            have z3 := z.cell 3
            simp only [List.getElem?_toArray, List.getElem?_cons_zero, List.getElem?_cons_succ] at z0 z1 z2 z3
            refine bodyPost_ret (v := .agg #[.int .i64 id, .int .i64 kd, .string ⟨#[]⟩, .slice aa i cc]) (by simp [results, Try.results13, go_sem, z0, z1, z2, z3]) rfl hz
        · skip
          have hkv := hkr.kv (G' := fun b => q + 2 ≤ b) (fun b hb hlt => by
            rcases hb with hb | hb
            · have hb : q + 3 ≤ b := hb; show q + 2 ≤ b; omega
            · have := (hkr.own.lt b hb).1; show q + 2 ≤ b; omega)
          have hfin := ts.fin (d := E) (t := .mk id kd ⟨#[]⟩ kids) hkv.1 (by rw [HE.out]; exact hsm.root (by omega) _ _ (by have := hlf.out; omega))
          simp only [Nd.id, Nd.kind, Nd.text] at hfin
          have ek0 := ts.kn.cell 0; have ek1 := ts.kn.cell 1; have ek2 := ts.kn.cell 2; have ek3 := ts.kn.cell 3
          have eo0 := ts.ko.cell 0; have eo1 := ts.ko.cell 1; have eo2 := ts.ko.cell 2; have eo3 := ts.ko.cell 3
          have er0 := ts.kr.cell 0; have er1 := ts.kr.cell 1; have er2 := ts.kr.cell 2; have er3 := ts.kr.cell 3
          have ef0 := ts.kr.frozen 0; have ef1 := ts.kr.frozen 1; have ef2 := ts.kr.frozen 2; have ef3 := ts.kr.frozen 3
          have ep2 := ts.ko.frozen 2; have ep3 := ts.ko.frozen 3
          simp only [List.getElem?_toArray, List.getElem?_cons_zero, List.getElem?_cons_succ] at ek0 ek1 ek2 ek3 eo0 eo1 eo2 eo3 er0 er1 er2 er3
          have HFIN := Lib.hid hfin
          clear ts hkr hsm hkv hfin hn
          go_wp2
          obtain ⟨z, hz⟩ := HFIN.out
          have z0 := z.cell 0
          have z1 := z.cell 1
          have z2 := z.cell 2
          have z3 := z.cell 3
          simp only [List.getElem?_toArray, List.getElem?_cons_zero, List.getElem?_cons_succ] at z0 z1 z2 z3
          refine bodyPost_ret (v := .agg #[.int .i64 id, .int .i64 kd, .string ⟨#[]⟩, .slice aa i cc]) (by simp [results, Try.results13, go_sem, z0, z1, z2, z3]) rfl hz
      · skip
        have hkv := hkr.kv (G' := fun b => q + 2 ≤ b) (fun b hb hlt => by
          rcases hb with hb | hb
          · have hb : q + 3 ≤ b := hb; show q + 2 ≤ b; omega
          · have := (hkr.own.lt b hb).1; show q + 2 ≤ b; omega)
        have hfin := ts.fin (d := E) (t := .mk id kd ⟨#[]⟩ kids) hkv.1 (by rw [HE.out]; exact hsm.root (by omega) _ _ (by have := hlf.out; omega))
        simp only [Nd.id, Nd.kind, Nd.text] at hfin
        have ek0 := ts.kn.cell 0; have ek1 := ts.kn.cell 1; have ek2 := ts.kn.cell 2; have ek3 := ts.kn.cell 3
        have eo0 := ts.ko.cell 0; have eo1 := ts.ko.cell 1; have eo2 := ts.ko.cell 2; have eo3 := ts.ko.cell 3
        have er0 := ts.kr.cell 0; have er1 := ts.kr.cell 1; have er2 := ts.kr.cell 2; have er3 := ts.kr.cell 3
        have ef0 := ts.kr.frozen 0; have ef1 := ts.kr.frozen 1; have ef2 := ts.kr.frozen 2; have ef3 := ts.kr.frozen 3
        have ep2 := ts.ko.frozen 2; have ep3 := ts.ko.frozen 3
        simp only [List.getElem?_toArray, List.getElem?_cons_zero, List.getElem?_cons_succ] at ek0 ek1 ek2 ek3 eo0 eo1 eo2 eo3 er0 er1 er2 er3
        have HFIN := Lib.hid hfin
        clear ts hkr hsm hkv hfin hn
        go_wp2
        obtain ⟨z, hz⟩ := HFIN.out
        have z0 := z.cell 0
        have z1 := z.cell 1
        have z2 := z.cell 2
        have z3 := z.cell 3
        simp only [List.getElem?_toArray, List.getElem?_cons_zero, List.getElem?_cons_succ] at z0 z1 z2 z3
        refine bodyPost_ret (v := .agg #[.int .i64 id, .int .i64 kd, .string ⟨#[]⟩, .slice aa i cc]) (by simp [results, Try.results13, go_sem, z0, z1, z2, z3]) rfl hz

theorem tidy_any (G : Nat → Prop) : ∀ (D E : Nat) (t : Nd) (a : Option Addr) (n cap : Nat) (w : World), E = D + 1 → E ≤ 10 → t.txl → KV G w a n cap t.kids →
    Calls Try.prog 13 #[ndv t a n cap, .int .i64 (E : Int)] w (TidyP E w)
  | 0, E, t, a, n, cap, w, hE, hE2, hx, hK => tidy_step E 0 t a n cap w G hK hx hE hE2 (fun t a n cap w h => by omega)
  | D + 1, E, t, a, n, cap, w, hE, hE2, hx, hK => tidy_step E (D + 1) t a n cap w G hK hx hE hE2 (fun t a n cap w h hx hK => tidy_any G D (D + 1) t a n cap w rfl (by omega) hx hK)

end Go.Proofs.Ytfecajeenmnoeaa
