/- What is known while the program reads a declaration's terms. No program is walked here. -/
import Derived.Test.YtpmpooekpeocdaaGreatDcF
import Derived.Test.YtpmpooekpeocdaaGreatDcG
import Derived.Test.YtpmpooekpeocdaaGreatApN
import Derived.Test.YtpmpooekpeocdaaGreatDcE
import Derived.Test.YtpmpooekpeocdaaGreatTFTree
namespace Go.Proofs.YtpmpooekpeocdaaGreat
open Go.ChangeShapes Go.WideShapes Go.ChangeAt Go.RowKit

/-- A block that holds the terms of a declaration. -/
def T3 (w : World) (b : Nat) (xs : List Value) : Prop := w.ownsRow 0 64 3 (.slice (some ⟨b, 0, none⟩) 1 1) 1 xs
theorem T3.cell {w : World} {b : Nat} {xs : List Value} (h : T3 w b xs) (o : Nat) (ho : o < 3) : w.cell? ⟨b, o, none⟩ = xs[o]? := World.ownsRow.cellAt h o (by omega)
theorem T3.set {w : World} {b : Nat} {xs : List Value} (h : T3 w b xs) (o : Nat) (u : Value) : T3 (w.setCell ⟨b, o, none⟩ u) b (xs.set o u) := (World.ownsRow.stored h o u).1
theorem T3.frozen {w : World} {b : Nat} {xs : List Value} (h : T3 w b xs) (o : Nat) : w.frozen? ⟨b, o, none⟩ = false := World.ownsRow.frozenAt h o
theorem t3_heap {w : World} {b : Nat} {xs : List Value} (h : T3 w b xs) : ∃ cs, w.heap[b]? = some (.cells cs 64 (0, 0)) := by
  rcases h.2 with ⟨h', _⟩ | ⟨g, cap, cur, h', _, h4, _⟩
  · simp at h'
  · simp only [Value.slice.injEq, Option.some.injEq, Addr.mk.injEq, and_true, true_and] at h'
    obtain ⟨rfl, rfl⟩ := h'
    exact ⟨cur, h4⟩
theorem t3_same {w w' : World} {b : Nat} {xs : List Value} (h : T3 w b xs) (hh : w'.heap[b]? = w.heap[b]?) : T3 w' b xs := by
  refine ⟨h.1, ?_⟩
  rcases h.2 with h1 | ⟨g, cap, cur, h1, h2, h3, h4⟩
  · exact .inl h1
  · have e : g = b := by simp at h1; omega
    subst e
    exact .inr ⟨g, cap, cur, h1, h2, by rw [hh]; exact h3, h4⟩
def noTerms : Array Value := #[.pointer none, .pointer none, .slice none 0 0]
/-- What is known while a declaration is read. -/
structure DSt (w0 w : World) (dcl : Array Value) (Sb mb gb : Nat) (xs : List Value) (wr : World) (clock : Nat) (L : List (Nk × Nat × Nat)) (Z : Nat → Zs) (H : Nat → Bool) : Prop where
  st : St w0.heap.size wr Sb mb gb clock L Z H
  bel : Below w0.heap.size w0 wr
  kx : KeptX (fun k => k = mb ∨ w.heap.size ≤ k) w wr
  n0 : wr.heap[w.heap.size]? = some (.cells dcl 36 (0, 0))
  n1 : wr.heap[w.heap.size + 1]? = some (.cells noTerms 64 (0, 0))
  n2 : T3 wr (w.heap.size + 2) xs
  sz : w.heap.size + 3 ≤ wr.heap.size
  mbl : mb < w.heap.size
  w0l : w0.heap.size ≤ w.heap.size
section
variable {w0 w : World} {dcl : Array Value} {Sb mb gb : Nat} {xs : List Value} {wr w' : World} {clock : Nat} {L : List (Nk × Nat × Nat)} {Z : Nat → Zs} {H : Nat → Bool}
theorem DSt.keep (h : DSt w0 w dcl Sb mb gb xs wr clock L Z H) (hb : Below wr.heap.size wr w') : DSt w0 w dcl Sb mb gb xs w' clock L Z H := by
  have hs := h.sz
  have hw := h.w0l
  exact ⟨h.st.keep hb (by omega), h.bel.trans (hb.mono (by omega)), h.kx.trans (KeptX.of hb), (hb.block _ (by omega)).trans h.n0, (hb.block _ (by omega)).trans h.n1, t3_same h.n2 (hb.block _ (by omega)), by have := hb.size; omega, h.mbl, h.w0l⟩
theorem DSt.call {clock' : Nat} {L' : List (Nk × Nat × Nat)} {Z' : Nat → Zs} {H' : Nat → Bool} (h : DSt w0 w dcl Sb mb gb xs wr clock L Z H) (hs' : St w0.heap.size w' Sb mb gb clock' L' Z' H') (hb' : Below w0.heap.size w0 w') (hk : KeptX (fun k => k = mb) wr w') : DSt w0 w dcl Sb mb gb xs w' clock' L' Z' H' := by
  have hs := h.sz
  have hm := h.mbl
  have hb : ∀ k, w.heap.size ≤ k → k < wr.heap.size → w'.heap[k]? = wr.heap[k]? := fun k h1 h2 => hk.block k h2 (by show ¬ k = mb; omega)
  exact ⟨hs', hb', h.kx.trans (hk.mono (fun k _ e => .inl e)), (hb _ (by omega) (by omega)).trans h.n0, (hb _ (by omega) (by omega)).trans h.n1, t3_same h.n2 (hb _ (by omega) (by omega)), by have := hk.size; omega, h.mbl, h.w0l⟩
theorem DSt.grow {R e : Nat} {cs : Array Value} {f : Nat × Nat} (h : DSt w0 w dcl Sb mb gb xs wr clock L Z H) (hR : wr.heap[R]? = some (.cells cs e f)) (he : e ≠ 121) (he2 : e ≠ 141) (hg : wr.grownBy w' (some R)) (h3 : w.heap.size + 3 ≤ R) : DSt w0 w dcl Sb mb gb xs w' clock L Z H := by
  have hs := h.sz
  have hw := h.w0l
  have hb : ∀ k, k < wr.heap.size → k < w.heap.size + 3 → w'.heap[k]? = wr.heap[k]? := fun k h1 h2 => hg.block k h1 (fun e => by have := Option.some.inj e; omega)
  exact ⟨h.st.other hR he he2 hg (by omega) (by omega), h.bel.grown hg (by omega) (fun k hk => by have := Option.some.inj hk; omega), h.kx.trans (KeptX.grown hg (fun b hb => .inr (by have := Option.some.inj hb; omega))), (hb _ (by omega) (by omega)).trans h.n0, (hb _ (by omega) (by omega)).trans h.n1, t3_same h.n2 (hb _ (by omega) (by omega)), by have := hg.size; omega, h.mbl, h.w0l⟩
theorem DSt.set (h : DSt w0 w dcl Sb mb gb xs wr clock L Z H) (o : Nat) (u : Value) : DSt w0 w dcl Sb mb gb (xs.set o u) (wr.setCell ⟨w.heap.size + 2, o, none⟩ u) clock L Z H := by
  have hs := h.sz
  have hw := h.w0l
  have hg := grown_set wr ⟨w.heap.size + 2, o, none⟩ u
  obtain ⟨cs, hR⟩ := t3_heap h.n2
  have hb : ∀ k, k < wr.heap.size → k < w.heap.size + 2 → (wr.setCell ⟨w.heap.size + 2, o, none⟩ u).heap[k]? = wr.heap[k]? := fun k h1 h2 => hg.block k h1 (fun e => by have : k = w.heap.size + 2 := Option.some.inj e; omega)
  exact ⟨h.st.other hR (by decide) (by decide) hg (by omega) (by omega), h.bel.grown hg (by omega) (fun k hk => by have : w.heap.size + 2 = k := Option.some.inj hk; omega), h.kx.trans (KeptX.grown hg (fun b hb => .inr (by have : w.heap.size + 2 = b := Option.some.inj hb; omega))), (hb _ (by omega) (by omega)).trans h.n0, (hb _ (by omega) (by omega)).trans h.n1, h.n2.set o u, by have := hg.size; omega, h.mbl, h.w0l⟩
theorem DSt.last (h : DSt w0 w dcl Sb mb gb xs wr clock L Z H) (hg : wr.grownBy w' (some (w.heap.size + 1))) : St w0.heap.size w' Sb mb gb clock L Z H ∧ Below w0.heap.size w0 w' ∧ KeptX (fun k => k = mb) w w' := by
  have hs := h.sz
  have hw := h.w0l
  refine ⟨h.st.other h.n1 (by decide) (by decide) hg (by omega) (by omega), h.bel.grown hg (by omega) (fun k hk => by have := Option.some.inj hk; omega), ?_⟩
  exact (h.kx.trans (KeptX.grown hg (fun b hb => .inr (by have := Option.some.inj hb; omega)))).mono (fun k hk hc => by rcases hc with h | h; exact h; omega)
theorem DSt.row {v : Value} {n : Nat} {ys : List Value} (h : DSt w0 w dcl Sb mb gb xs wr clock L Z H) (ho : wr.ownsRow (w.heap.size + 3) 61 1 v n ys) (hg : wr.grownBy w' v.ownBlock) : DSt w0 w dcl Sb mb gb xs w' clock L Z H := by
  rcases ho.2 with ⟨h3, h0⟩ | ⟨g2, cap', cur, h3, h3b, h4, _⟩
  · have hgn : wr.grownBy w' none := by rw [h3] at hg; simpa [Value.ownBlock] using hg
    exact h.keep ((Below.refl _ _).grown hgn (Nat.le_refl _) (fun k hk => by cases hk))
  · have hgn : wr.grownBy w' (some g2) := by rw [h3] at hg; simpa [Value.ownBlock] using hg
    exact h.grow h4 (by decide) (by decide) hgn h3b
theorem DSt.start {clock0 : Nat} {L0 : List (Nk × Nat × Nat)} {Z0 : Nat → Zs} {H0 : Nat → Bool} (hs : St w0.heap.size w Sb mb gb clock0 L0 Z0 H0) (hb : Below w0.heap.size w0 w) : DSt w0 w dcl Sb mb gb [.pointer none, .pointer none, .slice none 0 0] (((w.alloc (.cells dcl 36)).alloc (.cells noTerms 64)).alloc (.cells noTerms 64)) clock0 L0 Z0 H0 := by
  have hb3 : Below w.heap.size w (((w.alloc (.cells dcl 36)).alloc (.cells noTerms 64)).alloc (.cells noTerms 64)) := bel_alloc (bel_alloc (bel_alloc (Below.refl _ _) _) _) _
  refine ⟨hs.keep hb3 hb.size, hb.trans (hb3.mono hb.size), KeptX.of hb3, ?_, ?_, ?_, by simp, (Array.getElem?_eq_some_iff.1 hs.mp).1, hb.size⟩
  · rw [(bel_alloc (bel_alloc (Below.refl (w.alloc (.cells dcl 36)).heap.size _) _) _).block _ (by simp)]
    exact heap_alloc_new w _
  · rw [(bel_alloc (Below.refl ((w.alloc (.cells dcl 36)).alloc (.cells noTerms 64)).heap.size _) _).block _ (by simp)]
    exact heap_alloc_at _ _ (by simp)
  · exact ⟨rfl, .inr ⟨w.heap.size + 2, 1, noTerms, rfl, Nat.zero_le _, heap_alloc_at _ _ (by simp), Nat.le_refl _, by decide, rfl, rfl⟩⟩
end
/-- A term whose texts and levels are small enough for the store. -/
structure TmS (ts : List Td) : Prop where
  sm : ∀ td ∈ ts, TSmall td
  sp : ∀ td ∈ ts, (spell td.lv).length ≤ 1000000000
structure DcS (d : Dc) : Prop where
  t : TmS d.t
  v : TmS d.v
  cs : ∀ c ∈ d.cs, TmS c.t
/-- A root that is read. -/
def RootAt (ts : List Td) (ps : List ByteArray) (L : List (Nk × Nat × Nat)) (Z : Nat → Zs) (q : Option Addr) : Prop := plainB ts ps = true → ∃ pt, q = some ⟨pt (ts.length - 1), 0, none⟩ ∧ Rd ts pt L Z ts.length
theorem RootAt.more {ts : List Td} {ps : List ByteArray} {L L' : List (Nk × Nat × Nat)} {Z Z' : Nat → Zs} {q : Option Addr} (h : RootAt ts ps L Z q) (hL : ∀ x ∈ L, x ∈ L' ∧ Z' x.2.1 = Z x.2.1) : RootAt ts ps L' Z' q := fun hp => by
  obtain ⟨pt, h1, h2⟩ := h hp
  exact ⟨pt, h1, h2.more hL⟩
/-- What readDecl answers. -/
def RdE (base Sb mb gb : Nat) (L0 : List (Nk × Nat × Nat)) (Z0 : Nat → Zs) (d : Dc) (e : Ending) (w' : World) : Prop :=
  ∃ q1 q2 ga gn gc clock L Z H, e = .returned (.tuple #[.agg #[.pointer q1, .pointer q2, .slice ga gn gc], .bool (declB d)]) ∧ St base w' Sb mb gb clock L Z H ∧ (∀ x ∈ L0, x ∈ L ∧ Z x.2.1 = Z0 x.2.1) ∧
    (declB d = true → d.k ≠ 5 → RootAt d.t d.ps L Z q1 ∧ (hasVal d.k = true → RootAt d.v d.ps L Z q2) ∧ ∃ qs : List (Option Addr), qs.length = d.cs.length ∧ w'.ownsRow base 61 1 (.slice ga gn gc) d.cs.length (qs.map .pointer) ∧ ∀ i (h1 : i < qs.length) (h2 : i < d.cs.length), RootAt d.cs[i].t d.ps L Z qs[i])
theorem more_trans {L L' L'' : List (Nk × Nat × Nat)} {Z Z' Z'' : Nat → Zs} (h : ∀ x ∈ L, x ∈ L' ∧ Z' x.2.1 = Z x.2.1) (h' : ∀ x ∈ L', x ∈ L'' ∧ Z'' x.2.1 = Z' x.2.1) : ∀ x ∈ L, x ∈ L'' ∧ Z'' x.2.1 = Z x.2.1 := fun x hx => ⟨(h' x (h x hx).1).1, (h' x (h x hx).1).2.trans (h x hx).2⟩
end Go.Proofs.YtpmpooekpeocdaaGreat

/- What the specification's l5Read looks at, in its order, as a plain function: it is the same as declB. No program is walked here. -/
namespace Go.Proofs.YtpmpooekpeocdaaGreat
open Go.ChangeShapes Go.WideShapes Go.ChangeAt Go.RowKit

/-- The constructors, one after the other. -/
def ctsB (ps taken : List ByteArray) : List Ct → Bool
  | [] => true
  | c :: cs => plainB c.t ps && (nameB c.s && (!hasB taken c.s && ctsB ps (taken ++ [c.s]) cs))
theorem cts_eq (ps : List ByteArray) : ∀ (cs : List Ct) (taken : List ByteArray), ctsB ps taken cs = (ctnB taken cs && cs.all (fun c => plainB c.t ps))
  | [], _ => rfl
  | c :: cs, taken => by
    simp only [ctsB, ctnB, List.all_cons, cts_eq ps cs]
    cases plainB c.t ps <;> cases nameB c.s <;> cases hasB taken c.s <;> simp
/-- What stands behind the type. -/
def valueB (d : Dc) : Bool := if hasVal d.k = true then plainB d.v d.ps else decide (d.v.length = 0)
def ctorsB (d : Dc) : Bool := decide (0 ≤ d.f) && (decide (d.f ≤ 50) && (decide (d.cs.length ≤ 20) && ctsB d.ps [d.s, recName d.s] d.cs))
def quotB (d : Dc) : Bool := decide (d.s = quotS) && (decide (d.t.length = 0) && (decide (d.v.length = 0) && decide (d.ps.length = 0)))
def restB (d : Dc) : Bool := if d.k = 5 then quotB d else plainB d.t d.ps && (valueB d && ctorsB d)
def firstB (d : Dc) : Bool := decide (1 ≤ d.k) && (decide (d.k ≤ 5) && (nameB d.s && (decide (d.s.size ≤ 36) && paramsB d.ps)))
def noneB (d : Dc) : Bool := decide (d.k = 4) || (decide (d.f = 0) && decide (d.cs.length = 0))
def readB (d : Dc) : Bool := firstB d && (noneB d && restB d)
theorem len0 {α : Type} {l : List α} (h : l.length = 0) : l = [] := List.eq_nil_of_length_eq_zero h
set_option linter.unusedSimpArgs false in
theorem read_decl (d : Dc) : readB d = declB d := by
  have v1 : hasVal 1 = false := rfl
  have v2 : hasVal 2 = true := rfl
  have v3 : hasVal 3 = true := rfl
  have v4 : hasVal 4 = false := rfl
  have v5 : hasVal 5 = false := rfl
  unfold readB declB firstB noneB restB fieldsD
  by_cases hk : d.k = 1 ∨ d.k = 2 ∨ d.k = 3 ∨ d.k = 4 ∨ d.k = 5
  · cases nameB d.s
    · simp
    by_cases hs : d.s.size ≤ 36
    · cases paramsB d.ps
      · simp
      rcases hk with e | e | e | e | e
      · have hv : hasVal d.k = false := by rw [e]; rfl
        simp only [e, hv, valueB, ctorsB, hs]
        by_cases hf : d.f = 0
        · by_cases hc : d.cs.length = 0
          · simp [len0 hc, hf, ctsB, v1]; cases decide (d.v = []) <;> simp
          · have hc' : d.cs ≠ [] := fun h => hc (by rw [h]; rfl)
            simp [hf, hc']
        · simp [hf]
      · have hv : hasVal d.k = true := by rw [e]; rfl
        simp only [e, hv, valueB, ctorsB, hs]
        by_cases hf : d.f = 0
        · by_cases hc : d.cs.length = 0
          · simp [len0 hc, hf, ctsB, v2, v3]
          · have hc' : d.cs ≠ [] := fun h => hc (by rw [h]; rfl)
            simp [hf, hc']
        · simp [hf]
      · have hv : hasVal d.k = true := by rw [e]; rfl
        simp only [e, hv, valueB, ctorsB, hs]
        by_cases hf : d.f = 0
        · by_cases hc : d.cs.length = 0
          · simp [len0 hc, hf, ctsB, v2, v3]
          · have hc' : d.cs ≠ [] := fun h => hc (by rw [h]; rfl)
            simp [hf, hc']
        · simp [hf]
      · have hv : hasVal d.k = false := by rw [e]; rfl
        simp only [e, hv, valueB, ctorsB, hs, cts_eq]
        by_cases h0 : 0 ≤ d.f <;> by_cases h50 : d.f ≤ 50 <;> by_cases h20 : d.cs.length ≤ 20 <;> simp [h0, h50, h20, v4]
        cases decide (d.v = []) <;> cases ctnB [d.s, recName d.s] d.cs <;> cases plainB d.t d.ps <;> simp
      · have hv : hasVal d.k = false := by rw [e]; rfl
        simp only [e, hv, quotB, hs]
        by_cases hf : d.f = 0 <;> by_cases hc : d.cs.length = 0 <;> by_cases hq : d.s = quotS <;> by_cases ht : d.t.length = 0 <;> by_cases hvl : d.v.length = 0 <;> by_cases hp : d.ps.length = 0 <;> simp [hf, hc, hq, ht, hvl, hp, v5]
    · simp [hs]
  · have h1 : ¬ (1 ≤ d.k ∧ d.k ≤ 5) := by omega
    have e1 : (decide (1 ≤ d.k) && (decide (d.k ≤ 5) && (nameB d.s && (decide (d.s.size ≤ 36) && paramsB d.ps)))) = false := by
      by_cases h2 : 1 ≤ d.k
      · have h3 : ¬ d.k ≤ 5 := fun h => h1 ⟨h2, h⟩
        simp [h3]
      · simp [h2]
    rw [e1]
    have n4 : ¬ d.k = 4 := by omega
    have n5 : ¬ d.k = 5 := by omega
    have n1 : ¬ (d.k = 1 ∨ d.k = 2 ∨ d.k = 3) := by omega
    simp [n4, n5, n1]
end Go.Proofs.YtpmpooekpeocdaaGreat

/- What the specification's l5Plain answers. -/
namespace Go.Proofs.YtpmpooekpeocdaaGreat
open Go.ChangeShapes Go.WideShapes Go.ChangeAt Go.RowKit

/-- What l5Plain answers: a root where the term is plain, else nothing. -/
def PlOut (base : Nat) (ts : List Td) (ps : List ByteArray) (e : Ending) (w' : World) : Prop :=
  (plainB ts ps = false ∧ e = .returned (.pointer none)) ∨ (plainB ts ps = true ∧ KidsIn ts ts.length ∧ ∃ pt Q, e = .returned (.pointer (some ⟨pt (ts.length - 1), 0, none⟩)) ∧ Forest Q w' pt ts ts.length ∧ ∀ b, Q b → base ≤ b)
set_option maxRecDepth 20000 in
set_option maxHeartbeats 4000000 in
theorem l5Plain_any (v pv : Value) (ts : List Td) (ps : List ByteArray) (w : World) (hns : TNodesAt w v ts) (hsz : ∀ td ∈ ts, TLens td) (hlv : ∀ td ∈ ts, td.lv.length ≤ 1048576) (hps : StrsAt w pv ps) :
    Calls Tryz.prog 74 #[.agg #[v], pv] w fun e w' => PlOut w.heap.size ts ps e w' ∧ Below w.heap.size w w' := by
  have HN1 := hide hns
  have HPS := hide hps
  obtain ⟨a1, cap1, rfl, q1, q2, q3⟩ := hns
  obtain ⟨pa, pc, rfl, q4, q5, q6⟩ := hps
  clear q1 q2 q3 q4 q5 q6
  obtain ⟨W, hW⟩ : ∃ W, W = w.alloc (.cells #[.slice a1 ts.length cap1] 33) := ⟨_, rfl⟩
  have HBW := hide (show Below w.heap.size w W by rw [hW]; exact bel_alloc (Below.refl _ _) _)
  have c0 : W.cell? ⟨w.heap.size, 0, none⟩ = some (.slice a1 ts.length cap1) := by rw [hW]; simp [go_sem]
  have l0 := lt_cell c0
  have HT1 := hide (l3TreeF_any _ ts W (HN1.out.keep HBW.out) hsz hlv)
  clear hsz hlv
  go_enter Tryz.func74, Tryz.ntmps74
  go_upto_region 1 with fail
  rw [← hW]
  clear hW
  go_wp2_with fail
  refine HT1.out.mono ?_
  rintro e w1 ⟨hA, hb1⟩
  have HB1 := hide (bel_trans HBW.out hb1)
  clear HT1 c0 l0
  rcases hA with ⟨ht, rfl⟩ | ⟨ht, hkin, pt, Q, rfl, hF, hpt, hQ⟩
  · have HE : Hid (plainB ts ps = false) := plain_bad ht
    have HN := hide (tnone_none w1)
    clear ht hb1
    go_wp2_with (go_at_call 75; refine HN.out.mono ?_; rintro e w3 ⟨rfl, hw⟩; have hw := hw.symm; subst hw)
    go_ret
    exact ⟨.inl ⟨HE.out, rfl⟩, HB1.out⟩
  · have hp := term_pos ht
    have hlen : ts.length ≤ 20000 := by have ht2 := ht; unfold termB termB' at ht2; simp at ht2; exact ht2.1
    have hz := (hF (ts.length - 1) (by omega) (by omega)).sz
    have d7 : w1.cell? ⟨pt (ts.length - 1), 7, none⟩ = some (.int .i64 (rootZ ts).lo) := by
      obtain ⟨_, _, _, _, _, _, hz⟩ := hz
      rw [World.ownsRow.cellAt hz 7 (by omega)]; rfl
    have d8 : w1.cell? ⟨pt (ts.length - 1), 8, none⟩ = some (.bool (rootZ ts).ho) := by
      obtain ⟨_, _, _, _, _, _, hz⟩ := hz
      rw [World.ownsRow.cellAt hz 8 (by omega)]; rfl
    have HLO := hide (fun h => plain_lo (ts := ts) (ps := ps) h)
    have HHO := hide (fun h => plain_ho (ts := ts) (ps := ps) h)
    have HOK := hide (fun h1 h2 => plain_ok (ts := ts) (ps := ps) ht h1 h2)
    have HLT : Hid (levsA ts = levsT ts) := by show _ = _; unfold levsA; rw [if_pos ht]
    have HB2 := hide (bel_alloc (Below.refl w1.heap.size w1) (.cells #[] 9))
    have HC : Hid (Calls Tryz.prog 107 #[.pointer (some ⟨pt (ts.length - 1), 0, none⟩), .slice (some ⟨w1.heap.size, 0, none⟩) 0 0] (w1.alloc (.cells #[] 9)) fun e w' => ∃ v', e = .returned v' ∧ OwnS w.heap.size w' v' (levsT ts) ∧ Below (w1.alloc (.cells #[] 9)).heap.size (w1.alloc (.cells #[] 9)) w') := by
      have e1 : ((ts.length - 1 : Nat) : Int) = (ts.length : Int) - 1 := by omega
      have h := l3Levs_all (pt := pt) ht ts.length (ts.length - 1) (w1.alloc (.cells #[] 9)) Q (.slice (some ⟨w1.heap.size, 0, none⟩) 0 0) [] w.heap.size (by omega) (by omega) (hF.to (Carry.below HB2.out)) (Nat.le_trans HB1.out.size HB2.out.size) (World.ownsRow_lit (base := w.heap.size) (e := 9) (size := 1) w1 #[] 0 HB1.out.size (by unfold maxLen; omega) rfl) (by rw [e1]; have := levs_root_len ht (lvN_le ht); simp; omega)
      rw [e1] at h
      exact h
    have HFQ := hide (show KidsIn ts ts.length ∧ Forest Q w1 pt ts ts.length ∧ ∀ b, Q b → w.heap.size ≤ b from ⟨hkin, hF, fun b hb => Nat.le_trans HBW.out.size (hQ b hb)⟩)
    clear ht hF hkin hpt hQ hb1 hz hp hlen
    obtain ⟨pb, hpb⟩ : ∃ pb, pb = pt (ts.length - 1) := ⟨_, rfl⟩
    rw [← hpb] at d7 d8 HC ⊢
    have HPB := hide hpb
    clear hpb
    have lp := lt_cell d7
    have HN := hide (tnone_some ⟨pb, 0, none⟩ w1)
    generalize rootZ ts = z at *
    by_cases hlo : 0 < z.lo
    · have HE : Hid (plainB ts ps = false) := HLO.out hlo
      have dlo : decide ((0 : Int) < z.lo) = true := by simp; omega
      go_wp2_with (go_at_call 75; refine HN.out.mono ?_; rintro e w3 ⟨rfl, hw⟩; have hw := hw.symm; subst hw)
      go_ret
      exact ⟨.inl ⟨HE.out, rfl⟩, HB1.out⟩
    have dlo : decide ((0 : Int) < z.lo) = false := by simp; omega
    cases hho : z.ho with
    | true =>
      have HE : Hid (plainB ts ps = false) := HHO.out hho
      rw [hho] at d8
      go_wp2_with (go_at_call 75; refine HN.out.mono ?_; rintro e w3 ⟨rfl, hw⟩; have hw := hw.symm; subst hw)
      go_ret
      exact ⟨.inl ⟨HE.out, rfl⟩, HB1.out⟩
    | false =>
      rw [hho] at d8
      have HE : Hid (plainB ts ps = !((levsT ts).any (fun s => !hasB ps s))) := by show _ = _; rw [HOK.out (by omega) hho, HLT.out, all_any]
      clear HOK HHO HLO HLT
      generalize levsT ts = ss at *
      go_wp2_with (first | (go_at_call 75; refine HN.out.mono ?_; rintro e w3 ⟨rfl, hw⟩; have hw := hw.symm; subst hw) | (go_at_call 107; refine HC.out.mono ?_; rintro e w3 ⟨v3, rfl, hO, hb3⟩))
      have HB3 := hide (bel_trans (bel_trans HB1.out HB2.out) hb3)
      have HF3 := hide (HFQ.out.2.1.to (Carry.below (bel_trans HB2.out hb3)))
      have HF3 : Hid (Forest Q w3 pt ts ts.length) := HF3
      obtain ⟨a, cap, rfl, hlc, hcm, hcell⟩ := hO.strs
      have HCE := hide hcell
      have HF : Hid (∀ s : ByteArray, Calls Tryz.prog 76 #[.slice pa ps.length pc, .string s] w3 fun e w' => e = .returned (.bool (hasB ps s)) ∧ w' = w3) := fun s => l1In_any _ ps s w3 (HPS.out.keep HB3.out)
      unfold maxLen at hcm
      clear hcell hO hb3 HC HN HB1 HB2 d7 d8 lp
      go_wp2_with fail
      go_loop [7] (fun i => ∃ (j : Nat), j ≤ ss.length ∧ i = .int .i64 j ∧ Hid ((ss.take j).any (fun s => !hasB ps s) = false)) (fun i => ss.length - (intOf i).toNat)
      case atStart => exact ⟨0, by omega, rfl, by show _ = _; simp⟩
      case round =>
        obtain ⟨j, hj, rfl, HNJ⟩ := hrel
        by_cases hlt : j < ss.length
        · have hlt' : (j : Int) < ss.length := by omega
          obtain ⟨b, off, rfl, hcc⟩ := HCE.out (by omega)
          have d1 := hcc j hlt
          have hl1 := lt_cell d1
          have HT := hide (any_take (fun s => !hasB ps s) ss j hlt HNJ.out)
          have HO := hide (any_of (fun s => !hasB ps s) ss j hlt)
          have HP := hide (HF.out ss[j])
          have HQ := hide (show j + 1 ≤ ss.length from hlt)
          clear hcc
          generalize ss[j] = s at *
          cases hk : hasB ps s
          · rw [hk] at HP
            have HE2 : Hid (plainB ts ps = false) := by show _ = _; rw [HE.out, HO.out (by rw [hk]; rfl)]; rfl
            go_wp2_with fail
            refine HP.out.mono ?_
            rintro e w4 ⟨rfl, rfl⟩
            go_wp2_with fail
            go_ret
            exact ⟨.inl ⟨HE2.out, rfl⟩, HB3.out⟩
          · rw [hk] at HP
            have HT2 : Hid ((ss.take (j + 1)).any (fun s => !hasB ps s) = false) := by show _ = _; rw [HT.out, hk]; rfl
            go_wp2_with fail
            refine HP.out.mono ?_
            rintro e w4 ⟨rfl, rfl⟩
            go_wp2_with fail
            go_round
            case rel => exact ⟨j + 1, HQ.out, by go_num, HT2⟩
            case measure => have := HQ.out; simp [intOf]; omega
        · have hlt' : ¬ (j : Int) < ss.length := by omega
          have HE2 : Hid (plainB ts ps = true) := by
            show _ = _
            have h := HNJ.out
            rw [List.take_of_length_le (by omega)] at h
            rw [HE.out, h]
            rfl
          go_wp2_with fail
          go_ret
          exact ⟨.inr ⟨HE2.out, HFQ.out.1, pt, Q, by rw [← HPB.out] <;> rfl, HF3.out, HFQ.out.2.2⟩, HB3.out⟩
end Go.Proofs.YtpmpooekpeocdaaGreat
