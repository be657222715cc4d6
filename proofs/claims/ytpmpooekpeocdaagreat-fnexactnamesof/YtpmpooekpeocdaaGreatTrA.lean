/- What the store has of a valid term when its nodes were read: no program is walked here. -/
import Derived.Test.YtpmpooekpeocdaaGreatStF
import Derived.Test.YtpmpooekpeocdaaGreatTSamQ
import Derived.Test.YtpmpooekpeocdaaGreatTFTree
import Derived.Test.YtpmpooekpeocdaaGreatDcB
namespace Go.Proofs.YtpmpooekpeocdaaGreat
open Go.ChangeShapes Go.WideShapes Go.ChangeAt Go.RowKit

theorem run_kinds (ns : List Nd) : ∀ k st, runTo ns k = some st → ∀ i (h : i < ns.length), i < k → 0 ≤ ns[i].k ∧ ns[i].k < 256
  | 0, _, _ => fun i _ h => by omega
  | k + 1, st, h => by
    unfold runTo at h
    split at h
    case h_2 => cases h
    rename_i st' nd h1 h2
    unfold stepN at h
    split at h
    · cases h
    rename_i hno
    simp only [not_or, Decidable.not_not] at hno
    obtain ⟨n1, _⟩ := hno
    intro i hi hik
    by_cases e : i = k
    · subst e
      rw [List.getElem?_eq_getElem hi] at h2
      have e2 := Option.some.inj h2
      rw [e2]
      have := (not_congr (kidsN_neg nd.k)).1 (by omega)
      omega
    · exact run_kinds ns k st' h1 i hi (by omega)
theorem lvl_kinds {ns : List Nd} (h : lvlB ns = true) : ∀ nd ∈ ns, 0 ≤ nd.k ∧ nd.k < 256 := by
  intro nd hnd
  obtain ⟨i, hi, rfl⟩ := List.getElem_of_mem hnd
  simp only [lvlB, Bool.and_eq_true] at h
  cases hr : runTo ns ns.length with
  | none => rw [hr] at h; simp at h
  | some st => exact run_kinds ns ns.length st hr i hi hi
theorem fields_run (F : Td → Bool) (ts : List Td) : ∀ k st, trun F ts k = some st → ∀ i (h : i < ts.length), i < k → F ts[i] = true
  | 0, _, _ => fun i _ h => by omega
  | k + 1, st, h => by
    unfold trun at h
    split at h
    case h_2 => cases h
    rename_i st' td h1 h2
    unfold tstep at h
    split at h
    · cases h
    rename_i hno
    simp only [not_or, Decidable.not_not] at hno
    obtain ⟨_, _, n3, _⟩ := hno
    intro i hi hik
    by_cases e : i = k
    · subst e
      rw [List.getElem?_eq_getElem hi] at h2
      have e2 := Option.some.inj h2
      rw [e2]
      simpa using n3
    · exact fields_run F ts k st' h1 i hi (by omega)
theorem fields_all {ts : List Td} (h : termB ts = true) : ∀ i (hi : i < ts.length), tfieldsB nameB ts[i] = true := by
  simp only [termB, termB', Bool.and_eq_true] at h
  cases hr : trun (tfieldsB nameB) ts ts.length with
  | none => rw [hr] at h; simp at h
  | some st => exact fun i hi => fields_run _ ts ts.length st hr i hi hi
theorem len_of {ts : List Td} (h : termB ts = true) : ts.length ≤ 20000 := by
  simp only [termB, termB', Bool.and_eq_true, decide_eq_true_eq] at h
  exact h.1
theorem lev_of {td : Td} (h : tfieldsB nameB td = true) : ∀ l ∈ td.lv, lvlB l = true := by
  simp only [tfieldsB, tlevB, Bool.and_eq_true, List.all_eq_true] at h
  exact h.2.2
theorem sz_le {ts : List Td} (h : termB ts = true) : ∀ i : Nat, i < ts.length → szI ts (i : Int) ≤ (i : Int) + 1 := by
  intro i
  induction i using Nat.strongRecOn with
  | ind i ih =>
    intro hi
    have ht := tiled_all h i hi
    have hs := ht.span
    cases hk : ts[i].kids with
    | nil =>
      rw [hk] at hs
      have e : (i : Int) + 1 - szI ts i = i := hs
      omega
    | cons c l =>
      rw [hk] at hs
      obtain ⟨c0, c1⟩ := ht.kin c (by rw [hk]; simp)
      have hc := ih c.toNat (by omega) (by omega)
      rw [show ((c.toNat : Nat) : Int) = c by omega] at hc
      have e : c - szI ts c + 1 = (i : Int) + 1 - szI ts i := hs.1
      omega
theorem spN_len (ns : List Nd) : (spN ns).length ≤ lvSize ns := by
  induction ns with
  | nil => simp [spN, lvSize, nsSum]
  | cons nd l ih =>
    have e : (spN (nd :: l)).length = (1 + nd.s.data.toList.length) + (spN l).length := by simp [spN]; omega
    rw [e]
    have e2 : nd.s.data.toList.length = nd.s.size := by simp
    unfold lvSize at ih ⊢
    simp only [nsSum, ndSize, List.length_cons]
    omega
theorem spell_len (ls : List (List Nd)) : (spell ls).length ≤ sumL lvSize ls := by
  induction ls with
  | nil => simp [spell, sumL]
  | cons l ls ih =>
    have e : (spell (l :: ls)).length = (spN l).length + (spell ls).length := by simp [spell]
    rw [e]
    have := spN_len l
    simp only [sumL]
    omega

/-- The key that a node of a term gets. -/
def keyOf (pt : Nat → Nat) (td : Td) : Nk := ⟨td.k, td.n, td.m, td.s, ⟨(spell td.lv).toArray⟩, td.kids[0]?.map (fun c => pt c.toNat), td.kids[1]?.map (fun c => pt c.toNat), td.kids[2]?.map (fun c => pt c.toNat)⟩
theorem keyOf_kid (pt : Nat → Nat) (td : Td) (h3 : td.kids.length ≤ 3) (j : Nat) : (keyOf pt td).kid j = td.kids[j]?.map (fun c => pt c.toNat) := by
  rcases (show j = 0 ∨ j = 1 ∨ j = 2 ∨ 3 ≤ j by omega) with rfl | rfl | rfl | h
  · rfl
  · rfl
  · rfl
  · rw [List.getElem?_eq_none (by omega)]
    obtain ⟨n, rfl⟩ : ∃ n, j = n + 3 := ⟨j - 3, by omega⟩
    rfl
theorem keyOf_same {pt pt' : Nat → Nat} {td : Td} (h : ∀ c ∈ td.kids, pt c.toNat = pt' c.toNat) : keyOf pt td = keyOf pt' td := by
  have e : ∀ j : Nat, td.kids[j]?.map (fun c => pt c.toNat) = td.kids[j]?.map (fun c => pt' c.toNat) := fun j => by
    cases hj : td.kids[j]? with
    | none => rfl
    | some c => simp only [Option.map_some]; rw [h c (List.mem_of_getElem? hj)]
  unfold keyOf
  rw [e 0, e 1, e 2]
/-- What the store has of the first nodes of a term. -/
def Rd (ts : List Td) (pt : Nat → Nat) (L : List (Nk × Nat × Nat)) (Z : Nat → Zs) (k : Nat) : Prop := ∀ i (h : i < ts.length), i < k → (∃ c, (keyOf pt ts[i], pt i, c) ∈ L) ∧ Z (pt i) = zI (Zt ts) (i : Int)
theorem Rd.key {ts : List Td} {pt : Nat → Nat} {L : List (Nk × Nat × Nat)} {Z : Nat → Zs} {k : Nat} (h : Rd ts pt L Z k) (hk : k < ts.length) (ht : Tiled ts k hk) : KeySt L (keyOf pt ts[k]) ∧ kidZ Z (keyOf pt ts[k]) = ts[k].kids.map (zI (Zt ts)) := by
  have ha := ht.arity
  have h3 : ts[k].kids.length ≤ 3 := by have := tkids_le ts[k].k; omega
  have hkid : ∀ j (hj : j < ts[k].kids.length), (keyOf pt ts[k]).kid j = some (pt (ts[k].kids[j]).toNat) := fun j hj => by
    rw [keyOf_kid pt ts[k] h3 j, List.getElem?_eq_getElem hj]; rfl
  have hin : ∀ j (hj : j < ts[k].kids.length), (∃ c, (keyOf pt (ts[(ts[k].kids[j]).toNat]'(by have := ht.kin _ (List.getElem_mem hj); omega)), pt (ts[k].kids[j]).toNat, c) ∈ L) ∧ Z (pt (ts[k].kids[j]).toNat) = zI (Zt ts) (ts[k].kids[j]) := fun j hj => by
    have hc := ht.kin _ (List.getElem_mem hj)
    have := h (ts[k].kids[j]).toNat (by omega) (by omega)
    rw [show (((ts[k].kids[j]).toNat : Nat) : Int) = ts[k].kids[j] by omega] at this
    exact this
  refine ⟨⟨by show 0 ≤ tkidsN ts[k].k; omega, fun j hj => ?_, fun j hj => ?_⟩, ?_⟩
  · have hj' : j < ts[k].kids.length := by have : (j : Int) < tkidsN ts[k].k := hj; omega
    obtain ⟨⟨c, hc⟩, _⟩ := hin j hj'
    exact ⟨_, hc, hkid j hj'⟩
  · have hj' : ts[k].kids.length ≤ j := by have : tkidsN ts[k].k ≤ (j : Int) := hj; omega
    rw [keyOf_kid pt ts[k] h3 j, List.getElem?_eq_none hj']; rfl
  · unfold kidZ
    have e : (tkidsN (keyOf pt ts[k]).k).toNat = ts[k].kids.length := by show (tkidsN ts[k].k).toNat = _; omega
    rw [e]
    apply List.ext_getElem
    · simp
    · intro j h1 h2
      have hj : j < ts[k].kids.length := by simpa using h2
      simp only [List.getElem_map, List.getElem_range]
      rw [hkid j hj]
      exact (hin j hj).2
theorem Rd.more {ts : List Td} {pt : Nat → Nat} {L L' : List (Nk × Nat × Nat)} {Z Z' : Nat → Zs} {k : Nat} (h : Rd ts pt L Z k) (hL : ∀ x ∈ L, x ∈ L' ∧ Z' x.2.1 = Z x.2.1) : Rd ts pt L' Z' k := fun i hi hk => by
  obtain ⟨⟨c, hc⟩, h2⟩ := h i hi hk
  obtain ⟨h3, h4⟩ := hL _ hc
  exact ⟨⟨c, h3⟩, h4.trans h2⟩
theorem Rd.next {base : Nat} {w : World} {Sb mb gb clock : Nat} {ts : List Td} {pt : Nat → Nat} {L : List (Nk × Nat × Nat)} {Z : Nat → Zs} {H : Nat → Bool} {k b : Nat} (hs : St base w Sb mb gb clock L Z H) (h : Rd ts pt L Z k) (hk : k < ts.length) (hT : ∀ i (hi : i < ts.length), Tiled ts i hi) (hb : ∃ c, (keyOf pt ts[k], b, c) ∈ L) : Rd ts (ptPut pt k b) L Z (k + 1) := by
  have hsame : ∀ i (hi : i < ts.length), i ≤ k → keyOf (ptPut pt k b) ts[i] = keyOf pt ts[i] := fun i hi hik => keyOf_same (fun c hc => by
    have := (hT i hi).kin c hc
    exact ptPut_lt (by omega))
  intro i hi hik
  rw [hsame i hi (by omega)]
  by_cases e : i = k
  · subst e
    rw [ptPut_at]
    refine ⟨hb, ?_⟩
    obtain ⟨c, hc⟩ := hb
    rw [(hs.ents _ hc).z, (hT i hi).eqz]
    show zmk _ _ (kidZ Z (keyOf pt ts[i])) = _
    rw [(h.key hi (hT i hi)).2]
    rfl
  · rw [ptPut_lt (by omega)]
    exact h i hi (by omega)
theorem St.row {base : Nat} {w w' : World} {Sb mb gb clock R : Nat} {cs : Array Value} {f : Nat × Nat} {L : List (Nk × Nat × Nat)} {Z : Nat → Zs} {H : Nat → Bool} (hs : St base w Sb mb gb clock L Z H) (hR : w.heap[R]? = some (.cells cs 61 f)) (hg : w.grownBy w' (some R)) (hb : base ≤ R) (hbase : base ≤ w.heap.size) : St base w' Sb mb gb clock L Z H := by
  have hB : Below base w w' := (Below.refl base w).grown hg hbase (fun k hk => by have := Option.some.inj hk; omega)
  have hne : ∀ k (o : Obj), w.heap[k]? = some o → (∀ cs f, o ≠ Obj.cells cs 61 f) → w'.heap[k]? = w.heap[k]? := fun k o hk ho => hg.block k (Array.getElem?_eq_some_iff.1 hk).1 (fun e => by
    have e := Option.some.inj e
    rw [e, hR] at hk
    exact ho cs f (Option.some.inj hk).symm)
  refine ⟨?_, ?_, fun x hx => ?_, hs.lows, ?_, hs.gne, hs.uniq⟩
  · rw [hne Sb _ hs.sb (fun cs f h => by cases h)]; exact hs.sb
  · rw [hne mb _ hs.mp (fun cs f h => by cases h)]; exact hs.mp
  · obtain ⟨cs, h1⟩ := (hs.ents x hx).ptr
    exact (hs.ents x hx).same hB (hne _ _ h1 (fun cs f h => by cases h))
  · obtain ⟨cs, h1⟩ := nb_heap hs.great
    exact nb_same hs.great (hne _ _ h1 (fun cs f h => by cases h))
theorem row_heap {w : World} {base e size n R cap : Nat} {xs : List Value} (h : w.ownsRow base e size (.slice (some ⟨R, 0, none⟩) n cap) n xs) : base ≤ R ∧ ∃ cs, w.heap[R]? = some (.cells cs e (0, 0)) := by
  rcases h.2 with ⟨h', _⟩ | ⟨g, cap, cur, h', h3, h4, _⟩
  · cases h'
  · simp only [Value.slice.injEq, Option.some.injEq, Addr.mk.injEq, and_true, true_and] at h'
    obtain ⟨rfl, rfl⟩ := h'
    exact ⟨h3, cur, h4⟩
end Go.Proofs.YtpmpooekpeocdaaGreat

/- Terms as trees: a valid term's nodes are one tree, written kids first. No program is walked here. -/
namespace Go.Proofs.YtpmpooekpeocdaaGreat

/-- A node without its kids. -/
structure Hd where
  k : Int
  n : Int
  m : Int
  s : ByteArray
  lv : List (List Nd)
def Hd.td (h : Hd) (ks : List Int) : Td := ⟨h.k, h.n, h.m, h.s, h.lv, ks⟩
def Td.hd (t : Td) : Hd := ⟨t.k, t.n, t.m, t.s, t.lv⟩
theorem Td.hd_td (t : Td) : t.hd.td t.kids = t := rfl
inductive Tt where
  | t0 (h : Hd)
  | t1 (h : Hd) (a : Tt)
  | t2 (h : Hd) (a b : Tt)
  | t3 (h : Hd) (a b c : Tt)
namespace Tt
def hd : Tt → Hd
  | t0 h => h
  | t1 h _ => h
  | t2 h _ _ => h
  | t3 h _ _ _ => h
def kids : Tt → List Tt
  | t0 _ => []
  | t1 _ a => [a]
  | t2 _ a b => [a, b]
  | t3 _ a b c => [a, b, c]
def cnt : Tt → Nat
  | t0 _ => 1
  | t1 _ a => a.cnt + 1
  | t2 _ a b => a.cnt + b.cnt + 1
  | t3 _ a b c => a.cnt + b.cnt + c.cnt + 1
/-- Its nodes, kids first, from a place on. -/
def flat : Tt → Nat → List Td
  | t0 h, _ => [h.td []]
  | t1 h a, o => a.flat o ++ [h.td [((o + a.cnt : Nat) : Int) - 1]]
  | t2 h a b, o => a.flat o ++ b.flat (o + a.cnt) ++ [h.td [((o + a.cnt : Nat) : Int) - 1, ((o + a.cnt + b.cnt : Nat) : Int) - 1]]
  | t3 h a b c, o => a.flat o ++ b.flat (o + a.cnt) ++ c.flat (o + a.cnt + b.cnt) ++ [h.td [((o + a.cnt : Nat) : Int) - 1, ((o + a.cnt + b.cnt : Nat) : Int) - 1, ((o + a.cnt + b.cnt + c.cnt : Nat) : Int) - 1]]
/-- What holds of every node. -/
def all (P : Hd → Nat → Prop) : Tt → Prop
  | t0 h => P h 0
  | t1 h a => P h 1 ∧ a.all P
  | t2 h a b => P h 2 ∧ a.all P ∧ b.all P
  | t3 h a b c => P h 3 ∧ a.all P ∧ b.all P ∧ c.all P
def mk (h : Hd) : List Tt → Tt
  | [] => t0 h
  | [a] => t1 h a
  | [a, b] => t2 h a b
  | a :: b :: c :: _ => t3 h a b c
theorem cnt_pos : ∀ T : Tt, 1 ≤ T.cnt
  | t0 _ => Nat.le_refl _
  | t1 _ _ => by simp [cnt]
  | t2 _ _ _ => by simp [cnt]
  | t3 _ _ _ _ => by simp [cnt]
theorem flat_len : ∀ (T : Tt) (o : Nat), (T.flat o).length = T.cnt
  | t0 _, _ => rfl
  | t1 _ a, o => by simp [flat, cnt, flat_len a]
  | t2 _ a b, o => by simp [flat, cnt, flat_len a, flat_len b]; omega
  | t3 _ a b c, o => by simp [flat, cnt, flat_len a, flat_len b, flat_len c]; omega
end Tt
/-- The nodes of some trees, one behind the other. -/
def flatT : List Tt → Nat → List Td
  | [], _ => []
  | T :: l, o => T.flat o ++ flatT l (o + T.cnt)
def cntT : List Tt → Nat
  | [] => 0
  | T :: l => T.cnt + cntT l
def rootsT : List Tt → Nat → List Int
  | [], _ => []
  | T :: l, o => (((o + T.cnt : Nat) : Int) - 1) :: rootsT l (o + T.cnt)
theorem rootsT_len : ∀ (l : List Tt) (o : Nat), (rootsT l o).length = l.length
  | [], _ => rfl
  | T :: l, o => by simp [rootsT, rootsT_len l]
theorem flatT_append : ∀ (l m : List Tt) (o : Nat), flatT (l ++ m) o = flatT l o ++ flatT m (o + cntT l)
  | [], m, o => by simp [flatT, cntT]
  | T :: l, m, o => by simp only [List.cons_append, flatT, cntT]; rw [flatT_append l m, List.append_assoc, Nat.add_assoc]
theorem rootsT_append : ∀ (l m : List Tt) (o : Nat), rootsT (l ++ m) o = rootsT l o ++ rootsT m (o + cntT l)
  | [], m, o => by simp [rootsT, cntT]
  | T :: l, m, o => by simp only [List.cons_append, rootsT, cntT]; rw [rootsT_append l m, Nat.add_assoc]
theorem cntT_append : ∀ (l m : List Tt), cntT (l ++ m) = cntT l + cntT m
  | [], m => by simp [cntT]
  | T :: l, m => by simp only [List.cons_append, cntT]; rw [cntT_append l m, Nat.add_assoc]
theorem mk_flat (h : Hd) (l : List Tt) (hl : l.length ≤ 3) (o : Nat) : (Tt.mk h l).flat o = flatT l o ++ [h.td (rootsT l o)] := by
  match l, hl with
  | [], _ => rfl
  | [a], _ => simp [Tt.mk, Tt.flat, flatT, rootsT]
  | [a, b], _ => simp [Tt.mk, Tt.flat, flatT, rootsT]
  | [a, b, c], _ => simp [Tt.mk, Tt.flat, flatT, rootsT]
theorem mk_cnt (h : Hd) (l : List Tt) (hl : l.length ≤ 3) : (Tt.mk h l).cnt = cntT l + 1 := by
  match l, hl with
  | [], _ => rfl
  | [a], _ => simp [Tt.mk, Tt.cnt, cntT]
  | [a, b], _ => simp [Tt.mk, Tt.cnt, cntT]
  | [a, b, c], _ => simp [Tt.mk, Tt.cnt, cntT]; omega
theorem mk_all (P : Hd → Nat → Prop) (h : Hd) (l : List Tt) (hl : l.length ≤ 3) (hp : P h l.length) (ha : ∀ T ∈ l, T.all P) : (Tt.mk h l).all P := by
  match l, hl with
  | [], _ => exact hp
  | [a], _ => exact ⟨hp, ha a (by simp)⟩
  | [a, b], _ => exact ⟨hp, ha a (by simp), ha b (by simp)⟩
  | [a, b, c], _ => exact ⟨hp, ha a (by simp), ha b (by simp), ha c (by simp)⟩
/-- What a node of a valid term keeps to. -/
def nodeP (h : Hd) (c : Nat) : Prop := (c : Int) = tkidsN h.k ∧ tfieldsB nameB (h.td []) = true
theorem fields_hd (t : Td) : tfieldsB nameB (t.hd.td []) = tfieldsB nameB t := rfl
theorem run_trees (ts : List Td) : ∀ k st, k ≤ ts.length → trun (tfieldsB nameB) ts k = some st → ∃ l : List Tt, flatT l 0 = ts.take k ∧ rootsT l 0 = st ∧ cntT l = k ∧ ∀ T ∈ l, T.all nodeP
  | 0, st, _, h => by simp [trun] at h; subst h; exact ⟨[], rfl, rfl, rfl, by simp⟩
  | k + 1, st, hk, h => by
    have hk' : k < ts.length := by omega
    unfold trun at h
    split at h
    case h_2 => cases h
    rename_i st' td h1 h2
    obtain ⟨l, l1, l2, l3, l4⟩ := run_trees ts k st' (by omega) h1
    rw [List.getElem?_eq_getElem hk'] at h2
    have e := Option.some.inj h2
    subst e
    unfold tstep at h
    split at h
    · cases h
    rename_i hno
    simp only [not_or, Decidable.not_not] at hno
    obtain ⟨n1, n2, n3, n4⟩ := hno
    have h := Option.some.inj h
    have hlen : l.length = st'.length := by rw [← l2, rootsT_len]
    generalize hlo : st'.length - (tkidsN ts[k].k).toNat = lo at *
    have hsp : l = l.take lo ++ l.drop lo := (List.take_append_drop lo l).symm
    have hdl : (l.drop lo).length = (tkidsN ts[k].k).toNat := by rw [List.length_drop]; omega
    have hd3 : (l.drop lo).length ≤ 3 := by have := tkids_le ts[k].k; omega
    have htl : (l.take lo).length = lo := by rw [List.length_take]; omega
    have hr2 : rootsT (l.take lo) 0 = st'.take lo ∧ rootsT (l.drop lo) (0 + cntT (l.take lo)) = st'.drop lo := by
      have e := rootsT_append (l.take lo) (l.drop lo) 0
      rw [← hsp, l2] at e
      have e1 : (rootsT (l.take lo) 0).length = lo := by rw [rootsT_len, htl]
      constructor
      · rw [e, List.take_left' e1]
      · rw [e, List.drop_left' e1]
    have hc : cntT (l.take lo) + cntT (l.drop lo) = k := by rw [← cntT_append, ← hsp, l3]
    have hkids : ts[k].hd.td (rootsT (l.drop lo) (0 + cntT (l.take lo))) = ts[k] := by
      rw [hr2.2, ← n4]; exact Td.hd_td _
    refine ⟨l.take lo ++ [Tt.mk ts[k].hd (l.drop lo)], ?_, ?_, ?_, ?_⟩
    · rw [flatT_append]
      simp only [flatT, List.append_nil]
      rw [mk_flat _ _ hd3, hkids, ← List.append_assoc, ← flatT_append, ← hsp, l1, List.take_succ_eq_append_getElem hk']
    · rw [rootsT_append, hr2.1, ← h]
      simp only [rootsT]
      rw [mk_cnt _ _ hd3]
      congr 2
      omega
    · rw [cntT_append]
      simp only [cntT]
      rw [mk_cnt _ _ hd3]
      omega
    · intro T hT
      rcases List.mem_append.1 hT with h3 | h3
      · exact l4 T (List.mem_of_mem_take h3)
      · have e : T = Tt.mk ts[k].hd (l.drop lo) := by simpa using h3
        rw [e]
        refine mk_all _ _ _ hd3 ⟨?_, ?_⟩ (fun T h => l4 T (List.mem_of_mem_drop h))
        · rw [hdl]; show _ = tkidsN ts[k].k; omega
        · rw [fields_hd]; simpa using n3
/-- A valid term is one tree. -/
theorem tree_of {ts : List Td} (h : termB ts = true) : ∃ T : Tt, T.flat 0 = ts ∧ T.all nodeP ∧ T.cnt = ts.length := by
  have h' := h
  simp only [termB, termB', Bool.and_eq_true] at h
  cases hr : trun (tfieldsB nameB) ts ts.length with
  | none => rw [hr] at h; simp at h
  | some st =>
    rw [hr] at h
    obtain ⟨l, l1, l2, l3, l4⟩ := run_trees ts ts.length st (Nat.le_refl _) hr
    have hl : l.length = 1 := by rw [← rootsT_len l 0, l2]; simpa using h.2
    obtain ⟨T, rfl⟩ := List.length_eq_one_iff.1 hl
    refine ⟨T, ?_, l4 T (by simp), by simpa [cntT] using l3⟩
    rw [List.take_length] at l1
    simpa [flatT] using l1
end Go.Proofs.YtpmpooekpeocdaaGreat
