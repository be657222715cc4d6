/- What the specification's l1Trees answers, with the trees held against the levels. -/
import Derived.Test.YtpmpooekpeocdaaGreatTMk
import Derived.Test.YtpmpooekpeocdaaGreatTSpD
namespace Go.Proofs.YtpmpooekpeocdaaGreat
open Go.ChangeShapes Go.WideShapes Go.ChangeAt Go.RowKit

/-- The tree of a level. -/
def LvTree (ns : List Nd) (t : Tr) : Prop := ns = t.flat 0 ∧ t.ok ∧ t.names [] = namesOf ns ∧ t.cnt = ns.length
/-- The first j levels and their trees. -/
def LvRel (ls : List (List Nd)) (us : List Tr) (j : Nat) : Prop := us.length = j ∧ ∀ q (h1 : q < ls.length) (h2 : q < us.length), LvTree ls[q] us[q]
theorem lvrel_nil (ls : List (List Nd)) : LvRel ls [] 0 := ⟨rfl, fun q _ h => by simp at h⟩
theorem lvrel_snoc {ls : List (List Nd)} {us : List Tr} {j : Nat} (hj : j < ls.length) (h : LvRel ls us j) {t : Tr} (ht : LvTree ls[j] t) : LvRel ls (us ++ [t]) (j + 1) := by
  obtain ⟨h1, h2⟩ := h
  refine ⟨by simp [h1], fun q hq hq2 => ?_⟩
  by_cases e : q < us.length
  · rw [List.getElem_append_left e]; exact h2 q hq e
  · have h3 : q = j := by simp at hq2; omega
    subst h3
    rw [List.getElem_append_right (by omega)]
    simp only [h1, Nat.sub_self, List.getElem_cons_zero]
    exact ht
/-- A row of pointers whose block is among those that Q lets by. -/
def PtrRowQ (Q : Nat → Prop) (w : World) (v : Value) (ps : List Nat) : Prop :=
  ∃ a cap, v = .slice a ps.length cap ∧ ps.length ≤ cap ∧ cap ≤ maxLen ∧ (0 < ps.length → ∃ b off, a = some ⟨b, off, none⟩ ∧ Q b ∧ ∀ j (h : j < ps.length), w.cell? ⟨b, off + j, none⟩ = some (ptrV ps[j]))
theorem PtrRowQ.row {Q : Nat → Prop} {w : World} {v : Value} {ps : List Nat} (h : PtrRowQ Q w v ps) : PtrRow w v ps := by
  obtain ⟨a, cap, h1, h2, h3, h4⟩ := h
  refine ⟨a, cap, h1, h2, h3, fun h0 => ?_⟩
  obtain ⟨b, off, h5, _, h6⟩ := h4 h0
  exact ⟨b, off, h5, h6⟩
/-- Carried to another world: each block that Q lets by keeps its cells, and R lets it by. -/
theorem PtrRowQ.to {Q R : Nat → Prop} {w w' : World} {v : Value} {ps : List Nat} (h : PtrRowQ Q w v ps) (hw : ∀ b, Q b → b < w.heap.size → R b ∧ ∀ o u, w.cell? ⟨b, o, none⟩ = some u → w'.cell? ⟨b, o, none⟩ = some u) : PtrRowQ R w' v ps := by
  obtain ⟨a, cap, h1, h2, h3, h4⟩ := h
  refine ⟨a, cap, h1, h2, h3, fun h0 => ?_⟩
  obtain ⟨b, off, h5, hq, h6⟩ := h4 h0
  obtain ⟨hr, hc⟩ := hw b hq (lt_cell (h6 0 h0))
  exact ⟨b, off, h5, hr, fun j hj => hc _ _ (h6 j hj)⟩
theorem PtrRowQ.own {w : World} {base : Nat} {e : TypeId} {v : Value} {n : Nat} {ps : List Nat} (h : w.ownsRow base e 1 v n (ps.map ptrV)) (hn : n = ps.length) : PtrRowQ (fun b => base ≤ b) w v ps := by
  subst hn
  rcases h.2 with ⟨rfl, h0⟩ | ⟨g, cap, cur, rfl, hbg, hg, hnc, hcm, hcs, htake⟩
  · exact ⟨none, 0, by rw [h0], by omega, by unfold maxLen; omega, fun h => by omega⟩
  · refine ⟨_, _, rfl, hnc, hcm, fun _ => ⟨g, 0, rfl, hbg, fun j hj => ?_⟩⟩
    rw [Nat.zero_add, h.cellAt j (by omega), List.getElem?_map, List.getElem?_eq_getElem hj]; rfl
/-- A row of levels as trees. -/
def LevRowF (Q : Nat → Prop) (w : World) (v : Value) (ls : List (List Nd)) : Prop := ∃ ps us, ps.length = ls.length ∧ PtrRowQ Q w v ps ∧ LevTrees w ps us ∧ LvRel ls us ls.length
theorem LevRowF.keep {Q : Nat → Prop} {w w' : World} (hb : Below w.heap.size w w') {v : Value} {ls : List (List Nd)} (h : LevRowF Q w v ls) : LevRowF Q w' v ls := by
  obtain ⟨ps, us, h1, h2, h3, h4⟩ := h
  exact ⟨ps, us, h1, h2.to (fun b hq _ => ⟨hq, fun o u hu => keep_cell hb hu⟩), h3.keep hb, h4⟩
theorem LevRowF.row {Q : Nat → Prop} {w : World} {v : Value} {ls : List (List Nd)} (h : LevRowF Q w v ls) : LevRow w v ls.length := by
  obtain ⟨ps, us, h1, h2, h3, h4⟩ := h
  exact ⟨ps, us, h1, h2.row, h3⟩

set_option maxRecDepth 20000 in
set_option maxHeartbeats 2000000 in
theorem l1TreesF_any (v : Value) (ls : List (List Nd)) (w : World) (hl : LevsAt w v ls) (hz : ∀ l ∈ ls, LvLens l) (hlen : ls.length ≤ 1048576) :
    Calls Tryz.prog 175 #[v] w fun e w' => (∃ a n cap, e = .returned (.tuple #[.slice a n cap, .bool (ls.all lvlB)]) ∧ (ls.all lvlB = true → n = ls.length ∧ LevRowF (fun b => w.heap.size ≤ b) w' (.slice a n cap) ls)) ∧ Below w.heap.size w w' := by
  obtain ⟨i82, hi82, hz82, hs82, hb82⟩ := info_parts Tryz.info150
  obtain ⟨a, cap, rfl, hlc, hcm, hc⟩ := hl
  have HC : Hid (0 < ls.length → ∃ b off, a = some ⟨b, off, none⟩ ∧ ∀ i (h : i < ls.length), ∃ u, w.cell? ⟨b, off + i, none⟩ = some u ∧ NodesAt w u ls[i]) := hc
  have HZ := hide hz
  unfold maxLen at hcm
  clear hc hz
  have hrow0 := World.ownsRow_lit (base := w.heap.size) (e := 150) (size := 1) w #[] 0 (Nat.le_refl _) (by unfold maxLen; omega) rfl
  have HR0 := hide hrow0
  clear hrow0
  go_enter Tryz.func175, Tryz.ntmps175
  go_wp2_with fail
  go_loopw [4, 5] (fun o i wr => ∃ (j g gc : Nat) (ps : List Nat) (us : List Tr), j ≤ ls.length ∧ i = .int .i64 j ∧ o = .slice (some ⟨g, 0, none⟩) j gc ∧ ps.length = j ∧ Hid (wr.ownsRow w.heap.size 150 1 (.slice (some ⟨g, 0, none⟩) j gc) j (ps.map ptrV)) ∧ Hid (LevTrees wr ps us) ∧ Hid (LvRel ls us j) ∧ Hid ((ls.take j).all lvlB = true) ∧ Below w.heap.size w wr) (fun _ i _ => ls.length - (intOf i).toNat)
  case atStart => exact ⟨0, _, _, [], [], by omega, rfl, rfl, rfl, HR0.out, ⟨⟨rfl, fun j h => by simp at h⟩, by simp⟩, lvrel_nil ls, by simp [Hid], bel_alloc (Below.refl _ _) _⟩
  case round =>
    obtain ⟨j, g, gc, ps, us, hj, rfl, rfl, hpl, HO, HT, HLR, HA, hbel⟩ := hrel
    clear HR0
    by_cases hlt : j < ls.length
    · obtain ⟨b, off, rfl, hc⟩ := HC.out (by omega)
      obtain ⟨u, c1, hnu⟩ := hc j hlt
      have c1' := keep_cell hbel c1
      have HNU := hide (hnu.keep hbel)
      have HSZ := hide (HZ.out ls[j] (by simp))
      have HTK := hide (all_take_succ hlt HA.out)
      have HN := hide (all_not_at hlt)
      have HRN := hide (fun t (ht : LvTree ls[j] t) => lvrel_snoc hlt HLR.out ht)
      have hlt' : (j : Int) < ls.length := by omega
      clear hc c1
      generalize ls[j] = ns at *
      obtain ⟨ua, uc, rfl, _, _, _⟩ := hnu
      go_wp2_with fail
      refine (l1Tree_any _ ns _ HNU.out HSZ.out).mono ?_
      rintro e w2 ⟨(⟨hB, rfl⟩ | ⟨hB, gp, t, rfl, htr, hfl, hok, hnm, hcn⟩), hb2⟩
      · have HF : Hid (ls.all lvlB = false) := HN.out hB
        have HBL := hide (hbel.trans (hb2.mono hbel.size))
        clear hb2
        go_wp2_with (go_at_call 160; refine (none_none _).mono ?_; rintro e w' ⟨rfl, rfl⟩)
        refine bodyPost_ret (results_tmp2 Tryz.results175 _ _ _) rfl ?_
        exact ⟨⟨some ⟨g, 0, none⟩, j, gc, by rw [HF.out]; rfl, fun h => by rw [HF.out] at h; cases h⟩, HBL.out⟩
      · have HF := hide (HTK.out hB)
        have HFT := hide (fits_of hB hnm hcn)
        have HRL := hide (HRN.out t ⟨hfl, hok, hnm, hcn⟩)
        have HO2 := hide (row_keep hb2 HO.out)
        have HT2 := hide (HT.out.keep hb2)
        have HTR := hide htr
        have HBL := hide (hbel.trans (hb2.mono hbel.size))
        have hsz2 := hb2.size
        have hbs := hbel.size
        clear hb2 hnm hcn htr hB hfl hok
        go_wp2_with (first
          | (go_at_call 160; refine (none_some _ _).mono ?_; rintro e w' ⟨rfl, hw⟩; have hw := hw.symm; subst hw)
          | (at_builtin; refine wpList_append_lies _ rfl _ _ 100 rfl w.heap.size 150 i82 (.pointer none) 1 8 Tryz.underlying100 hi82 hz82 hs82 hb82 rfl (by omega) (.slice (some ⟨g, 0, none⟩) j gc) j (ps.map ptrV) rfl (HO2.out.alloc _) ⟨w2.heap.size, 0, none⟩ 1 1 [.pointer (some ⟨gp, 0, none⟩)] rfl rfl ?c1 ?c2 (by omega) ?c3 ?c4 ?c5 (w2.heap.size + 1) (by simp) ?_))
        case c1 => exact cell_one_new _ _ _
        case c2 => first | rfl | (intro u hu; simp at hu; subst hu; rfl)
        case c3 => unfold maxLen; omega
        case c4 => omega
        case c5 => simp; omega
        intro g4 cap4 w4 hown4 hgrow4 hat4 hlt4
        have htag := row_tag (HO2.out.alloc (.cells #[.pointer (some ⟨gp, 0, none⟩)] 150))
        have hsz4 := hgrow4.size
        have KT : ∀ (p : Nat) (t' : Tr), TreeAt w2.heap.size w2 p t' → TreeAt w4.heap.size w4 p t' := fun p t' ht' =>
          (((ht'.keep ((Below.refl w2.heap.size w2).alloc (Nat.le_refl _) _)).grown hgrow4 (fun k hk => by simp [Value.ownBlock] at hk; subst hk; obtain ⟨cs, hcs⟩ := htag; exact ⟨cs, 150, by decide, hcs⟩)).mono (by simp at hsz4; omega))
        have HTN := hide (show LevTrees w4 (ps ++ [gp]) (us ++ [t]) from ⟨HT2.out.1.snoc (fun q h1 h2 => KT _ _ (HT2.out.1.2 q h1 h2)) (KT _ _ HTR.out), by
          intro u' hu'
          rcases List.mem_append.1 hu' with h | h
          · exact HT2.out.2 u' h
          · simp at h; subst h; exact HFT.out⟩)
        have HON := hide (show w4.ownsRow w.heap.size 150 1 (.slice (some ⟨g4, 0, none⟩) (j + 1) cap4) (j + 1) ((ps ++ [gp]).map ptrV) by rw [List.map_append]; exact hown4)
        have HBN := hide ((HBL.out.alloc (by omega) _).grown hgrow4 (by simp; omega) (fun k hk => by simp [Value.ownBlock] at hk; subst hk; exact (HO2.out.lt g rfl).1))
        clear hown4 hgrow4 hat4 hlt4 htag KT
        go_wp2_with fail
        go_roundw
        case rel => exact ⟨j + 1, _, _, _, _, by omega, by go_num, rfl, by simp [hpl], HON, HTN, HRL, HF, HBN.out⟩
        case measure => simp [intOf]; omega
    · have HF : Hid (ls.all lvlB = true) := by have := HA.out; rwa [List.take_of_length_le (by omega)] at this
      have hlt' : ¬ (j : Int) < ls.length := by omega
      have hje : j = ls.length := by omega
      subst hje
      go_wp2_with fail
      refine bodyPost_ret (results_tmp2 Tryz.results175 _ _ _) rfl ?_
      exact ⟨⟨some ⟨g, 0, none⟩, ls.length, gc, by rw [HF.out]; rfl, fun _ => ⟨rfl, show LevRowF _ _ _ _ from ⟨ps, us, hpl, PtrRowQ.own HO.out hpl.symm, HT.out, HLR.out⟩⟩⟩, hbel⟩
end Go.Proofs.YtpmpooekpeocdaaGreat

/- The specification's tree of a term in memory, node by node: the node at place i of a term stands in block pt i; and how that is carried from world to world. -/
namespace Go.Proofs.YtpmpooekpeocdaaGreat
open Go.ChangeShapes Go.WideShapes Go.ChangeAt Go.RowKit

def zI (Z : List Zs) (c : Int) : Zs := Z.getD c.toNat ⟨0, 0, false⟩
/-- What is kept of each node, place by place. -/
def zAll (ts : List Td) : Nat → List Zs
  | 0 => []
  | i + 1 => match ts[i]? with
    | some td => zAll ts i ++ [zmk td.k td.n (td.kids.map (zI (zAll ts i)))]
    | none => zAll ts i
theorem zAll_succ (ts : List Td) (i : Nat) (h : i < ts.length) : zAll ts (i + 1) = zAll ts i ++ [zmk ts[i].k ts[i].n (ts[i].kids.map (zI (zAll ts i)))] := by simp [zAll, h]
theorem zAll_len (ts : List Td) : ∀ i, i ≤ ts.length → (zAll ts i).length = i
  | 0, _ => rfl
  | i + 1, h => by rw [zAll_succ ts i (by omega)]; simp [zAll_len ts i (by omega)]
theorem zAll_pre (ts : List Td) (i : Nat) (c : Nat) (hc : c < i) : ∀ j, i ≤ j → j ≤ ts.length → (zAll ts j)[c]? = (zAll ts i)[c]?
  | 0, h, _ => by omega
  | j + 1, h, hl => by
    by_cases e : i = j + 1
    · subst e; rfl
    · rw [zAll_succ ts j (by omega), List.getElem?_append_left (by rw [zAll_len ts j (by omega)]; omega)]
      exact zAll_pre ts i c hc j (by omega) (by omega)
def Zt (ts : List Td) : List Zs := zAll ts ts.length
theorem zI_pre (ts : List Td) (i : Nat) (hi : i ≤ ts.length) (c : Int) (h0 : 0 ≤ c) (hc : c < i) : zI (Zt ts) c = zI (zAll ts i) c := by
  unfold zI Zt
  rw [List.getD_eq_getElem?_getD, List.getD_eq_getElem?_getD, zAll_pre ts i c.toNat (by omega) ts.length hi (Nat.le_refl _)]
theorem zt_eq (ts : List Td) (i : Nat) (h : i < ts.length) (hk : ∀ c ∈ ts[i].kids, 0 ≤ c ∧ c < (i : Int)) : zI (Zt ts) (i : Int) = zmk ts[i].k ts[i].n (ts[i].kids.map (zI (Zt ts))) := by
  have h1 : zI (Zt ts) (i : Int) = zmk ts[i].k ts[i].n (ts[i].kids.map (zI (zAll ts i))) := by
    rw [zI_pre ts (i + 1) (by omega) i (by omega) (by omega)]
    show (zAll ts (i + 1)).getD (i : Int).toNat _ = _
    rw [zAll_succ ts i h, List.getD_eq_getElem?_getD, List.getElem?_append_right (by rw [zAll_len ts i (by omega)]; omega)]
    simp [zAll_len ts i (by omega)]
  rw [h1]
  congr 1
  apply List.map_congr_left
  intro c hc
  rw [zI_pre ts i (by omega) c (hk c hc).1 (hk c hc).2]
theorem trun_range (F : Td → Bool) (ts : List Td) : ∀ k st, trun F ts k = some st → ∀ c ∈ st, 0 ≤ c ∧ c < (k : Int)
  | 0, st, h => by simp [trun] at h; subst h; simp
  | k + 1, st, h => by
    unfold trun at h
    split at h
    · rename_i st' td h1 h2
      have ih := trun_range F ts k st' h1
      unfold tstep at h
      split at h
      · cases h
      · cases h
        intro c hc
        rcases List.mem_append.1 hc with h3 | h3
        · have := ih c (List.mem_of_mem_take h3); omega
        · simp at h3; omega
    · cases h

/-- A node of the tree: its block, the row of its kids, the row of its levels. -/
def FnAt (Q : Nat → Prop) (w : World) (p : Nat) (td : Td) (kp : List Nat) (z : Zs) : Prop :=
  ∃ lvv kdv, TnAt 0 w p (tnL td.k td.n td.m td.s lvv kdv z) ∧ PtrRowQ Q w kdv kp ∧ LevRowF Q w lvv td.lv
/-- What carries the tree from one world to another. -/
structure Carry (Q R : Nat → Prop) (w w' : World) : Prop where
  node : ∀ p xs, TnAt 0 w p xs → TnAt 0 w' p xs
  row : ∀ b, Q b → b < w.heap.size → R b ∧ ∀ o u, w.cell? ⟨b, o, none⟩ = some u → w'.cell? ⟨b, o, none⟩ = some u
  tree : ∀ ps us, TreesAt w ps us → TreesAt w' ps us
theorem Carry.trans {Q R S : Nat → Prop} {a b c : World} (h1 : Carry Q R a b) (h2 : Carry R S b c) (hs : a.heap.size ≤ b.heap.size) : Carry Q S a c :=
  ⟨fun p xs h => h2.node p xs (h1.node p xs h), fun k hk hl => by
    obtain ⟨h3, h4⟩ := h1.row k hk hl
    obtain ⟨h5, h6⟩ := h2.row k h3 (by omega)
    exact ⟨h5, fun o u hu => h6 o u (h4 o u hu)⟩, fun ps us h => h2.tree ps us (h1.tree ps us h)⟩
theorem Carry.below {Q : Nat → Prop} {w w' : World} (hb : Below w.heap.size w w') : Carry Q Q w w' :=
  ⟨fun _ _ h => h.keep hb, fun _ hk _ => ⟨hk, fun _ _ hu => keep_cell hb hu⟩, fun _ _ h => h.keep hb⟩
/-- An append to a row of another kind of cells that Q doesn't let by. -/
theorem Carry.grown {Q R : Nat → Prop} {w w' : World} {base g n cap : Nat} {e : TypeId} {xs : List Value} (hr : w.ownsRow base e 1 (.slice (some ⟨g, 0, none⟩) n cap) n xs) (h1 : e ≠ 102) (h2 : e ≠ 191) (hg : w.grownBy w' (some g)) (hQ : ∀ b, Q b → b < w.heap.size → b ≠ g ∧ R b) : Carry Q R w w' :=
  ⟨fun p ys h => World.ownsRow.kept h hg (.inr (by simp [Value.ownBlock]; exact rows_ne h hr (fun e2 => h1 e2.symm))),
   fun b hb hl => ⟨(hQ b hb hl).2, fun o u hu => by rw [hg.cell_far ⟨b, o, none⟩ hl (by simp; exact (hQ b hb hl).1)]; exact hu⟩,
   fun ps us h => ⟨h.1, fun j a1 a2 => ((h.2 j a1 a2).grown hg (fun k hk => by simp at hk; subst hk; obtain ⟨cs, hcs⟩ := row_tag hr; exact ⟨cs, e, h2, hcs⟩)).mono hg.size⟩⟩
theorem FnAt.to {Q R : Nat → Prop} {w w' : World} {p : Nat} {td : Td} {kp : List Nat} {z : Zs} (h : FnAt Q w p td kp z) (hc : Carry Q R w w') : FnAt R w' p td kp z := by
  obtain ⟨lvv, kdv, h1, h2, ps, us, h3, h4, h5, h6⟩ := h
  exact ⟨lvv, kdv, hc.node _ _ h1, h2.to hc.row, ps, us, h3, h4.to hc.row, ⟨hc.tree _ _ h5.1, h5.2⟩, h6⟩
theorem FnAt.sz {Q : Nat → Prop} {w : World} {p : Nat} {td : Td} {kp : List Nat} {z : Zs} (h : FnAt Q w p td kp z) : SzAt w p z := by
  obtain ⟨lvv, kdv, h1, _⟩ := h
  exact ⟨_, _, _, _, _, _, h1⟩

/-- The first k nodes of a term as nodes of the tree. -/
def Forest (Q : Nat → Prop) (w : World) (pt : Nat → Nat) (ts : List Td) (k : Nat) : Prop :=
  ∀ i (h : i < ts.length), i < k → FnAt Q w (pt i) ts[i] (ts[i].kids.map (fun c => pt c.toNat)) (zI (Zt ts) (i : Int))
theorem Forest.to {Q R : Nat → Prop} {w w' : World} {pt : Nat → Nat} {ts : List Td} {k : Nat} (h : Forest Q w pt ts k) (hc : Carry Q R w w') : Forest R w' pt ts k := fun i hi hk => (h i hi hk).to hc
def ptPut (pt : Nat → Nat) (k g : Nat) : Nat → Nat := fun i => if i = k then g else pt i
theorem ptPut_lt {pt : Nat → Nat} {k g i : Nat} (h : i < k) : ptPut pt k g i = pt i := by unfold ptPut; rw [if_neg (by omega)]
theorem ptPut_at (pt : Nat → Nat) (k g : Nat) : ptPut pt k g k = g := by unfold ptPut; rw [if_pos rfl]
theorem ptPut_map {pt : Nat → Nat} {k g : Nat} {st : List Int} (h : ∀ c ∈ st, 0 ≤ c ∧ c < (k : Int)) : st.map (fun c => ptPut pt k g c.toNat) = st.map (fun c => pt c.toNat) := by
  apply List.map_congr_left
  intro c hc
  exact ptPut_lt (by have := h c hc; omega)
theorem Forest.snoc {Q : Nat → Prop} {w : World} {pt : Nat → Nat} {ts : List Td} {k g : Nat} (h : Forest Q w pt ts k) (hk : k < ts.length) (hr : ∀ i (hi : i < ts.length), i ≤ k → ∀ c ∈ ts[i].kids, 0 ≤ c ∧ c < (i : Int)) (hg : FnAt Q w g ts[k] (ts[k].kids.map (fun c => pt c.toNat)) (zI (Zt ts) (k : Int))) : Forest Q w (ptPut pt k g) ts (k + 1) := by
  intro i hi hik
  have h1 : ts[i].kids.map (fun c => ptPut pt k g c.toNat) = ts[i].kids.map (fun c => pt c.toNat) := by
    apply List.map_congr_left
    intro c hc
    exact ptPut_lt (by have := hr i hi (by omega) c hc; omega)
  rw [h1]
  by_cases e : i = k
  · subst e; rw [ptPut_at]; exact hg
  · rw [ptPut_lt (by omega)]; exact h i hi (by omega)
end Go.Proofs.YtpmpooekpeocdaaGreat

/- When two valid terms are the same: tree by tree and node by node are one. No program is walked here. For FnExactSameTerm. -/
namespace Go.Proofs.YtpmpooekpeocdaaGreat

def szI (ts : List Td) (c : Int) : Int := (zI (Zt ts) c).sz
/-- The trees that end at the places of a list lie beside each other, from a up to b. -/
def tiles (f : Int → Int) : Int → List Int → Int → Prop
  | a, [], b => a = b
  | a, c :: l, b => c - f c + 1 = a ∧ tiles f (c + 1) l b
theorem tiles_append (f : Int → Int) : ∀ (l1 l2 : List Int) (a b : Int), tiles f a (l1 ++ l2) b ↔ ∃ m, tiles f a l1 m ∧ tiles f m l2 b
  | [], l2, a, b => by simp [tiles]
  | c :: l1, l2, a, b => by
    simp only [List.cons_append, tiles, tiles_append f l1 l2 (c + 1) b]
    constructor
    · rintro ⟨h1, m, h2, h3⟩; exact ⟨m, ⟨h1, h2⟩, h3⟩
    · rintro ⟨m, ⟨h1, h2⟩, h3⟩; exact ⟨h1, m, h2, h3⟩
theorem tiles_snoc (f : Int → Int) (l : List Int) (c a b : Int) : tiles f a (l ++ [c]) b ↔ tiles f a l (c - f c + 1) ∧ c + 1 = b := by
  rw [tiles_append]
  simp only [tiles]
  constructor
  · rintro ⟨m, h1, h2, h3⟩; rw [h2]; exact ⟨h1, h3⟩
  · rintro ⟨h1, h2⟩; exact ⟨_, h1, rfl, h2⟩
theorem tiles_le (f : Int → Int) : ∀ (l : List Int) (a b : Int), (∀ c ∈ l, 1 ≤ f c) → tiles f a l b → a ≤ b
  | [], a, b, _, h => by simp [tiles] at h; omega
  | c :: l, a, b, hf, h => by
    have h1 := hf c (by simp)
    have h2 := tiles_le f l (c + 1) b (fun x hx => hf x (by simp [hx])) h.2
    have h3 := h.1
    omega
theorem tiles_mem (f : Int → Int) : ∀ (l : List Int) (a b : Int), (∀ c ∈ l, 1 ≤ f c) → tiles f a l b → ∀ c ∈ l, a ≤ c - f c + 1 ∧ c < b
  | c0 :: l, a, b, hf, h, c, hc => by
    have h1 := hf c0 (by simp)
    have h2 := tiles_le f l (c0 + 1) b (fun x hx => hf x (by simp [hx])) h.2
    have h3 := h.1
    rcases List.mem_cons.1 hc with rfl | hc
    · omega
    · have h4 := tiles_mem f l (c0 + 1) b (fun x hx => hf x (by simp [hx])) h.2 c hc
      omega
theorem tiles_sum (ts : List Td) : ∀ (l : List Int) (a b : Int), tiles (szI ts) a l b → sumZ (l.map (zI (Zt ts))) = b - a
  | [], a, b, h => by simp [tiles] at h; simp [sumZ]; omega
  | c :: l, a, b, h => by
    have h1 := tiles_sum ts l (c + 1) b h.2
    have h2 := h.1
    simp only [List.map_cons, sumZ, h1]
    unfold szI at h2
    omega

/-- A node: how many kids it has, where they stand, what they span. -/
structure Tiled (ts : List Td) (i : Nat) (h : i < ts.length) : Prop where
  arity : (ts[i].kids.length : Int) = tkidsN ts[i].k
  kin : ∀ c ∈ ts[i].kids, 0 ≤ c ∧ c < (i : Int)
  span : tiles (szI ts) ((i : Int) + 1 - szI ts i) ts[i].kids i
  one : 1 ≤ szI ts i
  eqz : zI (Zt ts) (i : Int) = zmk ts[i].k ts[i].n (ts[i].kids.map (zI (Zt ts)))
theorem tiled_run (F : Td → Bool) (ts : List Td) : ∀ k st, k ≤ ts.length → trun F ts k = some st → tiles (szI ts) 0 st k ∧ (∀ c ∈ st, 1 ≤ szI ts c) ∧ ∀ i (h : i < ts.length), i < k → Tiled ts i h
  | 0, st, _, h => by simp [trun] at h; subst h; exact ⟨rfl, by simp, fun i _ h => by omega⟩
  | k + 1, st, hk, h => by
    have hk' : k < ts.length := by omega
    unfold trun at h
    split at h
    case h_2 => cases h
    rename_i st' td h1 h2
    obtain ⟨ih1, ih2, ih3⟩ := tiled_run F ts k st' (by omega) h1
    have hr := trun_range F ts k st' h1
    rw [List.getElem?_eq_getElem hk'] at h2
    simp only [Option.some.injEq] at h2
    subst h2
    unfold tstep at h
    split at h
    · cases h
    rename_i hno
    simp only [not_or, Decidable.not_not] at hno
    obtain ⟨n1, n2, _, n4⟩ := hno
    simp only [Option.some.injEq] at h
    generalize hlo : st'.length - (tkidsN ts[k].k).toNat = lo at *
    rw [← List.take_append_drop lo st', tiles_append] at ih1
    obtain ⟨m, t1, t2⟩ := ih1
    have hkin : ∀ c ∈ ts[k].kids, 0 ≤ c ∧ c < (k : Int) := by
      rw [n4]; exact fun c hc => hr c (List.mem_of_mem_drop hc)
    have heq := zt_eq ts k hk' hkin
    have hs : szI ts k = 1 + ((k : Int) - m) := by
      unfold szI
      rw [heq]
      show 1 + sumZ _ = _
      rw [n4, tiles_sum ts _ m k t2]
    have hle : m ≤ (k : Int) := tiles_le _ _ _ _ (fun c hc => ih2 c (List.mem_of_mem_drop hc)) t2
    have hT : Tiled ts k hk' := ⟨by rw [n4]; simp; omega, hkin, by rw [n4, hs, show (k : Int) + 1 - (1 + ((k : Int) - m)) = m from by omega]; exact t2, by omega, heq⟩
    subst h
    refine ⟨?_, ?_, ?_⟩
    · rw [tiles_snoc]
      exact ⟨by rw [hs, show (k : Int) - (1 + ((k : Int) - m)) + 1 = m from by omega]; exact t1, by omega⟩
    · intro c hc
      rcases List.mem_append.1 hc with h3 | h3
      · exact ih2 c (List.mem_of_mem_take h3)
      · simp at h3; subst h3; exact hT.one
    · intro i hi hik
      by_cases e : i = k
      · subst e; exact hT
      · exact ih3 i hi (by omega)
theorem tiled_all {ts : List Td} (h : termB ts = true) : ∀ i (hi : i < ts.length), Tiled ts i hi := by
  simp only [termB, termB', Bool.and_eq_true] at h
  cases hr : trun (tfieldsB nameB) ts ts.length with
  | none => rw [hr] at h; simp at h
  | some st => exact fun i hi => (tiled_run _ ts ts.length st (Nat.le_refl _) hr).2.2 i hi hi
theorem root_sz {ts : List Td} (h : termB ts = true) : 1 ≤ ts.length ∧ szI ts ((ts.length : Int) - 1) = ts.length := by
  simp only [termB, termB', Bool.and_eq_true] at h
  cases hr : trun (tfieldsB nameB) ts ts.length with
  | none => rw [hr] at h; simp at h
  | some st =>
    rw [hr] at h
    simp only [decide_eq_true_eq] at h
    have ht := (tiled_run _ ts ts.length st (Nat.le_refl _) hr).1
    match st, h.2 with
    | [c], _ =>
      simp only [tiles] at ht
      have h1 := trun_range _ ts ts.length [c] hr c (by simp)
      have h2 : c = (ts.length : Int) - 1 := by omega
      subst h2
      exact ⟨by omega, by omega⟩
end Go.Proofs.YtpmpooekpeocdaaGreat
