/- Two rows of valid levels that are spelt alike are the same. No program is walked here. -/
import Derived.Test.YtpmpooekpeocdaaGreatTrA
namespace Go.Proofs.YtpmpooekpeocdaaGreat

def prN (nd : Nd) : Int × ByteArray := (nd.k, nd.s)
/-- How many stretches more there are behind some nodes. -/
def wgt : List (Int × ByteArray) → Int
  | [] => 0
  | x :: l => (1 - kidsN x.1) + wgt l
theorem wgt_append (a b : List (Int × ByteArray)) : wgt (a ++ b) = wgt a + wgt b := by
  induction a with
  | nil => simp [wgt]
  | cons x a ih => simp only [List.cons_append, wgt, ih]; omega
/-- What is known of the first nodes of a valid level. -/
theorem run_wgt (ns : List Nd) : ∀ k st, runTo ns k = some st → k ≤ ns.length → (st.length : Int) = wgt ((ns.take k).map prN) ∧ (1 ≤ k → 1 ≤ st.length) ∧ ∀ i (h : i < ns.length), i < k → 1 ≤ ns[i].k ∧ ns[i].k ≤ 5 ∧ fieldsB ns[i] = true
  | 0, st, h, _ => by simp [runTo] at h; subst h; simp [wgt]
  | k + 1, st, h, hk => by
    have hk' : k < ns.length := by omega
    unfold runTo at h
    split at h
    case h_2 => cases h
    rename_i st' nd h1 h2
    obtain ⟨i1, i2, i3⟩ := run_wgt ns k st' h1 (by omega)
    rw [List.getElem?_eq_getElem hk'] at h2
    have e := Option.some.inj h2
    subst e
    unfold stepN at h
    split at h
    · cases h
    rename_i hno
    simp only [not_or, Decidable.not_not] at hno
    obtain ⟨n1, n2, n3, n4⟩ := hno
    have h := Option.some.inj h
    refine ⟨?_, fun _ => ?_, fun i hi hik => ?_⟩
    · rw [List.take_succ_eq_append_getElem hk', List.map_append, wgt_append, ← i1, ← h]
      simp only [List.length_append, List.length_take, List.length_singleton, List.map_cons, List.map_nil, wgt, prN]
      omega
    · rw [← h]; simp
    · by_cases e : i = k
      · subst e
        have := (not_congr (kidsN_neg ns[i].k)).1 (by omega)
        exact ⟨by omega, by omega, by simpa using n3⟩
      · exact i3 i hi (by omega)
/-- What is known of a valid level. -/
structure LvG (ns : List Nd) : Prop where
  one : wgt (ns.map prN) = 1
  pre : ∀ j, 1 ≤ j → j ≤ ns.length → 1 ≤ wgt ((ns.take j).map prN)
  run : ∃ st, runTo ns ns.length = some st
  nd : ∀ nd ∈ ns, 1 ≤ nd.k ∧ nd.k ≤ 5 ∧ fieldsB nd = true
theorem runTo_pre (ns : List Nd) : ∀ k j st, runTo ns k = some st → j ≤ k → ∃ st', runTo ns j = some st'
  | 0, j, st, h, hj => by have : j = 0 := by omega
                          subst this; exact ⟨st, h⟩
  | k + 1, j, st, h, hj => by
    by_cases e : j = k + 1
    · subst e; exact ⟨st, h⟩
    · unfold runTo at h
      split at h
      case h_2 => cases h
      rename_i st' nd h1 h2
      exact runTo_pre ns k j st' h1 (by omega)
theorem lvG {ns : List Nd} (h : lvlB ns = true) : LvG ns := by
  simp only [lvlB, Bool.and_eq_true] at h
  cases hr : runTo ns ns.length with
  | none => rw [hr] at h; simp at h
  | some st =>
    rw [hr] at h
    obtain ⟨a1, a2, a3⟩ := run_wgt ns ns.length st hr (Nat.le_refl _)
    rw [List.take_length] at a1
    have hs : st.length = 1 := by
      have h3 : st.length = 1 ∧ (namesOf ns).length ≤ 6 := by simpa using h.2
      exact h3.1
    refine ⟨by omega, fun j h1 h2 => ?_, ⟨st, hr⟩, fun nd hnd => ?_⟩
    · obtain ⟨st', h3⟩ := runTo_pre ns ns.length j st hr h2
      obtain ⟨b1, b2, _⟩ := run_wgt ns j st' h3 h2
      have := b2 h1
      omega
    · obtain ⟨i, hi, rfl⟩ := List.getElem_of_mem hnd
      exact a3 i hi hi
/-- Kinds and names tell a valid level's kids. -/
theorem run_same (ns ms : List Nd) (hp : ns.map prN = ms.map prN) : ∀ k st st', runTo ns k = some st → runTo ms k = some st' → k ≤ ns.length → st = st' ∧ ns.take k = ms.take k
  | 0, st, st', h, h', _ => by simp [runTo] at h h'; subst h h'; simp
  | k + 1, st, st', h, h', hk => by
    have hl : ns.length = ms.length := by have := congrArg List.length hp; simpa using this
    have hk' : k < ns.length := by omega
    have hm' : k < ms.length := by omega
    unfold runTo at h h'
    split at h
    case h_2 => cases h
    rename_i s1 nd h1 h2
    split at h'
    case h_2 => cases h'
    rename_i s2 md g1 g2
    obtain ⟨e1, e2⟩ := run_same ns ms hp k s1 s2 h1 g1 (by omega)
    subst e1
    rw [List.getElem?_eq_getElem hk'] at h2
    rw [List.getElem?_eq_getElem hm'] at g2
    have a1 := Option.some.inj h2
    have a2 := Option.some.inj g2
    subst a1 a2
    have hpk : prN ns[k] = prN ms[k] := by
      have h3 : (ns.map prN)[k]? = (ms.map prN)[k]? := by rw [hp]
      rw [List.getElem?_map, List.getElem?_map, List.getElem?_eq_getElem hk', List.getElem?_eq_getElem hm'] at h3
      simpa using h3
    have p1 : ns[k].k = ms[k].k := congrArg Prod.fst hpk
    have p2 : ns[k].s = ms[k].s := congrArg Prod.snd hpk
    unfold stepN at h h'
    split at h
    · cases h
    split at h'
    · cases h'
    rename_i hn hn'
    simp only [not_or, Decidable.not_not] at hn hn'
    have hkid : ns[k].kids = ms[k].kids := by rw [hn.2.2.2, hn'.2.2.2, p1]
    have h := Option.some.inj h
    have h' := Option.some.inj h'
    refine ⟨by rw [← h, ← h', p1], ?_⟩
    rw [List.take_succ_eq_append_getElem hk', List.take_succ_eq_append_getElem hm', e2]
    have : ns[k] = ms[k] := by
      cases hx : ns[k]
      cases hy : ms[k]
      rw [hx, hy] at p1 p2 hkid
      simp only at p1 p2 hkid
      rw [p1, p2, hkid]
    rw [this]
theorem lv_same {ns ms : List Nd} (hn : LvG ns) (hm : LvG ms) (hp : ns.map prN = ms.map prN) : ns = ms := by
  obtain ⟨s1, h1⟩ := hn.run
  obtain ⟨s2, h2⟩ := hm.run
  have hl : ns.length = ms.length := by have := congrArg List.length hp; simpa using this
  rw [← hl] at h2
  have h := (run_same ns ms hp ns.length s1 s2 h1 h2 (Nat.le_refl _)).2
  rw [List.take_length] at h
  rw [h, hl, List.take_length]
theorem lv_cut {A B : List (Int × ByteArray)} {ns ms : List Nd} (hn : LvG ns) (hm : LvG ms) (h : A ++ ns.map prN = B ++ ms.map prN) : A = B ∧ ns = ms := by
  have key : ∀ (c : List (Int × ByteArray)) (xs ys : List Nd), LvG xs → LvG ys → xs.map prN = c ++ ys.map prN → c = [] := by
    intro c xs ys hx hy e
    cases c with
    | nil => rfl
    | cons d c =>
      exfalso
      have h1 := hx.one
      rw [e, wgt_append, hy.one] at h1
      have hlen : (d :: c).length ≤ xs.length := by have := congrArg List.length e; simp at this; simp; omega
      have h2 := hx.pre (d :: c).length (by simp) hlen
      rw [List.map_take, e, List.take_left' rfl] at h2
      omega
  rcases List.append_eq_append_iff.1 h with ⟨c, h1, h2⟩ | ⟨c, h1, h2⟩
  · have hc := key c ns ms hn hm h2
    subst hc
    exact ⟨by simpa using h1.symm, lv_same hn hm (by simpa using h2)⟩
  · have hc := key c ms ns hm hn h2
    subst hc
    exact ⟨by simpa using h1, lv_same hn hm (by simpa using h2.symm)⟩
theorem levs_same : ∀ (n : Nat) (ls ms : List (List Nd)), ls.length = n → (∀ l ∈ ls, LvG l) → (∀ l ∈ ms, LvG l) → ls.flatMap (fun l => l.map prN) = ms.flatMap (fun l => l.map prN) → ls = ms
  | 0, ls, ms, hl, _, hm, h => by
    have e : ls = [] := List.eq_nil_of_length_eq_zero hl
    subst e
    cases ms with
    | nil => rfl
    | cons m ms =>
      have h1 := (hm m (by simp)).one
      simp only [List.flatMap_nil, List.flatMap_cons] at h
      have h2 : m.map prN = [] := by have := h.symm; simp at this; simp [this.1]
      rw [h2] at h1
      simp [wgt] at h1
  | n + 1, ls, ms, hl, hn, hm, h => by
    obtain ⟨l0, a, rfl⟩ : ∃ l0 a, ls = l0 ++ [a] := ⟨ls.dropLast, ls.getLast (by intro e; subst e; simp at hl), (List.dropLast_concat_getLast _).symm⟩
    by_cases e : ms = []
    · subst e
      have h1 := (hn a (by simp)).one
      rw [List.flatMap_append] at h
      have h2 : a.map prN = [] := by simp at h; simp [h.2]
      rw [h2] at h1
      simp [wgt] at h1
    · obtain ⟨m0, b, rfl⟩ : ∃ m0 b, ms = m0 ++ [b] := ⟨ms.dropLast, ms.getLast e, (List.dropLast_concat_getLast _).symm⟩
      rw [List.flatMap_append, List.flatMap_append] at h
      have h' : l0.flatMap (fun l => l.map prN) ++ a.map prN = m0.flatMap (fun l => l.map prN) ++ b.map prN := by simpa using h
      obtain ⟨h1, h2⟩ := lv_cut (hn a (by simp)) (hm b (by simp)) h'
      rw [h2, levs_same n l0 m0 (by simpa using hl) (fun l h => hn l (by simp [h])) (fun l h => hm l (by simp [h])) h1]
/-- How kinds and names are spelt. -/
def spP : List (Int × ByteArray) → List UInt8
  | [] => []
  | x :: l => (UInt8.ofNat x.1.toNat :: x.2.data.toList) ++ spP l
theorem spP_append (a b : List (Int × ByteArray)) : spP (a ++ b) = spP a ++ spP b := by
  induction a with
  | nil => simp [spP]
  | cons x a ih => simp [spP, ih]
theorem spN_pairs (ns : List Nd) : spN ns = spP (ns.map prN) := by
  induction ns with
  | nil => simp [spN, spP]
  | cons x l ih =>
    have e : spN (x :: l) = (UInt8.ofNat x.k.toNat :: x.s.data.toList) ++ spN l := by simp [spN]
    rw [e, ih]
    rfl
theorem spell_pairs (ls : List (List Nd)) : spell ls = spP (ls.flatMap (fun l => l.map prN)) := by
  induction ls with
  | nil => simp [spell, spP]
  | cons l ls ih =>
    have e : spell (l :: ls) = spN l ++ spell ls := by simp [spell]
    rw [e, ih, List.flatMap_cons, spP_append, spN_pairs]
def goodP (x : Int × ByteArray) : Prop := 1 ≤ x.1 ∧ x.1 ≤ 5 ∧ ∀ c ∈ x.2.data.toList, 6 ≤ c.toNat
theorem goes_ge {c : UInt8} (h : goesC c = true) : 6 ≤ c.toNat := by
  simp only [goesC, goesB, letB, digB, Bool.or_eq_true, Bool.and_eq_true, decide_eq_true_eq] at h
  omega
theorem good_of {nd : Nd} (h : 1 ≤ nd.k ∧ nd.k ≤ 5 ∧ fieldsB nd = true) : goodP (prN nd) := by
  refine ⟨h.1, h.2.1, fun c hc => ?_⟩
  have hf := h.2.2
  unfold fieldsB at hf
  split at hf
  · simp only [paramB, shortB, Bool.and_eq_true, List.all_eq_true] at hf
    exact goes_ge (hf.1.1.2 c hc)
  · have e : nd.s.toList = [] := by simpa using hf
    rw [ByteArray.toList_eq] at e
    have hc' : c ∈ nd.s.data.toList := hc
    rw [e] at hc'
    cases hc'
def smallH (P : List UInt8) : Prop := ∀ d P', P = d :: P' → d.toNat ≤ 5
theorem spP_small {xs : List (Int × ByteArray)} (h : ∀ x ∈ xs, goodP x) : smallH (spP xs) := by
  intro d P' e
  cases xs with
  | nil => simp [spP] at e
  | cons x l =>
    simp only [spP, List.cons_append, List.cons.injEq] at e
    have hx := h x (by simp)
    rw [← e.1]
    simp only [UInt8.toNat_ofNat']
    have := hx.2.1
    have := hx.1
    omega
theorem cut_small {a b P Q : List UInt8} (ha : ∀ c ∈ a, 6 ≤ c.toNat) (hb : ∀ c ∈ b, 6 ≤ c.toNat) (hP : smallH P) (hQ : smallH Q) (h : a ++ P = b ++ Q) : a = b ∧ P = Q := by
  rcases List.append_eq_append_iff.1 h with ⟨c, h1, h2⟩ | ⟨c, h1, h2⟩
  · cases c with
    | nil => exact ⟨by simpa using h1.symm, by simpa using h2⟩
    | cons d c =>
      have x1 := hP d (c ++ Q) (by simpa using h2)
      have x2 := hb d (by rw [h1]; simp)
      omega
  · cases c with
    | nil => exact ⟨by simpa using h1, by simpa using h2.symm⟩
    | cons d c =>
      have x1 := hQ d (c ++ P) (by simpa using h2)
      have x2 := ha d (by rw [h1]; simp)
      omega
theorem spP_inj : ∀ (xs ys : List (Int × ByteArray)), (∀ x ∈ xs, goodP x) → (∀ y ∈ ys, goodP y) → spP xs = spP ys → xs = ys
  | [], [], _, _, _ => rfl
  | [], y :: ys, _, _, h => by simp [spP] at h
  | x :: xs, [], _, _, h => by simp [spP] at h
  | x :: xs, y :: ys, hx, hy, h => by
    have gx := hx x (by simp)
    have gy := hy y (by simp)
    simp only [spP, List.cons_append, List.cons.injEq] at h
    obtain ⟨h1, h2⟩ := h
    have hk : x.1 = y.1 := by
      have h3 := congrArg UInt8.toNat h1
      simp only [UInt8.toNat_ofNat'] at h3
      have := gx.1; have := gx.2.1; have := gy.1; have := gy.2.1
      omega
    obtain ⟨h3, h4⟩ := cut_small gx.2.2 gy.2.2 (spP_small (fun z hz => hx z (by simp [hz]))) (spP_small (fun z hz => hy z (by simp [hz]))) h2
    have hs : x.2 = y.2 := by
      obtain ⟨kx, ⟨⟨lx⟩⟩⟩ := x
      obtain ⟨ky, ⟨⟨ly⟩⟩⟩ := y
      simp at h3
      simp [h3]
    rw [spP_inj xs ys (fun z hz => hx z (by simp [hz])) (fun z hz => hy z (by simp [hz])) h4]
    rw [show x = y from Prod.ext hk hs]
/-- What is spelt alike is the same. -/
theorem spell_inj {ls ms : List (List Nd)} (hl : ∀ l ∈ ls, lvlB l = true) (hm : ∀ l ∈ ms, lvlB l = true) (h : spell ls = spell ms) : ls = ms := by
  rw [spell_pairs, spell_pairs] at h
  have g : ∀ xs : List (List Nd), (∀ l ∈ xs, lvlB l = true) → ∀ x ∈ xs.flatMap (fun l => l.map prN), goodP x := fun xs hx x hxx => by
    obtain ⟨l, h1, h2⟩ := List.mem_flatMap.1 hxx
    obtain ⟨nd, h3, rfl⟩ := List.mem_map.1 h2
    exact good_of ((lvG (hx l h1)).nd nd h3)
  exact levs_same ls.length ls ms rfl (fun l h => lvG (hl l h)) (fun l h => lvG (hm l h)) (spP_inj _ _ (g ls hl) (g ms hm) h)
end Go.Proofs.YtpmpooekpeocdaaGreat

/- Which node of the store stands for which tree. No program is walked here. -/
namespace Go.Proofs.YtpmpooekpeocdaaGreat

def keyH (h : Hd) (p0 p1 p2 : Option Nat) : Nk := ⟨h.k, h.n, h.m, h.s, ⟨(spell h.lv).toArray⟩, p0, p1, p2⟩
/-- A node of the store stands for a tree. -/
def IsT (L : List (Nk × Nat × Nat)) : Tt → Nat → Prop
  | .t0 h, b => ∃ c, (keyH h none none none, b, c) ∈ L
  | .t1 h x, b => ∃ p c, IsT L x p ∧ (keyH h (some p) none none, b, c) ∈ L
  | .t2 h x y, b => ∃ p q c, IsT L x p ∧ IsT L y q ∧ (keyH h (some p) (some q) none, b, c) ∈ L
  | .t3 h x y z, b => ∃ p q r c, IsT L x p ∧ IsT L y q ∧ IsT L z r ∧ (keyH h (some p) (some q) (some r), b, c) ∈ L
/-- What a tree's root keeps of it. -/
def Tt.z : Tt → Zs
  | .t0 h => zmk h.k h.n []
  | .t1 h a => zmk h.k h.n [a.z]
  | .t2 h a b => zmk h.k h.n [a.z, b.z]
  | .t3 h a b c => zmk h.k h.n [a.z, b.z, c.z]
theorem sub_left {ts l m : List Td} {o : Nat} (h : ∀ j, j < (l ++ m).length → ts[o + j]? = (l ++ m)[j]?) : ∀ j, j < l.length → ts[o + j]? = l[j]? := fun j hj => by
  rw [h j (by simp; omega), List.getElem?_append_left hj]
theorem sub_right {ts l m : List Td} {o : Nat} (h : ∀ j, j < (l ++ m).length → ts[o + j]? = (l ++ m)[j]?) : ∀ j, j < m.length → ts[o + l.length + j]? = m[j]? := fun j hj => by
  rw [Nat.add_assoc, h (l.length + j) (by simp; omega), List.getElem?_append_right (by omega)]
  congr 1
  omega
theorem rd_at {ts : List Td} {pt : Nat → Nat} {L : List (Nk × Nat × Nat)} {Z : Nat → Zs} (hr : Rd ts pt L Z ts.length) {i : Nat} {t : Td} (h : ts[i]? = some t) : ∃ c, (keyOf pt t, pt i, c) ∈ L := by
  obtain ⟨hi, e⟩ := List.getElem?_eq_some_iff.1 h
  have := (hr i hi hi).1
  rw [e] at this
  exact this
theorem pt_at {pt : Nat → Nat} {x y : Nat} (hy : 1 ≤ y) : pt ((((x + y : Nat) : Int) - 1).toNat) = pt (x + y - 1) := by
  congr 1
  omega
theorem rd_is {ts : List Td} {pt : Nat → Nat} {L : List (Nk × Nat × Nat)} {Z : Nat → Zs} (hr : Rd ts pt L Z ts.length) : ∀ (T : Tt) (o : Nat), (∀ j, j < (T.flat o).length → ts[o + j]? = (T.flat o)[j]?) → IsT L T (pt (o + T.cnt - 1))
  | .t0 h, o, hs => by
    have h0 := hs 0 (by simp [Tt.flat])
    exact rd_at hr h0
  | .t1 h a, o, hs => by
    simp only [Tt.flat] at hs
    have ha := sub_left hs
    have hl := sub_right hs 0 (by simp)
    rw [a.flat_len] at hl
    obtain ⟨c, hc⟩ := rd_at hr hl
    refine ⟨_, c, rd_is hr a o ha, ?_⟩
    have e := pt_at (pt := pt) (x := o) a.cnt_pos
    have e2 : keyOf pt (h.td [((o + a.cnt : Nat) : Int) - 1]) = keyH h (some (pt (o + a.cnt - 1))) none none := by
      rw [← e]; rfl
    rw [e2] at hc
    exact hc
  | .t2 h a b, o, hs => by
    simp only [Tt.flat] at hs
    have hab := sub_left hs
    have ha := sub_left hab
    have hb := sub_right hab
    have hl := sub_right hs 0 (by simp)
    rw [a.flat_len] at hb
    rw [List.length_append, a.flat_len, b.flat_len] at hl
    obtain ⟨c, hc⟩ := rd_at hr hl
    refine ⟨_, _, c, rd_is hr a o ha, rd_is hr b (o + a.cnt) hb, ?_⟩
    have e := pt_at (pt := pt) (x := o) a.cnt_pos
    have e1 := pt_at (pt := pt) (x := o + a.cnt) b.cnt_pos
    have e2 : keyOf pt (h.td [((o + a.cnt : Nat) : Int) - 1, ((o + a.cnt + b.cnt : Nat) : Int) - 1]) = keyH h (some (pt (o + a.cnt - 1))) (some (pt (o + a.cnt + b.cnt - 1))) none := by
      rw [← e, ← e1]; rfl
    rw [e2] at hc
    exact hc
  | .t3 h a b d, o, hs => by
    simp only [Tt.flat] at hs
    have habd := sub_left hs
    have hab := sub_left habd
    have ha := sub_left hab
    have hb := sub_right hab
    have hd := sub_right habd
    have hl := sub_right hs 0 (by simp)
    rw [a.flat_len] at hb
    rw [List.length_append, a.flat_len, b.flat_len] at hd
    rw [List.length_append, List.length_append, a.flat_len, b.flat_len, d.flat_len] at hl
    rw [← Nat.add_assoc] at hd
    obtain ⟨c, hc⟩ := rd_at hr hl
    refine ⟨_, _, _, c, rd_is hr a o ha, rd_is hr b (o + a.cnt) hb, rd_is hr d (o + a.cnt + b.cnt) hd, ?_⟩
    have e := pt_at (pt := pt) (x := o) a.cnt_pos
    have e1 := pt_at (pt := pt) (x := o + a.cnt) b.cnt_pos
    have e3 := pt_at (pt := pt) (x := o + a.cnt + b.cnt) d.cnt_pos
    have e2 : keyOf pt (h.td [((o + a.cnt : Nat) : Int) - 1, ((o + a.cnt + b.cnt : Nat) : Int) - 1, ((o + a.cnt + b.cnt + d.cnt : Nat) : Int) - 1]) = keyH h (some (pt (o + a.cnt - 1))) (some (pt (o + a.cnt + b.cnt - 1))) (some (pt (o + a.cnt + b.cnt + d.cnt - 1))) := by
      rw [← e, ← e1, ← e3]; rfl
    rw [e2] at hc
    exact hc
/-- The root of what was read stands for the term's tree. -/
theorem rd_root {ts : List Td} {pt : Nat → Nat} {L : List (Nk × Nat × Nat)} {Z : Nat → Zs} (hr : Rd ts pt L Z ts.length) {T : Tt} (hT : T.flat 0 = ts) : IsT L T (pt (ts.length - 1)) := by
  have h := rd_is hr T 0 (fun j _ => by rw [hT, Nat.zero_add])
  have hc : T.cnt = ts.length := by rw [← T.flat_len 0, hT]
  rw [hc, Nat.zero_add] at h
  exact h
end Go.Proofs.YtpmpooekpeocdaaGreat
