/- Where no numbers meet the constraints there is a short cycle with a positive sum, and what both searches find is a cycle. No program is walked here. -/
import Derived.Test.YteedainidoldoaaSwH
import Derived.Test.YteedainidoldoaaCyc
namespace Go.Proofs.Yteedainidoldoaa

/-- A way through constraints, from a side to a side. -/
def Way (cs : List Ct) : Nat → List Ct → Nat → Prop
  | s, [], e => s = e
  | s, c :: l, e => c ∈ cs ∧ jn s c = true ∧ Way cs c.b l e
def sumW : List Ct → Int
  | [] => 0
  | c :: l => c.n + sumW l
theorem sumW_app : ∀ l m : List Ct, sumW (l ++ m) = sumW l + sumW m
  | [], m => by simp [sumW]
  | c :: l, m => by
    have := sumW_app l m
    simp only [List.cons_append, sumW]
    omega
theorem way_app {cs : List Ct} : ∀ (l : List Ct) {s e : Nat} {m : List Ct}, Way cs s (l ++ m) e ↔ ∃ v, Way cs s l v ∧ Way cs v m e
  | [], s, e, m => by simp [Way]
  | c :: l, s, e, m => by
    simp only [List.cons_append, Way]
    rw [way_app l]
    constructor
    · rintro ⟨h1, h2, v, h3, h4⟩
      exact ⟨v, ⟨h1, h2, h3⟩, h4⟩
    · rintro ⟨v, ⟨h1, h2, h3⟩, h4⟩
      exact ⟨h1, h2, v, h3, h4⟩
theorem omax_has {x : Int} {a b : Option Int} (h : (∃ v, a = some v ∧ x ≤ v) ∨ (∃ v, b = some v ∧ x ≤ v)) : ∃ v, omax a b = some v ∧ x ≤ v := by
  rcases h with ⟨v, rfl, hv⟩ | ⟨v, rfl, hv⟩
  · cases b with
    | none => exact ⟨v, rfl, hv⟩
    | some y =>
      refine ⟨_, rfl, ?_⟩
      split <;> omega
  · cases a with
    | none => exact ⟨v, rfl, hv⟩
    | some y =>
      refine ⟨_, rfl, ?_⟩
      split <;> omega
theorem fold_has {f : Ct → Option Int} {p : Ct → Bool} {x : Int} : ∀ (l : List Ct) (acc : Option Int), ((∃ v, acc = some v ∧ x ≤ v) ∨ ∃ c, c ∈ l ∧ p c = true ∧ ∃ v, f c = some v ∧ x ≤ v) → ∃ v, l.foldl (fun acc c => if p c = true then omax acc (f c) else acc) acc = some v ∧ x ≤ v
  | [], acc, h => by
    rcases h with h | ⟨c, hc, _⟩
    · exact h
    · cases hc
  | d :: l, acc, h => by
    rw [List.foldl_cons]
    refine fold_has l _ ?_
    rcases h with h | ⟨c, hc, hp, h⟩
    · left
      split
      · exact omax_has (.inl h)
      · exact h
    · rcases List.mem_cons.1 hc with rfl | hc
      · left
        rw [if_pos hp]
        exact omax_has (.inr h)
      · exact .inr ⟨c, hc, hp, h⟩
theorem omax_from {a b : Option Int} {v : Int} (h : omax a b = some v) : a = some v ∨ b = some v := by
  cases a with
  | none => exact .inr h
  | some x => cases b with
    | none => exact .inl h
    | some y =>
      simp only [omax] at h
      split at h
      · exact .inr h
      · exact .inl h
theorem fold_from {f : Ct → Option Int} {p : Ct → Bool} {v : Int} : ∀ (l : List Ct) (acc : Option Int), l.foldl (fun acc c => if p c = true then omax acc (f c) else acc) acc = some v → acc = some v ∨ ∃ c, c ∈ l ∧ p c = true ∧ f c = some v
  | [], _, h => .inl h
  | d :: l, acc, h => by
    rw [List.foldl_cons] at h
    rcases fold_from l _ h with h | ⟨c, hc, hp, h⟩
    · by_cases hp : p d = true
      · rw [if_pos hp] at h
        rcases omax_from h with h | h
        · exact .inl h
        · exact .inr ⟨d, List.mem_cons_self .., hp, h⟩
      · rw [if_neg hp] at h
        exact .inl h
    · exact .inr ⟨c, List.mem_cons_of_mem _ hc, hp, h⟩
/-- A way is no better than the greatest sum. -/
theorem ib_ge {cs : List Ct} {home : Nat} : ∀ (l : List Ct) {s e : Nat}, Way cs s l e → (e = 0 ∨ e = home) → ∃ v, ib cs l.length s home = some v ∧ sumW l ≤ v
  | [], s, e, h, he => by
    have h : s = e := h
    subst h
    refine ⟨0, ?_, by simp [sumW]⟩
    show ib cs 0 s home = some 0
    unfold ib
    rw [if_pos he]
  | c :: l, s, e, h, he => by
    obtain ⟨h1, h2, h3⟩ := h
    obtain ⟨v, hv, hs⟩ := ib_ge l h3 he
    show ∃ v, ib cs (l.length + 1) s home = some v ∧ _
    unfold ib
    refine fold_has (f := fun c => (ib cs l.length c.b home).map (fun v => c.n + v)) cs none (.inr ⟨c, h1, h2, c.n + v, by simp only [hv]; rfl, ?_⟩)
    simp only [sumW]
    omega
/-- The greatest sum is that of a way. -/
theorem ib_way {cs : List Ct} {home : Nat} : ∀ (k : Nat) {s : Nat} {v : Int}, ib cs k s home = some v → ∃ l e, l.length = k ∧ Way cs s l e ∧ (e = 0 ∨ e = home) ∧ sumW l = v
  | 0, s, v, h => by
    unfold ib at h
    by_cases hs : s = 0 ∨ s = home
    · rw [if_pos hs] at h
      exact ⟨[], s, rfl, rfl, hs, by simp only [sumW]; exact Option.some.inj h⟩
    · rw [if_neg hs] at h
      cases h
  | k + 1, s, v, h => by
    unfold ib at h
    rcases fold_from (f := fun c => (ib cs k c.b home).map (fun v => c.n + v)) cs none h with h | ⟨c, hc, hp, h⟩
    · cases h
    · cases hb : ib cs k c.b home with
      | none => simp only [hb] at h; cases h
      | some u =>
        simp only [hb] at h
        obtain ⟨l, e, h1, h2, h3, h4⟩ := ib_way k hb
        refine ⟨c :: l, e, by simp [h1], ⟨hc, hp, h2⟩, h3, ?_⟩
        simp only [sumW]
        have h5 : c.n + u = v := Option.some.inj h
        omega
theorem way_sides {n : Nat} {cs : List Ct} (ho : Okc n cs) : ∀ (l : List Ct) {s e : Nat}, s ≤ n → Way cs s l e → ∀ x ∈ s :: l.map Ct.b, x ≤ n
  | [], s, e, hs, _, x, hx => by
    simp at hx
    omega
  | c :: l, s, e, hs, h, x, hx => by
    obtain ⟨h1, _, h3⟩ := h
    rcases List.mem_cons.1 hx with rfl | hx
    · exact hs
    · exact way_sides ho l (ho c h1).2 h3 x hx
/-- A way that comes to a side of its beginning. -/
theorem way_at {cs : List Ct} {x : Nat} : ∀ (l : List Ct) {s e : Nat}, Way cs s l e → x ∈ l.map Ct.b → ∃ m1 m2, l = m1 ++ m2 ∧ m1 ≠ [] ∧ Way cs s m1 x ∧ Way cs x m2 e
  | [], _, _, _, hx => by simp at hx
  | c :: l, s, e, h, hx => by
    obtain ⟨h1, h2, h3⟩ := h
    by_cases e1 : x = c.b
    · subst e1
      exact ⟨[c], l, rfl, by simp, ⟨h1, h2, rfl⟩, h3⟩
    · rw [List.map_cons] at hx
      obtain ⟨m1, m2, h4, _, h6, h7⟩ := way_at l h3 ((List.mem_cons.1 hx).resolve_left e1)
      exact ⟨c :: m1, m2, by rw [h4]; rfl, by simp, ⟨h1, h2, h6⟩, h7⟩
/-- A way that comes twice to a side holds a ring. -/
theorem way_ring {cs : List Ct} : ∀ (l : List Ct) {s e : Nat}, Way cs s l e → ¬ (s :: l.map Ct.b).Nodup → ∃ m1 m2 m3 v, l = m1 ++ (m2 ++ m3) ∧ m2 ≠ [] ∧ Way cs s m1 v ∧ Way cs v m2 v ∧ Way cs v m3 e
  | [], s, e, _, hn => absurd (by simp) hn
  | c :: l, s, e, h, hn => by
    by_cases hs : s ∈ (c :: l).map Ct.b
    · obtain ⟨m2, m3, h1, h2, h3, h4⟩ := way_at (c :: l) h hs
      exact ⟨[], m2, m3, s, h1, h2, rfl, h3, h4⟩
    · have h5 : ¬ (c.b :: l.map Ct.b).Nodup := fun h6 => hn (List.nodup_cons.2 ⟨hs, h6⟩)
      obtain ⟨h1, h2, h3⟩ := h
      obtain ⟨m1, m2, m3, v, h7, h8, h9, h10, h11⟩ := way_ring l h3 h5
      exact ⟨c :: m1, m2, m3, v, by rw [h7]; rfl, h8, ⟨h1, h2, h9⟩, h10, h11⟩
/-- The greatest sum of a short way from 0. -/
def potX (cs : List Ct) (n j : Nat) : Int := (List.range (n + 1)).foldl (fun acc k => match ib cs k 0 j with
  | some v => if acc < v then v else acc
  | none => acc) 0
theorem pot_fold (g : Nat → Option Int) : ∀ (l : List Nat) (acc : Int), (acc ≤ l.foldl (fun acc k => match g k with | some v => if acc < v then v else acc | none => acc) acc) ∧
    (∀ k ∈ l, ∀ v, g k = some v → v ≤ l.foldl (fun acc k => match g k with | some v => if acc < v then v else acc | none => acc) acc) ∧
    (l.foldl (fun acc k => match g k with | some v => if acc < v then v else acc | none => acc) acc = acc ∨ ∃ k ∈ l, g k = some (l.foldl (fun acc k => match g k with | some v => if acc < v then v else acc | none => acc) acc))
  | [], acc => ⟨Int.le_refl _, fun k hk => (by cases hk), .inl rfl⟩
  | d :: l, acc => by
    rw [List.foldl_cons]
    cases hd : g d with
    | none =>
      simp only
      obtain ⟨h1, h2, h3⟩ := pot_fold g l acc
      refine ⟨h1, fun k hk v hv => ?_, ?_⟩
      · rcases List.mem_cons.1 hk with rfl | hk
        · rw [hd] at hv; cases hv
        · exact h2 k hk v hv
      · rcases h3 with h3 | ⟨k, hk, h3⟩
        · exact .inl h3
        · exact .inr ⟨k, List.mem_cons_of_mem _ hk, h3⟩
    | some u =>
      simp only
      obtain ⟨h1, h2, h3⟩ := pot_fold g l (if acc < u then u else acc)
      have hu : u ≤ (if acc < u then u else acc) ∧ acc ≤ (if acc < u then u else acc) := by split <;> omega
      refine ⟨by omega, fun k hk v hv => ?_, ?_⟩
      · rcases List.mem_cons.1 hk with rfl | hk
        · rw [hd] at hv
          have := Option.some.inj hv
          omega
        · exact h2 k hk v hv
      · rcases h3 with h3 | ⟨k, hk, h3⟩
        · by_cases e : acc < u
          · right
            refine ⟨d, List.mem_cons_self .., ?_⟩
            rw [hd, h3, if_pos e]
          · left
            rw [h3, if_neg e]
        · exact .inr ⟨k, List.mem_cons_of_mem _ hk, h3⟩
/-- Where there is no short cycle with a positive sum, some numbers meet the constraints. -/
theorem sol_exists {n : Nat} {cs : List Ct} (ho : Okc n cs) (hno : ∀ l s, l ≤ n → s < cs.length → cyQ cs l s = false) : ∃ x, Sol n cs x := by
  have ring : ∀ c l e, c ∈ cs → Way cs c.b l e → (e = 0 ∨ e = c.a) → l.length ≤ n → c.n + sumW l ≤ 0 := by
    intro c l e hc hw he hl
    obtain ⟨s, hs, rfl⟩ := List.getElem_of_mem hc
    have hq := hno l.length s hl hs
    unfold cyQ at hq
    have ec : cAt cs s = cs[s] := by unfold cAt; simp [List.getD, hs]
    rw [ec] at hq
    obtain ⟨v, hv, hsv⟩ := ib_ge l hw he
    rw [hv] at hq
    have hq : decide (0 < cs[s].n + v) = false := hq
    have := of_decide_eq_false hq
    omega
  have ring2 : ∀ m v, m ≠ [] → Way cs v m v → m.length ≤ n + 1 → sumW m ≤ 0 := by
    intro m v hm hw hl
    cases m with
    | nil => exact absurd rfl hm
    | cons c l =>
      obtain ⟨h1, h2, h3⟩ := hw
      have h4 : v = 0 ∨ v = c.a := by unfold jn at h2; simpa using h2
      simp only [sumW]
      exact ring c l v h1 h3 h4 (by simp at hl; omega)
  have short : ∀ m e, Way cs 0 m e → m.length ≤ n + 1 → ∃ m', Way cs 0 m' e ∧ m'.length ≤ n ∧ sumW m ≤ sumW m' := by
    intro m e hw hl
    by_cases h : m.length ≤ n
    · exact ⟨m, hw, h, Int.le_refl _⟩
    · have hnd : ¬ (0 :: m.map Ct.b).Nodup := fun hnd => by
        have h1 := nodup_le n _ hnd (way_sides ho m (Nat.zero_le _) hw)
        simp at h1
        omega
      obtain ⟨m1, m2, m3, v, h1, h2, h3, h4, h5⟩ := way_ring m hw hnd
      have hlen : m.length = m1.length + (m2.length + m3.length) := by rw [h1, List.length_append, List.length_append]
      have h6 := ring2 m2 v h2 h4 (by omega)
      have h7 : 0 < m2.length := List.length_pos_iff.2 h2
      refine ⟨m1 ++ m3, (way_app m1).2 ⟨v, h3, h5⟩, by rw [List.length_append]; omega, ?_⟩
      rw [h1, sumW_app, sumW_app, sumW_app]
      omega
  have pge : ∀ j l e, Way cs 0 l e → (e = 0 ∨ e = j) → l.length ≤ n → sumW l ≤ potX cs n j := by
    intro j l e hw he hl
    obtain ⟨v, hv, hs⟩ := ib_ge l hw he
    have := (pot_fold (fun k => ib cs k 0 j) (List.range (n + 1)) 0).2.1 l.length (List.mem_range.2 (by omega)) v hv
    exact Int.le_trans hs this
  have pat : ∀ j, ∃ l e, Way cs 0 l e ∧ (e = 0 ∨ e = j) ∧ l.length ≤ n ∧ sumW l = potX cs n j := by
    intro j
    rcases (pot_fold (fun k => ib cs k 0 j) (List.range (n + 1)) 0).2.2 with h | ⟨k, hk, h⟩
    · exact ⟨[], 0, rfl, .inl rfl, Nat.zero_le _, h.symm⟩
    · obtain ⟨l, e, h1, h2, h3, h4⟩ := ib_way k h
      have := List.mem_range.1 hk
      exact ⟨l, e, h2, h3, by omega, h4⟩
  refine ⟨potX cs n, ?_, fun j _ => (pot_fold (fun k => ib cs k 0 j) (List.range (n + 1)) 0).1, fun c hc => ?_⟩
  · have h0 : 0 ≤ potX cs n 0 := (pot_fold (fun k => ib cs k 0 0) (List.range (n + 1)) 0).1
    obtain ⟨l, e, h1, h2, h3, h4⟩ := pat 0
    have he : e = 0 := by omega
    subst he
    cases l with
    | nil => simp only [sumW] at h4; omega
    | cons c l =>
      have := ring2 (c :: l) 0 (by simp) h1 (by omega)
      omega
  · obtain ⟨l, e, h1, h2, h3, h4⟩ := pat c.a
    have hj : jn e c = true := by unfold jn; simpa using h2
    obtain ⟨m, h5, h6, h7⟩ := short (l ++ [c]) c.b ((way_app l).2 ⟨e, h1, hc, hj, rfl⟩) (by simp; omega)
    have h8 := pge c.b m c.b h5 (.inr rfl) h6
    rw [sumW_app] at h7
    simp only [sumW] at h7
    unfold met
    omega
/-- The greedy list is a way that ends where the cycle may begin again, with a positive sum. -/
theorem gr_way {cs : List Ct} {home : Nat} : ∀ (l : Nat) (sum : Int) (side : Nat), gt0 sum (ib cs l side home) = true → ∃ e, (e = 0 ∨ e = home) ∧ Way cs side ((gr cs home l sum side).map (cAt cs)) e ∧ 0 < sum + sumW ((gr cs home l sum side).map (cAt cs)) ∧ ∀ i ∈ gr cs home l sum side, i < cs.length
  | 0, sum, side, h => by
    unfold ib at h
    by_cases hs : side = 0 ∨ side = home
    · rw [if_pos hs] at h
      have h : decide (0 < sum + 0) = true := h
      have := of_decide_eq_true h
      exact ⟨side, hs, rfl, by simp only [gr, List.map_nil, sumW]; omega, fun i hi => by simp [gr] at hi⟩
    · rw [if_neg hs] at h
      cases h
  | l + 1, sum, side, h => by
    obtain ⟨i, h1, h2, h3, h4⟩ := next_some h
    obtain ⟨e, h5, h6, h7, h8⟩ := gr_way l _ _ h4
    have hg : gr cs home (l + 1) sum side = i :: gr cs home l (sum + (cAt cs i).n) (cAt cs i).b := by
      conv => lhs; unfold gr
      rw [h1]
    have hm : cAt cs i ∈ cs := by
      have e : cAt cs i = cs[i] := by unfold cAt; simp [List.getD, h2]
      rw [e]
      exact List.getElem_mem h2
    rw [hg]
    refine ⟨e, h5, ⟨hm, h3, h6⟩, ?_, fun j hj => ?_⟩
    · simp only [List.map_cons, sumW]
      omega
    · rcases List.mem_cons.1 hj with rfl | hj
      · exact h2
      · exact h8 j hj
theorem way_next {cs : List Ct} : ∀ (l : List Ct) {s e : Nat}, Way cs s l e → ∀ i (h : i + 1 < l.length), jn l[i].b l[i + 1] = true
  | [], _, _, _, i, h => by simp at h
  | [_], _, _, _, i, h => by simp at h
  | c :: d :: l, s, e, hw, 0, h => hw.2.2.2.1
  | c :: d :: l, s, e, hw, i + 1, h => way_next (d :: l) hw.2.2 i (by simpa using h)
theorem way_last {cs : List Ct} : ∀ (l : List Ct) {s e : Nat}, Way cs s l e → ∀ (h : 0 < l.length), (l[l.length - 1]'(by omega)).b = e
  | [], _, _, _, h => by simp at h
  | [c], s, e, hw, h => hw.2.2
  | c :: d :: l, s, e, hw, h => by
    have := way_last (d :: l) hw.2.2 (by simp)
    simpa using this
theorem join_jn {c d : Cn} (hb : -1 ≤ c.b) (ha : -1 ≤ d.a) (h : jn (ctC c).b (ctC d) = true) : joinB c d = true := by
  unfold jn ctC at h
  unfold joinB
  simp at h
  simp
  omega
/-- The first cycle is a cycle. -/
theorem lst_cyc {m : Nat} {cs : List Cn} (hok : consB m cs = true) {l s : Nat} (hs : s < cs.length) (hq : cyQ (cs.map ctC) l s = true) : cycB m cs ((lst (cs.map ctC) l s).map (fun i : Nat => (i : Int))) = true := by
  have h4 := (consB_yes hok).2
  obtain ⟨e, h5, h6, h7, h8⟩ := gr_way l _ _ (show gt0 (cAt (cs.map ctC) s).n (ib (cs.map ctC) l (cAt (cs.map ctC) s).b (cAt (cs.map ctC) s).a) = true from hq)
  obtain ⟨L, hL⟩ : ∃ L, L = lst (cs.map ctC) l s := ⟨_, rfl⟩
  have hin : ∀ i ∈ L, i < cs.length := by
    intro i hi
    rw [hL] at hi
    unfold lst at hi
    rcases List.mem_cons.1 hi with rfl | hi
    · exact hs
    · have := h8 i hi
      rw [List.length_map] at this
      exact this
  have hcm : cAt (cs.map ctC) s ∈ cs.map ctC := by
    rw [cAt_map hs]
    exact List.mem_map.2 ⟨_, List.getElem_mem hs, rfl⟩
  have hW : Way (cs.map ctC) (cAt (cs.map ctC) s).a (L.map (cAt (cs.map ctC))) e := by
    rw [hL]
    exact ⟨hcm, by unfold jn; simp, h6⟩
  have hsum : 0 < sumW (L.map (cAt (cs.map ctC))) := by
    rw [hL]
    exact h7
  have hpos : 0 < L.length := by rw [hL]; unfold lst; simp
  have h0 : L[0] = s := by subst hL; rfl
  rw [← hL]
  have hlen : (L.map (fun i : Nat => (i : Int))).length = L.length := by simp
  have hat : ∀ i (h : i < L.length), atL cs (L.map (fun i : Nat => (i : Int))) i = cs[L[i]]'(hin _ (List.getElem_mem h)) := fun i h => atL_eq (by simpa using h) (by simp) _
  have hct : ∀ i (h : i < L.length), (L.map (cAt (cs.map ctC)))[i]'(by simpa using h) = ctC (cs[L[i]]'(hin _ (List.getElem_mem h))) := fun i h => by
    rw [List.getElem_map, cAt_map (hin _ (List.getElem_mem h))]
  have hsumk : ∀ k, k ≤ L.length → sumTo cs (L.map (fun i : Nat => (i : Int))) k = sumW ((L.map (cAt (cs.map ctC))).take k) := by
    intro k
    induction k with
    | zero => intro _; simp [sumTo, sumW]
    | succ k ih =>
      intro hk
      have hk2 : k < (L.map (cAt (cs.map ctC))).length := by simp; omega
      rw [List.take_succ_eq_append_getElem hk2, sumW_app]
      simp only [sumTo]
      rw [ih (by omega), hat k (by omega), hct k (by omega)]
      simp [sumW, ctC]
  rw [cycB_all hok (by rw [hlen]; exact hpos) (inB_all (fun j hj => by
    have hj2 : j < L.length := by simpa using hj
    have := hin _ (List.getElem_mem hj2)
    simp
    omega)) (fun k hk => ?_)]
  · rw [hlen, hsumk _ (Nat.le_refl _), List.take_of_length_le (by simp)]
    exact decide_eq_true hsum
  · rw [hlen] at hk ⊢
    have hmod : (k + 1) % L.length < L.length := Nat.mod_lt _ hpos
    rw [hat k hk, hat _ hmod]
    refine join_jn (h4 _ (hin _ (List.getElem_mem hk))).2.2.1 (h4 _ (hin _ (List.getElem_mem hmod))).1 ?_
    by_cases hl : k + 1 < L.length
    · have e1 : (k + 1) % L.length = k + 1 := Nat.mod_eq_of_lt hl
      simp only [e1]
      have := way_next _ hW k (by simpa using hl)
      rw [hct k hk, hct (k + 1) hl] at this
      exact this
    · have e1 : (k + 1) % L.length = 0 := by
        have : k + 1 = L.length := by omega
        rw [this, Nat.mod_self]
      have e2 : k = L.length - 1 := by omega
      subst e2
      simp only [e1]
      have h9 := way_last _ hW (by simpa using hpos)
      simp only [List.length_map] at h9
      rw [hct _ hk] at h9
      rw [h9]
      have h10 := cAt_map hs
      have h11 : (cAt (cs.map ctC) s).a = (ctC (cs[L[0]]'(hin _ (List.getElem_mem hpos)))).a := by
        simp only [h0]
        rw [h10]
      unfold jn
      rw [h11] at h5
      simpa using h5
/-- Where no numbers meet valid constraints, Solve's list is a cycle. -/
theorem first_cyc {m : Nat} {cs : List Cn} (hok : consB m cs = true) (hn : ¬ ∃ x, Sol m (cs.map ctC) x) : cycB m cs ((firstI m (cs.map ctC)).map (fun i : Nat => (i : Int))) = true := by
  obtain ⟨o, h1, h2⟩ := firstI_least m (cs.map ctC)
  cases o with
  | none => exact absurd (sol_exists (okc_ct hok) h1) hn
  | some p =>
    obtain ⟨l, s⟩ := p
    obtain ⟨_, h3, h4, _⟩ := h1
    rw [h2]
    exact lst_cyc hok (by simpa using h3) h4
end Go.Proofs.Yteedainidoldoaa
