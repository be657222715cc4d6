/- Plain facts for HolesOf: numbers put into a rising row, once each; two rising rows with the same members are one. No program is named here. -/
import Derived.Test.YtdbepifdmcjjpaaGreatTMem
import Derived.Test.YtdbepifdmcjjpaaGreatTSamQ
namespace Go.Proofs.YtdbepifdmcjjpaaGreat

/-- A number put into a rising row. -/
def insZ (a : Int) : List Int → List Int
  | [] => [a]
  | b :: l => if b < a then b :: insZ a l else if b = a then b :: l else a :: b :: l
def Rising (l : List Int) : Prop := l.Pairwise (fun a b => a < b)
theorem insZ_mem (a : Int) : ∀ (l : List Int) (x : Int), x ∈ insZ a l ↔ x = a ∨ x ∈ l
  | [], x => by simp [insZ]
  | b :: l, x => by
    unfold insZ
    split
    · rw [List.mem_cons, insZ_mem a l x, List.mem_cons]
      constructor
      · rintro (h | h | h)
        · exact .inr (.inl h)
        · exact .inl h
        · exact .inr (.inr h)
      · rintro (h | h | h)
        · exact .inr (.inl h)
        · exact .inl h
        · exact .inr (.inr h)
    · split
      · rename_i h
        constructor
        · intro hx; exact .inr hx
        · rintro (hx | hx)
          · rw [hx, ← h]; simp
          · exact hx
      · simp
theorem insZ_rising (a : Int) : ∀ (l : List Int), Rising l → Rising (insZ a l)
  | [], _ => by simp [insZ, Rising]
  | b :: l, h => by
    have h2 := List.pairwise_cons.1 h
    unfold insZ
    split
    · rename_i hb
      refine List.pairwise_cons.2 ⟨fun x hx => ?_, insZ_rising a l h2.2⟩
      rcases (insZ_mem a l x).1 hx with rfl | hx
      · exact hb
      · exact h2.1 x hx
    · split
      · exact h
      · rename_i hb hne
        refine List.pairwise_cons.2 ⟨fun x hx => ?_, h⟩
        rcases List.mem_cons.1 hx with rfl | hx
        · omega
        · have := h2.1 x hx; omega
theorem rising_ext : ∀ (l m : List Int), Rising l → Rising m → (∀ x, x ∈ l ↔ x ∈ m) → l = m
  | [], [], _, _, _ => rfl
  | [], b :: m, _, _, h => by have := (h b).2 (by simp); simp at this
  | a :: l, [], _, _, h => by have := (h a).1 (by simp); simp at this
  | a :: l, b :: m, hl, hm, h => by
    have hl2 := List.pairwise_cons.1 hl
    have hm2 := List.pairwise_cons.1 hm
    have hab : a = b := by
      have h1 := (h a).1 (by simp)
      have h2 := (h b).2 (by simp)
      rcases List.mem_cons.1 h1 with e | h1
      · exact e
      · rcases List.mem_cons.1 h2 with e | h2
        · exact e.symm
        · have := hm2.1 a h1; have := hl2.1 b h2; omega
    subst hab
    congr 1
    refine rising_ext l m hl2.2 hm2.2 (fun x => ?_)
    constructor
    · intro hx
      have := (h x).1 (by simp [hx])
      rcases List.mem_cons.1 this with e | h3
      · have := hl2.1 x hx; omega
      · exact h3
    · intro hx
      have := (h x).2 (by simp [hx])
      rcases List.mem_cons.1 this with e | h3
      · have := hm2.1 x hx; omega
      · exact h3
/-- As the specification puts it: what is less, the number, the others. -/
theorem insZ_cut (a : Int) : ∀ (l : List Int), Rising l → insZ a l = if (l.dropWhile (fun b => decide (b < a))).head? = some a then l else l.takeWhile (fun b => decide (b < a)) ++ [a] ++ l.dropWhile (fun b => decide (b < a))
  | [], _ => by simp [insZ]
  | b :: l, h => by
    have h2 := List.pairwise_cons.1 h
    unfold insZ
    by_cases hb : b < a
    · rw [if_pos hb, insZ_cut a l h2.2]
      simp only [List.dropWhile_cons, List.takeWhile_cons, hb, decide_true, if_true]
      split
      · rfl
      · simp
    · rw [if_neg hb]
      simp only [List.dropWhile_cons, List.takeWhile_cons, hb, decide_false, Bool.false_eq_true, if_false, List.head?_cons, Option.some.injEq]
      by_cases he : b = a
      · rw [if_pos he, if_pos he]
      · rw [if_neg he, if_neg he]; simp
/-- The holes of nodes. -/
def holesN (ts : List Td) : List Int := (ts.filter (fun td => decide (td.k = 9))).map (·.n)
def holesZ : List Int → List Int → List Int
  | out, [] => out
  | out, a :: l => holesZ (insZ a out) l
theorem holesZ_mem : ∀ (l out : List Int) (x : Int), x ∈ holesZ out l ↔ x ∈ out ∨ x ∈ l
  | [], out, x => by simp [holesZ]
  | a :: l, out, x => by
    rw [holesZ, holesZ_mem l (insZ a out) x, insZ_mem, List.mem_cons]
    constructor
    · rintro ((h | h) | h)
      · exact .inr (.inl h)
      · exact .inl h
      · exact .inr (.inr h)
    · rintro (h | h | h)
      · exact .inl (.inr h)
      · exact .inl (.inl h)
      · exact .inr h
theorem holesZ_rising : ∀ (l out : List Int), Rising out → Rising (holesZ out l)
  | [], _, h => h
  | a :: l, out, h => holesZ_rising l (insZ a out) (insZ_rising a out h)
end Go.Proofs.YtdbepifdmcjjpaaGreat

/- The holes of a node's tree, as the specification meets them: those of the nodes at the places that it spans. Plain facts. -/
namespace Go.Proofs.YtdbepifdmcjjpaaGreat

/-- The holes of the tree at a place. -/
def holesF (ts : List Td) : Nat → Int → List Int
  | 0, _ => []
  | n + 1, i => if (tdI ts i).k = 9 then [(tdI ts i).n] else (tdI ts i).kids.flatMap (holesF ts n)

theorem holesZ_len : ∀ (l out : List Int), (holesZ out l).length ≤ out.length + l.length
  | [], out => by simp [holesZ]
  | a :: l, out => by
    have h := holesZ_len l (insZ a out)
    have h2 : ∀ m : List Int, (insZ a m).length ≤ m.length + 1 := by
      intro m
      induction m with
      | nil => simp [insZ]
      | cons b m ih => unfold insZ; split; · simp; omega
                       · split <;> simp
    have := h2 out
    rw [holesZ]; simp only [List.length_cons]; omega
theorem holesZ_append : ∀ (l m out : List Int), holesZ out (l ++ m) = holesZ (holesZ out l) m
  | [], _, _ => rfl
  | a :: l, m, out => by rw [List.cons_append, holesZ, holesZ, holesZ_append l m]

theorem tiles_len (ts : List Td) (f : Int → List Int) : ∀ (l : List Int) (a b : Int), (∀ c ∈ l, ((f c).length : Int) ≤ szI ts c) → tiles (szI ts) a l b → ((l.flatMap f).length : Int) ≤ b - a
  | [], a, b, _, h => by simp only [tiles] at h; simp; omega
  | c :: l, a, b, hf, h => by
    rw [show c :: l = [c] ++ l from rfl, tiles_append] at h
    obtain ⟨m, h1, h2⟩ := h
    have ih := tiles_len ts f l m b (fun x hx => hf x (by simp [hx])) h2
    have hc := hf c (by simp)
    rw [show [c] = [] ++ [c] from rfl, tiles_snoc] at h1
    simp only [tiles] at h1
    rw [List.flatMap_cons, List.length_append]
    omega

variable {ts : List Td} (ht : termB ts = true)
include ht
theorem holesF_len : ∀ (n : Nat) (i : Int), 0 ≤ i → i < n → i < ts.length → ((holesF ts n i).length : Int) ≤ szI ts i
  | 0, i, h0, h, _ => by omega
  | n + 1, i, h0, h, hi => by
    have T := tiledI ht i h0 hi
    have ho := T.one
    unfold holesF
    split
    · simp; omega
    · have := tiles_len ts (holesF ts n) (tdI ts i).kids _ _ (fun c hc => holesF_len n c (T.kin c hc).1 (by have := (T.kin c hc).2; omega) (by have := (T.kin c hc).2; omega)) T.span
      omega
theorem holesF_none : ∀ (n : Nat) (i : Int), 0 ≤ i → i < n → i < ts.length → (zI (Zt ts) i).ho = false → holesF ts n i = []
  | 0, i, h0, h, _, _ => by omega
  | n + 1, i, h0, h, hi, hh => by
    have T := tiledI ht i h0 hi
    rw [T.eqz] at hh
    simp only [zmk, hoP, Bool.or_eq_false_iff, beq_eq_false_iff_ne, List.take_length] at hh
    unfold holesF
    rw [if_neg hh.1, List.flatMap_eq_nil_iff]
    intro c hc
    refine holesF_none n c (T.kin c hc).1 (by have := (T.kin c hc).2; omega) (by have := (T.kin c hc).2; omega) ?_
    have h2 := hh.2
    rw [List.any_eq_false] at h2
    have := h2 (zI (Zt ts) c) (List.mem_map.2 ⟨c, hc, rfl⟩)
    simpa using this
theorem holesF_mem : ∀ (n : Nat) (i : Int), 0 ≤ i → i < n → i < ts.length → ∀ x, x ∈ holesF ts n i ↔ ∃ p : Int, i - szI ts i < p ∧ p ≤ i ∧ (tdI ts p).k = 9 ∧ (tdI ts p).n = x
  | 0, i, h0, h, _ => by omega
  | n + 1, i, h0, h, hi => by
    intro x
    have T := tiledI ht i h0 hi
    have ho := T.one
    have hk1 : ∀ c ∈ (tdI ts i).kids, 1 ≤ szI ts c := fun c hc => (tiledI ht c (T.kin c hc).1 (by have := (T.kin c hc).2; omega)).one
    unfold holesF
    split
    · rename_i h9
      have h0k : (tdI ts i).kids = [] := by
        have := T.arity
        rw [h9] at this
        have h3 : tkidsN 9 = 0 := by decide
        rw [h3] at this
        exact List.eq_nil_of_length_eq_zero (by omega)
      have hs1 := T.span
      rw [h0k] at hs1
      simp only [tiles] at hs1
      constructor
      · intro hx
        rw [List.mem_singleton] at hx
        exact ⟨i, by omega, by omega, h9, hx.symm⟩
      · rintro ⟨p, h1, h2, _, h4⟩
        have : p = i := by omega
        subst this
        simp [h4]
    · rename_i h9
      rw [List.mem_flatMap]
      constructor
      · rintro ⟨c, hc, hx⟩
        have hr := T.kin c hc
        obtain ⟨p, h1, h2, h3, h4⟩ := (holesF_mem n c hr.1 (by omega) (by omega) x).1 hx
        have hm := tiles_mem _ _ _ _ hk1 T.span c hc
        exact ⟨p, by omega, by omega, h3, h4⟩
      · rintro ⟨p, h1, h2, h3, h4⟩
        have hpi : p ≠ i := fun e => h9 (by rw [← e]; exact h3)
        obtain ⟨c, hc, h5, h6⟩ := tiles_cover (szI ts) _ _ _ p T.span (by omega) (by omega)
        have hr := T.kin c hc
        exact ⟨c, hc, (holesF_mem n c hr.1 (by omega) (by omega) x).2 ⟨p, h5, h6, h3, h4⟩⟩
/-- At the root: the holes of all nodes. -/
theorem holes_root (x : Int) : x ∈ holesF ts ts.length ((ts.length : Int) - 1) ↔ x ∈ holesN ts := by
  obtain ⟨h1, h2⟩ := root_sz ht
  rw [holesF_mem ht ts.length _ (by omega) (by omega) (by omega)]
  unfold holesN
  rw [List.mem_map]
  constructor
  · rintro ⟨p, h3, h4, h5, h6⟩
    have hp : p.toNat < ts.length := by omega
    have e : tdI ts p = ts[p.toNat] := by rw [← tdI_at hp, Int.toNat_of_nonneg (by omega)]
    rw [e] at h5 h6
    exact ⟨ts[p.toNat], List.mem_filter.2 ⟨List.getElem_mem hp, by simp [h5]⟩, h6⟩
  · rintro ⟨td, h3, h4⟩
    obtain ⟨h5, h6⟩ := List.mem_filter.1 h3
    obtain ⟨p, hp, rfl⟩ := List.mem_iff_getElem.1 h5
    exact ⟨(p : Int), by omega, by omega, by rw [tdI_at hp]; simpa using h6, by rw [tdI_at hp]; exact h4⟩
theorem term_pos : 1 ≤ ts.length := (root_sz ht).1
theorem holes_root_len : (holesF ts ts.length ((ts.length : Int) - 1)).length ≤ ts.length := by
  obtain ⟨h1, h2⟩ := root_sz ht
  have := holesF_len ht ts.length ((ts.length : Int) - 1) (by omega) (by omega) (by omega)
  omega
end Go.Proofs.YtdbepifdmcjjpaaGreat
