/- Plain facts for ParseLevel: the grammar of levels' texts, and that brackets in them close. No program is named here. -/
import Derived.Test.YtlmhpdmgjfankaaDoorPutP
import Derived.Test.YtlmhpdmgjfankaaDoorShort
namespace Go.Proofs.YtlmhpdmgjfankaaDoor

abbrev Bs := List UInt8
def digU (c : UInt8) : Bool := decide (48 ≤ c.toNat) && decide (c.toNat ≤ 57)
def goesU (c : UInt8) : Bool := goesC c
/-- The number of digits. -/
def numU (d : Bs) : Nat := d.foldl (fun n c => n * 10 + (c.toNat - 48)) 0
def okNum (d : Bs) : Bool := decide (1 ≤ d.length) && decide (d.length ≤ 4) && d.all digU
def okName (s : Bs) : Bool := paramB ⟨s.toArray⟩
/-- What a level's text says. -/
inductive Lx where
  | num (n : Nat)
  | name (s : Bs)
  | max (a b : Lx)
  | imax (a b : Lx)
  | plus (a : Lx) (n : Nat)
inductive G : Bs → Lx → Prop where
  | num (d : Bs) (h : okNum d = true) : G d (.num (numU d))
  | name (s : Bs) (h : okName s = true) : G s (.name s)
  | max (a b : Bs) (x y : Lx) (ha : G a x) (hb : G b y) : G ([109, 97, 120, 40] ++ a ++ [44] ++ b ++ [41]) (.max x y)
  | imax (a b : Bs) (x y : Lx) (ha : G a x) (hb : G b y) : G ([105, 109, 97, 120, 40] ++ a ++ [44] ++ b ++ [41]) (.imax x y)
  | plus (a d : Bs) (x : Lx) (ha : G a x) (h : okNum d = true) : G (a ++ [43] ++ d) (.plus x (numU d))

/-- How deep a text stands behind its last byte. -/
def net : Bs → Int
  | [] => 0
  | c :: s => (if c = 40 then 1 else if c = 41 then -1 else 0) + net s
theorem net_append (a b : Bs) : net (a ++ b) = net a + net b := by
  induction a with
  | nil => simp [net]
  | cons x a ih => simp only [List.cons_append, net, ih]; omega
/-- The last place of a byte at depth 0. -/
def lastO (c : UInt8) : Int → Nat → Bs → Option Nat
  | _, _, [] => none
  | d, i, x :: s => match lastO c (d + (if x = 40 then 1 else if x = 41 then -1 else 0)) (i + 1) s with
    | some j => some j
    | none => if x = c ∧ d = 0 then some i else none
theorem lastO_append (c : UInt8) (a b : Bs) : ∀ (d : Int) (i : Nat), lastO c d i (a ++ b) = match lastO c (d + net a) (i + a.length) b with
    | some j => some j
    | none => lastO c d i a := by
  induction a with
  | nil => intro d i; simp [net, lastO]; cases lastO c d i b <;> rfl
  | cons x a ih =>
    intro d i
    simp only [List.cons_append, lastO, ih, net, List.length_cons]
    rw [show d + ((if x = 40 then 1 else if x = 41 then -1 else 0) + net a) = d + (if x = 40 then 1 else if x = 41 then -1 else 0) + net a by omega, show i + (a.length + 1) = i + 1 + a.length by omega]
    cases lastO c (d + (if x = 40 then 1 else if x = 41 then -1 else 0) + net a) (i + 1 + a.length) b <;> rfl
/-- Bytes without brackets. -/
theorem net_plain {s : Bs} (h : ∀ c ∈ s, c ≠ 40 ∧ c ≠ 41) : net s = 0 := by
  induction s with
  | nil => rfl
  | cons x s ih =>
    have h1 := h x (by simp)
    simp only [net, if_neg h1.1, if_neg h1.2, ih (fun c hc => h c (by simp [hc]))]; omega
theorem lastO_none {c : UInt8} {s : Bs} (h : ∀ x ∈ s, x ≠ c) : ∀ (d : Int) (i : Nat), lastO c d i s = none := by
  induction s with
  | nil => intro d i; rfl
  | cons x s ih =>
    intro d i
    simp only [lastO, ih (fun y hy => h y (by simp [hy]))]
    rw [if_neg (fun e => h x (by simp) e.1)]
theorem dig_not {d : Bs} (h : okNum d = true) : ∀ c ∈ d, c ≠ 40 ∧ c ≠ 41 ∧ c ≠ 43 ∧ c ≠ 44 := by
  intro c hc
  unfold okNum at h
  rw [Bool.and_eq_true, List.all_eq_true] at h
  have := h.2 c hc
  unfold digU at this
  rw [Bool.and_eq_true, decide_eq_true_eq, decide_eq_true_eq] at this
  refine ⟨?_, ?_, ?_, ?_⟩ <;> (intro e; rw [e] at this; simp at this)
theorem name_not {s : Bs} (h : okName s = true) : ∀ c ∈ s, c ≠ 40 ∧ c ≠ 41 ∧ c ≠ 43 ∧ c ≠ 44 := by
  intro c hc
  unfold okName paramB shortB at h
  simp only [Bool.and_eq_true, List.all_eq_true] at h
  have := h.1.1.2 c hc
  refine ⟨?_, ?_, ?_, ?_⟩ <;> (intro e; rw [e] at this; revert this; decide)
/-- Brackets close, and what stands within them stands deeper. -/
theorem G.closed {s : Bs} {x : Lx} (h : G s x) : net s = 0 ∧ (∀ (c : UInt8), (c = 43 ∨ c = 44) → ∀ (d : Int) (i : Nat), 1 ≤ d → lastO c d i s = none) := by
  induction h with
  | num d h => exact ⟨net_plain (fun c hc => ⟨(dig_not h c hc).1, (dig_not h c hc).2.1⟩), fun c hc d i _ => lastO_none (fun y hy e => by have := dig_not h y hy; rcases hc with rfl | rfl <;> simp_all) d i⟩
  | name s h => exact ⟨net_plain (fun c hc => ⟨(name_not h c hc).1, (name_not h c hc).2.1⟩), fun c hc d i _ => lastO_none (fun y hy e => by have := name_not h y hy; rcases hc with rfl | rfl <;> simp_all) d i⟩
  | max a b x y ha hb iha ihb =>
    refine ⟨by simp [net_append, net, iha.1, ihb.1], fun c hc d i hd => ?_⟩
    simp only [lastO_append, iha.1, ihb.1, net, net_append]
    rw [iha.2 c hc _ _ (by simp; omega), ihb.2 c hc _ _ (by simp; omega)]
    have z0 : ¬ d = 0 := by omega
    have z1 : ¬ d + 1 = 0 := by omega
    rcases hc with rfl | rfl <;> simp [lastO, z0, z1]
  | imax a b x y ha hb iha ihb =>
    refine ⟨by simp [net_append, net, iha.1, ihb.1], fun c hc d i hd => ?_⟩
    simp only [lastO_append, iha.1, ihb.1, net, net_append]
    rw [iha.2 c hc _ _ (by simp; omega), ihb.2 c hc _ _ (by simp; omega)]
    have z0 : ¬ d = 0 := by omega
    have z1 : ¬ d + 1 = 0 := by omega
    rcases hc with rfl | rfl <;> simp [lastO, z0, z1]
  | plus a d x ha h iha =>
    have hd := net_plain (fun c hc => ⟨(dig_not h c hc).1, (dig_not h c hc).2.1⟩)
    refine ⟨by simp [net_append, net, iha.1, hd], fun c hc dd i hdd => ?_⟩
    simp only [lastO_append, iha.1, net, net_append]
    rw [iha.2 c hc _ _ hdd, lastO_none (fun y hy e => by have := dig_not h y hy; rcases hc with rfl | rfl <;> simp_all)]
    have z0 : ¬ dd = 0 := by omega
    rcases hc with rfl | rfl <;> simp [lastO, z0]
/-- No comma stands outside. -/
theorem G.comma {s : Bs} {x : Lx} (h : G s x) : ∀ i, lastO 44 0 i s = none := by
  induction h with
  | num d h => exact fun i => lastO_none (fun y hy => (dig_not h y hy).2.2.2) 0 i
  | name s h => exact fun i => lastO_none (fun y hy => (name_not h y hy).2.2.2) 0 i
  | max a b x y ha hb _ _ =>
    intro i
    have h1 := ha.closed
    have h2 := hb.closed
    simp only [lastO_append, h1.1, h2.1, net, net_append]
    rw [h1.2 44 (.inr rfl) _ _ (by simp), h2.2 44 (.inr rfl) _ _ (by simp)]
    simp [lastO]
  | imax a b x y ha hb _ _ =>
    intro i
    have h1 := ha.closed
    have h2 := hb.closed
    simp only [lastO_append, h1.1, h2.1, net, net_append]
    rw [h1.2 44 (.inr rfl) _ _ (by simp), h2.2 44 (.inr rfl) _ _ (by simp)]
    simp [lastO]
  | plus a d x ha h iha =>
    intro i
    simp only [lastO_append, ha.closed.1, net, net_append]
    rw [iha, lastO_none (fun y hy => (dig_not h y hy).2.2.2)]
    simp [lastO]
end Go.Proofs.YtlmhpdmgjfankaaDoor

/- Plain facts for ParseLevel: the specification's reader takes just the texts of the grammar. No program is named here. -/
namespace Go.Proofs.YtlmhpdmgjfankaaDoor

/-- So many more around a tree. -/
def tsucc : Nat → Tr → Tr
  | 0, t => t
  | n + 1, t => .one 2 ⟨#[]⟩ (tsucc n t)
def manyT (n : Nat) (t : Tr) : Tr := tsucc (min n 65) t
def zeroT : Tr := .leaf 1 ⟨#[]⟩
def nameT (s : Bs) : Tr := .leaf 5 ⟨s.toArray⟩
def Lx.tr : Lx → Tr
  | .num n => manyT n zeroT
  | .name s => nameT s
  | .max a b => .two 3 ⟨#[]⟩ a.tr b.tr
  | .imax a b => .two 4 ⟨#[]⟩ a.tr b.tr
  | .plus a n => manyT n a.tr
/-- The specification's reader, with so much fuel. -/
def spPair (k : Int) (sp : Bs → Option Tr) (i : Bs) : Option Tr :=
  match lastO 44 0 0 i with
  | none => none
  | some c => match sp (i.take c), sp (i.drop (c + 1)) with
    | some a, some b => some (.two k ⟨#[]⟩ a b)
    | _, _ => none
def spIn (k : Int) (sp : Bs → Option Tr) (i : Bs) : Option Tr := if i.getLast? = some 41 then spPair k sp i.dropLast else none
def sp : Nat → Bs → Option Tr
  | 0, _ => none
  | n + 1, s => match lastO 43 0 0 s with
    | some p => if okNum (s.drop (p + 1)) then (sp n (s.take p)).map (manyT (numU (s.drop (p + 1)))) else none
    | none => if okNum s then some (manyT (numU s) zeroT)
      else if s.take 4 = [109, 97, 120, 40] then spIn 3 (sp n) (s.drop 4)
      else if s.take 5 = [105, 109, 97, 120, 40] then spIn 4 (sp n) (s.drop 5)
      else if okName s then some (nameT s) else none
theorem lastO_get {c : UInt8} {s : Bs} : ∀ {d : Int} {i j : Nat}, lastO c d i s = some j → i ≤ j ∧ s[j - i]? = some c := by
  induction s with
  | nil => intro d i j h; simp [lastO] at h
  | cons x s ih =>
    intro d i j h
    simp only [lastO] at h
    split at h
    · rename_i q hq
      obtain rfl := Option.some.inj h
      obtain ⟨h1, h2⟩ := ih hq
      refine ⟨by omega, ?_⟩
      rw [show q - i = (q - (i + 1)) + 1 by omega, List.getElem?_cons_succ]; exact h2
    · split at h
      · rename_i hx
        obtain rfl := Option.some.inj h
        exact ⟨Nat.le_refl _, by rw [Nat.sub_self]; simp [hx.1]⟩
      · cases h
theorem cut_at {c : UInt8} {s : Bs} {j : Nat} (h : lastO c 0 0 s = some j) : s = s.take j ++ [c] ++ s.drop (j + 1) ∧ j < s.length := by
  obtain ⟨_, h2⟩ := lastO_get h
  rw [Nat.sub_zero] at h2
  obtain ⟨hl, hg⟩ := List.getElem?_eq_some_iff.1 h2
  refine ⟨?_, hl⟩
  conv => lhs; rw [← List.take_append_drop j s, List.drop_eq_getElem_cons hl, hg]
  simp
theorem spPair_sound {n : Nat} {k : Int} {i : Bs} {t : Tr} (ih : ∀ s t, sp n s = some t → ∃ e, G s e ∧ t = e.tr) (h : spPair k (sp n) i = some t) : ∃ a b x y, i = a ++ [44] ++ b ∧ G a x ∧ G b y ∧ t = .two k ⟨#[]⟩ x.tr y.tr := by
  unfold spPair at h
  split at h
  · cases h
  · rename_i c hc
    split at h
    · rename_i a b ha hb
      obtain ⟨x, gx, rfl⟩ := ih _ _ ha
      obtain ⟨y, gy, rfl⟩ := ih _ _ hb
      exact ⟨_, _, x, y, (cut_at hc).1, gx, gy, (Option.some.inj h).symm⟩
    · cases h
theorem spIn_sound {n : Nat} {k : Int} {i : Bs} {t : Tr} (ih : ∀ s t, sp n s = some t → ∃ e, G s e ∧ t = e.tr) (h : spIn k (sp n) i = some t) : ∃ a b x y, i = a ++ [44] ++ b ++ [41] ∧ G a x ∧ G b y ∧ t = .two k ⟨#[]⟩ x.tr y.tr := by
  unfold spIn at h
  split at h
  · rename_i hl
    obtain ⟨a, b, x, y, h1, h2, h3, h4⟩ := spPair_sound ih h
    refine ⟨a, b, x, y, ?_, h2, h3, h4⟩
    rw [← h1]
    have hne : i ≠ [] := by intro e; rw [e] at hl; simp at hl
    have := List.dropLast_concat_getLast hne
    rw [List.getLast?_eq_some_getLast hne] at hl
    rw [Option.some.inj hl] at this
    exact this.symm
  · cases h
theorem sp_sound : ∀ (n : Nat) (s : Bs) (t : Tr), sp n s = some t → ∃ e, G s e ∧ t = e.tr := by
  intro n
  induction n with
  | zero => intro s t h; simp [sp] at h
  | succ n ih =>
    intro s t h
    simp only [sp] at h
    split at h
    · rename_i p hp
      split at h
      · rename_i hd
        cases hs : sp n (s.take p) with
        | none => rw [hs] at h; cases h
        | some u =>
          rw [hs] at h
          obtain ⟨x, gx, rfl⟩ := ih _ _ hs
          refine ⟨.plus x _, ?_, (Option.some.inj h).symm⟩
          have := G.plus (s.take p) (s.drop (p + 1)) x gx hd
          rwa [← (cut_at hp).1] at this
      · cases h
    · split at h
      · rename_i hd
        exact ⟨.num _, G.num s hd, (Option.some.inj h).symm⟩
      · split at h
        · rename_i h4
          obtain ⟨a, b, x, y, h1, h2, h3, h5⟩ := spIn_sound ih h
          refine ⟨.max x y, ?_, h5⟩
          have := G.max a b x y h2 h3
          rw [show [109, 97, 120, 40] ++ a ++ [44] ++ b ++ [41] = s by rw [← List.take_append_drop 4 s, h4, h1]; simp] at this
          exact this
        · split at h
          · rename_i h5
            obtain ⟨a, b, x, y, h1, h2, h3, h6⟩ := spIn_sound ih h
            refine ⟨.imax x y, ?_, h6⟩
            have := G.imax a b x y h2 h3
            rw [show [105, 109, 97, 120, 40] ++ a ++ [44] ++ b ++ [41] = s by rw [← List.take_append_drop 5 s, h5, h1]; simp] at this
            exact this
          · split at h
            · rename_i hn
              exact ⟨.name s, G.name s hn, (Option.some.inj h).symm⟩
            · cases h
theorem name_head {s : Bs} (h : okName s = true) : okNum s = false := by
  cases s with
  | nil => rfl
  | cons c s =>
    unfold okName paramB shortB at h
    simp only [Bool.and_eq_true] at h
    have hh : letB (c.toNat : Int) = true := h.1.1.1.2
    unfold okNum
    rw [Bool.and_eq_false_iff]
    right
    rw [List.all_eq_false]
    refine ⟨c, by simp, ?_⟩
    unfold digU
    unfold letB at hh
    simp only [Bool.or_eq_true, Bool.and_eq_true, decide_eq_true_eq] at hh
    simp only [Bool.and_eq_true, decide_eq_true_eq]
    omega
theorem spIn_complete {n : Nat} {k : Int} {a b : Bs} {x y : Lx} (ga : G a x) (gb : G b y) (ha : sp n a = some x.tr) (hb : sp n b = some y.tr) : spIn k (sp n) (a ++ [44] ++ b ++ [41]) = some (.two k ⟨#[]⟩ x.tr y.tr) := by
  unfold spIn
  rw [if_pos (by rw [List.getLast?_concat]), List.dropLast_concat]
  unfold spPair
  have hl : lastO 44 0 0 (a ++ [44] ++ b) = some a.length := by
    simp only [lastO_append, ga.closed.1, net_append, net]
    rw [show ((0 : Int) + (0 + ((if (44 : UInt8) = 40 then 1 else if (44 : UInt8) = 41 then -1 else 0) + 0))) = 0 by simp, gb.comma]
    simp [lastO]
  rw [hl]
  have h1 : (a ++ [44] ++ b).take a.length = a := by simp
  have h2 : (a ++ [44] ++ b).drop (a.length + 1) = b := by
    rw [show a.length + 1 = (a ++ [44]).length by simp, List.drop_left]
  simp only [h1, h2, ha, hb]
theorem sp_complete {s : Bs} {e : Lx} (h : G s e) : ∀ n, s.length < n → sp n s = some e.tr := by
  induction h with
  | num d h =>
    intro n hn
    obtain ⟨n, rfl⟩ : ∃ m, n = m + 1 := ⟨n - 1, by omega⟩
    simp only [sp, lastO_none (fun y hy => (dig_not h y hy).2.2.1)]
    rw [if_pos h]; rfl
  | name s h =>
    intro n hn
    obtain ⟨n, rfl⟩ : ∃ m, n = m + 1 := ⟨n - 1, by omega⟩
    simp only [sp, lastO_none (fun y hy => (name_not h y hy).2.2.1)]
    have h4 : ¬ s.take 4 = [109, 97, 120, 40] := fun e => (name_not h 40 (List.mem_of_mem_take (i := 4) (by rw [e]; simp))).1 rfl
    have h5 : ¬ s.take 5 = [105, 109, 97, 120, 40] := fun e => (name_not h 40 (List.mem_of_mem_take (i := 5) (by rw [e]; simp))).1 rfl
    rw [if_neg (by rw [name_head h]; simp), if_neg h4, if_neg h5, if_pos h]; rfl
  | max a b x y ha hb iha ihb =>
    intro n hn
    obtain ⟨n, rfl⟩ : ∃ m, n = m + 1 := ⟨n - 1, by omega⟩
    simp only [List.length_append, List.length_cons, List.length_nil] at hn
    have hl : lastO 43 0 0 ([109, 97, 120, 40] ++ a ++ [44] ++ b ++ [41]) = none := by
      simp only [lastO_append, ha.closed.1, hb.closed.1, net, net_append]
      rw [ha.closed.2 43 (.inl rfl) _ _ (by simp), hb.closed.2 43 (.inl rfl) _ _ (by simp)]
      simp [lastO]
    simp only [sp, hl]
    rw [if_neg (by simp [okNum, digU]), if_pos (by simp)]
    rw [show ([109, 97, 120, 40] ++ a ++ [44] ++ b ++ [41] : Bs).drop 4 = a ++ [44] ++ b ++ [41] by simp]
    exact spIn_complete ha hb (iha n (by omega)) (ihb n (by omega))
  | imax a b x y ha hb iha ihb =>
    intro n hn
    obtain ⟨n, rfl⟩ : ∃ m, n = m + 1 := ⟨n - 1, by omega⟩
    simp only [List.length_append, List.length_cons, List.length_nil] at hn
    have hl : lastO 43 0 0 ([105, 109, 97, 120, 40] ++ a ++ [44] ++ b ++ [41]) = none := by
      simp only [lastO_append, ha.closed.1, hb.closed.1, net, net_append]
      rw [ha.closed.2 43 (.inl rfl) _ _ (by simp), hb.closed.2 43 (.inl rfl) _ _ (by simp)]
      simp [lastO]
    simp only [sp, hl]
    rw [if_neg (by simp [okNum, digU]), if_neg (by simp), if_pos (by simp)]
    rw [show ([105, 109, 97, 120, 40] ++ a ++ [44] ++ b ++ [41] : Bs).drop 5 = a ++ [44] ++ b ++ [41] by simp]
    exact spIn_complete ha hb (iha n (by omega)) (ihb n (by omega))
  | plus a d x ha h iha =>
    intro n hn
    obtain ⟨n, rfl⟩ : ∃ m, n = m + 1 := ⟨n - 1, by omega⟩
    simp only [List.length_append, List.length_cons, List.length_nil] at hn
    have hl : lastO 43 0 0 (a ++ [43] ++ d) = some a.length := by
      simp only [lastO_append, ha.closed.1, net, net_append]
      rw [lastO_none (fun y hy => (dig_not h y hy).2.2.1)]
      simp [lastO]
    have h2 : (a ++ [43] ++ d).drop (a.length + 1) = d := by
      rw [show a.length + 1 = (a ++ [43]).length by simp, List.drop_left]
    have h1 : (a ++ [43] ++ d).take a.length = a := by simp
    simp only [sp, hl, h1, h2]
    rw [if_pos h, iha n (by omega)]; rfl
end Go.Proofs.YtlmhpdmgjfankaaDoor

/- Plain facts for ParseLevel: the program's reader takes just the texts of the grammar, and what both readers make of a text has the same size or is too great. No program is named here. -/
namespace Go.Proofs.YtlmhpdmgjfankaaDoor

def sA0 (n : Nat) (x : It) : It := if n = 0 then x else sAroundN n x
def Lx.it : Lx → It
  | .num n => sA0 n .zero
  | .name s => .param ⟨s.toArray⟩
  | .max a b => .max a.it b.it
  | .imax a b => .imax a.it b.it
  | .plus a n => sA0 n a.it
def pPlus : Nat → It → Bs → Option (It × Bs)
  | 0, _, _ => none
  | _ + 1, x, [] => some (x, [])
  | m + 1, x, c :: r => if c = 43 then (if okNum (r.takeWhile digU) then pPlus m (sA0 (numU (r.takeWhile digU)) x) (r.dropWhile digU) else none) else some (x, c :: r)
def pPair (rd : Bs → Option (It × Bs)) : Bs → Option (It × It × Bs)
  | [] => none
  | c :: r => if c = 40 then match rd r with
      | some (a, c2 :: r2) => if c2 = 44 then match rd r2 with
          | some (b, c3 :: r3) => if c3 = 41 then some (a, b, r3) else none
          | _ => none
        else none
      | _ => none
    else none
def pB (rd : Bs → Option (It × Bs)) (s : Bs) : Option (It × Bs) :=
  if s.takeWhile digU ≠ [] then (if okNum (s.takeWhile digU) then some (sA0 (numU (s.takeWhile digU)) .zero, s.dropWhile digU) else none)
  else if s.takeWhile goesU = [109, 97, 120] then (pPair rd (s.dropWhile goesU)).map fun q => (.max q.1 q.2.1, q.2.2)
  else if s.takeWhile goesU = [105, 109, 97, 120] then (pPair rd (s.dropWhile goesU)).map fun q => (.imax q.1 q.2.1, q.2.2)
  else if shortB ⟨(s.takeWhile goesU).toArray⟩ then some (.param ⟨(s.takeWhile goesU).toArray⟩, s.dropWhile goesU) else none
def pR : Nat → Bs → Option (It × Bs)
  | 0, _ => none
  | n + 1, s => match pB (pR n) s with
    | none => none
    | some (x, r) => pPlus (r.length + 1) x r

theorem pPlus_sound : ∀ (m : Nat) (x y : It) (s r p : Bs) (e : Lx), pPlus m x s = some (y, r) → G p e → x = e.it → ∃ e' q, s = q ++ r ∧ G (p ++ q) e' ∧ y = e'.it := by
  intro m
  induction m with
  | zero => intro x y s r p e h; simp [pPlus] at h
  | succ m ih =>
    intro x y s r p e h hg hx
    cases s with
    | nil =>
      simp only [pPlus, Option.some.injEq, Prod.mk.injEq] at h
      exact ⟨e, [], by simp [h.2.symm], by simpa using hg, by rw [← h.1, hx]⟩
    | cons c s =>
      simp only [pPlus] at h
      split at h
      · rename_i hc
        split at h
        · rename_i hd
          obtain ⟨e', q, h1, h2, h3⟩ := ih _ y _ r (p ++ [43] ++ s.takeWhile digU) (.plus e (numU (s.takeWhile digU))) h (G.plus p _ e hg hd) (by rw [hx]; rfl)
          refine ⟨e', [43] ++ s.takeWhile digU ++ q, ?_, by simpa using h2, h3⟩
          rw [hc]
          conv => lhs; rw [← List.takeWhile_append_dropWhile (p := digU) (l := s), h1]
          simp
        · cases h
      · simp only [Option.some.injEq, Prod.mk.injEq] at h
        exact ⟨e, [], by simp [h.2.symm], by simpa using hg, by rw [← h.1, hx]⟩
theorem pPair_sound {rd : Bs → Option (It × Bs)} {s : Bs} {a b : It} {r : Bs} (ih : ∀ s x r, rd s = some (x, r) → ∃ e p, s = p ++ r ∧ G p e ∧ x = e.it) (h : pPair rd s = some (a, b, r)) : ∃ p q x y, s = [40] ++ p ++ [44] ++ q ++ [41] ++ r ∧ G p x ∧ G q y ∧ a = x.it ∧ b = y.it := by
  cases s with
  | nil => simp [pPair] at h
  | cons c s =>
    simp only [pPair] at h
    split at h
    · rename_i hc
      split at h
      · rename_i a' c2 r2 ha
        split at h
        · rename_i hc2
          split at h
          · rename_i b' c3 r3 hb
            split at h
            · rename_i hc3
              simp only [Option.some.injEq, Prod.mk.injEq] at h
              obtain ⟨rfl, rfl, rfl⟩ := h
              obtain ⟨x, p, h1, h2, h3⟩ := ih _ _ _ ha
              obtain ⟨y, q, h4, h5, h6⟩ := ih _ _ _ hb
              exact ⟨p, q, x, y, by rw [hc, h1, hc2, h4, hc3]; simp, h2, h5, h3, h6⟩
            · cases h
          · cases h
        · cases h
      · cases h
    · cases h
theorem tl_mk (l : Bs) : (⟨l.toArray⟩ : ByteArray).toList = l := by rw [ByteArray.toList_eq]
theorem pR_sound : ∀ (n : Nat) (s : Bs) (x : It) (r : Bs), pR n s = some (x, r) → ∃ e p, s = p ++ r ∧ G p e ∧ x = e.it := by
  intro n
  induction n with
  | zero => intro s x r h; simp [pR] at h
  | succ n ih =>
    intro s x r h
    simp only [pR] at h
    split at h
    · cases h
    · rename_i y r1 hb
      have key : ∃ e p, s = p ++ r1 ∧ G p e ∧ y = e.it := by
        unfold pB at hb
        split at hb
        · split at hb
          · rename_i hd
            simp only [Option.some.injEq, Prod.mk.injEq] at hb
            exact ⟨.num _, _, by rw [← hb.2, List.takeWhile_append_dropWhile], G.num _ hd, hb.1.symm⟩
          · cases hb
        · split at hb
          · rename_i hm
            cases hp : pPair (pR n) (s.dropWhile goesU) with
            | none => rw [hp] at hb; cases hb
            | some q =>
              obtain ⟨a, b, r2⟩ := q
              rw [hp] at hb
              simp only [Option.map_some, Option.some.injEq, Prod.mk.injEq] at hb
              obtain ⟨p, q, u, v, h1, h2, h3, h4, h5⟩ := pPair_sound ih hp
              refine ⟨.max u v, _, ?_, G.max p q u v h2 h3, by rw [← hb.1, h4, h5]; rfl⟩
              rw [← hb.2]
              conv => lhs; rw [← List.takeWhile_append_dropWhile (p := goesU) (l := s), hm, h1]
              simp
          · split at hb
            · rename_i hm
              cases hp : pPair (pR n) (s.dropWhile goesU) with
              | none => rw [hp] at hb; cases hb
              | some q =>
                obtain ⟨a, b, r2⟩ := q
                rw [hp] at hb
                simp only [Option.map_some, Option.some.injEq, Prod.mk.injEq] at hb
                obtain ⟨p, q, u, v, h1, h2, h3, h4, h5⟩ := pPair_sound ih hp
                refine ⟨.imax u v, _, ?_, G.imax p q u v h2 h3, by rw [← hb.1, h4, h5]; rfl⟩
                rw [← hb.2]
                conv => lhs; rw [← List.takeWhile_append_dropWhile (p := goesU) (l := s), hm, h1]
                simp
            · rename_i hm hi
              split at hb
              · rename_i hs
                simp only [Option.some.injEq, Prod.mk.injEq] at hb
                refine ⟨.name (s.takeWhile goesU), _, by rw [← hb.2, List.takeWhile_append_dropWhile], G.name _ ?_, hb.1.symm⟩
                unfold okName paramB
                rw [hs, tl_mk]
                simp [hm, hi]
              · cases hb
      obtain ⟨e, p, h1, h2, h3⟩ := key
      obtain ⟨e', q, h4, h5, h6⟩ := pPlus_sound _ _ _ _ _ p e h h2 h3
      exact ⟨e', p ++ q, by rw [h1, h4]; simp, h5, h6⟩
end Go.Proofs.YtlmhpdmgjfankaaDoor
