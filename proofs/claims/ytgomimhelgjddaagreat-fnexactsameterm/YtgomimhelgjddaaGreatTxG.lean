/- Plain facts for ParseLevel: the grammar of levels' texts, and that brackets in them close. No program is named here. -/
import Derived.Test.YtgomimhelgjddaaGreatPutP
import Derived.Test.YtgomimhelgjddaaGreatMem
import Derived.Test.YtgomimhelgjddaaGreatTxS
namespace Go.Proofs.YtgomimhelgjddaaGreat

abbrev Bs := List UInt8
def digU (c : UInt8) : Bool := decide (48 ≤ c.toNat) && decide (c.toNat ≤ 57)
def goesU (c : UInt8) : Bool := goesC c
/-- The number of digits. -/
def numU (d : Bs) : Nat := d.foldl (fun n c => n * 10 + (c.toNat - 48)) 0
def okNum (d : Bs) : Bool := decide (1 ≤ d.length) && decide (d.length ≤ 4) && d.all digU
def okName (s : Bs) : Bool := paramB ⟨s.toArray⟩
/-- What a level's text says. -/
inductive Lx where
  | num (n : Nat)
  | name (s : Bs)
  | max (a b : Lx)
  | imax (a b : Lx)
  | plus (a : Lx) (n : Nat)
inductive G : Bs → Lx → Prop where
  | num (d : Bs) (h : okNum d = true) : G d (.num (numU d))
  | name (s : Bs) (h : okName s = true) : G s (.name s)
  | max (a b : Bs) (x y : Lx) (ha : G a x) (hb : G b y) : G ([109, 97, 120, 40] ++ a ++ [44] ++ b ++ [41]) (.max x y)
  | imax (a b : Bs) (x y : Lx) (ha : G a x) (hb : G b y) : G ([105, 109, 97, 120, 40] ++ a ++ [44] ++ b ++ [41]) (.imax x y)
  | plus (a d : Bs) (x : Lx) (ha : G a x) (h : okNum d = true) : G (a ++ [43] ++ d) (.plus x (numU d))

/-- How deep a text stands behind its last byte. -/
def net : Bs → Int
  | [] => 0
  | c :: s => (if c = 40 then 1 else if c = 41 then -1 else 0) + net s
theorem net_append (a b : Bs) : net (a ++ b) = net a + net b := by
  induction a with
  | nil => simp [net]
  | cons x a ih => simp only [List.cons_append, net, ih]; omega
/-- The last place of a byte at depth 0. -/
def lastO (c : UInt8) : Int → Nat → Bs → Option Nat
  | _, _, [] => none
  | d, i, x :: s => match lastO c (d + (if x = 40 then 1 else if x = 41 then -1 else 0)) (i + 1) s with
    | some j => some j
    | none => if x = c ∧ d = 0 then some i else none
theorem lastO_append (c : UInt8) (a b : Bs) : ∀ (d : Int) (i : Nat), lastO c d i (a ++ b) = match lastO c (d + net a) (i + a.length) b with
    | some j => some j
    | none => lastO c d i a := by
  induction a with
  | nil => intro d i; simp [net, lastO]; cases lastO c d i b <;> rfl
  | cons x a ih =>
    intro d i
    simp only [List.cons_append, lastO, ih, net, List.length_cons]
    rw [show d + ((if x = 40 then 1 else if x = 41 then -1 else 0) + net a) = d + (if x = 40 then 1 else if x = 41 then -1 else 0) + net a by omega, show i + (a.length + 1) = i + 1 + a.length by omega]
    cases lastO c (d + (if x = 40 then 1 else if x = 41 then -1 else 0) + net a) (i + 1 + a.length) b <;> rfl
/-- Bytes without brackets. -/
theorem net_plain {s : Bs} (h : ∀ c ∈ s, c ≠ 40 ∧ c ≠ 41) : net s = 0 := by
  induction s with
  | nil => rfl
  | cons x s ih =>
    have h1 := h x (by simp)
    simp only [net, if_neg h1.1, if_neg h1.2, ih (fun c hc => h c (by simp [hc]))]; omega
theorem lastO_none {c : UInt8} {s : Bs} (h : ∀ x ∈ s, x ≠ c) : ∀ (d : Int) (i : Nat), lastO c d i s = none := by
  induction s with
  | nil => intro d i; rfl
  | cons x s ih =>
    intro d i
    simp only [lastO, ih (fun y hy => h y (by simp [hy]))]
    rw [if_neg (fun e => h x (by simp) e.1)]
theorem dig_not {d : Bs} (h : okNum d = true) : ∀ c ∈ d, c ≠ 40 ∧ c ≠ 41 ∧ c ≠ 43 ∧ c ≠ 44 := by
  intro c hc
  unfold okNum at h
  rw [Bool.and_eq_true, List.all_eq_true] at h
  have := h.2 c hc
  unfold digU at this
  rw [Bool.and_eq_true, decide_eq_true_eq, decide_eq_true_eq] at this
  refine ⟨?_, ?_, ?_, ?_⟩ <;> (intro e; rw [e] at this; simp at this)
theorem name_not {s : Bs} (h : okName s = true) : ∀ c ∈ s, c ≠ 40 ∧ c ≠ 41 ∧ c ≠ 43 ∧ c ≠ 44 := by
  intro c hc
  unfold okName paramB shortB at h
  simp only [Bool.and_eq_true, List.all_eq_true] at h
  have := h.1.1.2 c hc
  refine ⟨?_, ?_, ?_, ?_⟩ <;> (intro e; rw [e] at this; revert this; decide)
/-- Brackets close, and what stands within them stands deeper. -/
theorem G.closed {s : Bs} {x : Lx} (h : G s x) : net s = 0 ∧ (∀ (c : UInt8), (c = 43 ∨ c = 44) → ∀ (d : Int) (i : Nat), 1 ≤ d → lastO c d i s = none) := by
  induction h with
  | num d h => exact ⟨net_plain (fun c hc => ⟨(dig_not h c hc).1, (dig_not h c hc).2.1⟩), fun c hc d i _ => lastO_none (fun y hy e => by have := dig_not h y hy; rcases hc with rfl | rfl <;> simp_all) d i⟩
  | name s h => exact ⟨net_plain (fun c hc => ⟨(name_not h c hc).1, (name_not h c hc).2.1⟩), fun c hc d i _ => lastO_none (fun y hy e => by have := name_not h y hy; rcases hc with rfl | rfl <;> simp_all) d i⟩
  | max a b x y ha hb iha ihb =>
    refine ⟨by simp [net_append, net, iha.1, ihb.1], fun c hc d i hd => ?_⟩
    simp only [lastO_append, iha.1, ihb.1, net, net_append]
    rw [iha.2 c hc _ _ (by simp; omega), ihb.2 c hc _ _ (by simp; omega)]
    have z0 : ¬ d = 0 := by omega
    have z1 : ¬ d + 1 = 0 := by omega
    rcases hc with rfl | rfl <;> simp [lastO, z0, z1]
  | imax a b x y ha hb iha ihb =>
    refine ⟨by simp [net_append, net, iha.1, ihb.1], fun c hc d i hd => ?_⟩
    simp only [lastO_append, iha.1, ihb.1, net, net_append]
    rw [iha.2 c hc _ _ (by simp; omega), ihb.2 c hc _ _ (by simp; omega)]
    have z0 : ¬ d = 0 := by omega
    have z1 : ¬ d + 1 = 0 := by omega
    rcases hc with rfl | rfl <;> simp [lastO, z0, z1]
  | plus a d x ha h iha =>
    have hd := net_plain (fun c hc => ⟨(dig_not h c hc).1, (dig_not h c hc).2.1⟩)
    refine ⟨by simp [net_append, net, iha.1, hd], fun c hc dd i hdd => ?_⟩
    simp only [lastO_append, iha.1, net, net_append]
    rw [iha.2 c hc _ _ hdd, lastO_none (fun y hy e => by have := dig_not h y hy; rcases hc with rfl | rfl <;> simp_all)]
    have z0 : ¬ dd = 0 := by omega
    rcases hc with rfl | rfl <;> simp [lastO, z0]
/-- No comma stands outside. -/
theorem G.comma {s : Bs} {x : Lx} (h : G s x) : ∀ i, lastO 44 0 i s = none := by
  induction h with
  | num d h => exact fun i => lastO_none (fun y hy => (dig_not h y hy).2.2.2) 0 i
  | name s h => exact fun i => lastO_none (fun y hy => (name_not h y hy).2.2.2) 0 i
  | max a b x y ha hb _ _ =>
    intro i
    have h1 := ha.closed
    have h2 := hb.closed
    simp only [lastO_append, h1.1, h2.1, net, net_append]
    rw [h1.2 44 (.inr rfl) _ _ (by simp), h2.2 44 (.inr rfl) _ _ (by simp)]
    simp [lastO]
  | imax a b x y ha hb _ _ =>
    intro i
    have h1 := ha.closed
    have h2 := hb.closed
    simp only [lastO_append, h1.1, h2.1, net, net_append]
    rw [h1.2 44 (.inr rfl) _ _ (by simp), h2.2 44 (.inr rfl) _ _ (by simp)]
    simp [lastO]
  | plus a d x ha h iha =>
    intro i
    simp only [lastO_append, ha.closed.1, net, net_append]
    rw [iha, lastO_none (fun y hy => (dig_not h y hy).2.2.2)]
    simp [lastO]
end Go.Proofs.YtgomimhelgjddaaGreat

/- Plain facts for ParseLevel: the specification's reader takes just the texts of the grammar. No program is named here. -/
namespace Go.Proofs.YtgomimhelgjddaaGreat

/-- So many more around a tree. -/
def tsucc : Nat → Tr → Tr
  | 0, t => t
  | n + 1, t => .one 2 ⟨#[]⟩ (tsucc n t)
def manyT (n : Nat) (t : Tr) : Tr := tsucc (min n 65) t
def zeroT : Tr := .leaf 1 ⟨#[]⟩
def nameT (s : Bs) : Tr := .leaf 5 ⟨s.toArray⟩
def Lx.tr : Lx → Tr
  | .num n => manyT n zeroT
  | .name s => nameT s
  | .max a b => .two 3 ⟨#[]⟩ a.tr b.tr
  | .imax a b => .two 4 ⟨#[]⟩ a.tr b.tr
  | .plus a n => manyT n a.tr
/-- The specification's reader, with so much fuel. -/
def spPair (k : Int) (sp : Bs → Option Tr) (i : Bs) : Option Tr :=
  match lastO 44 0 0 i with
  | none => none
  | some c => match sp (i.take c), sp (i.drop (c + 1)) with
    | some a, some b => some (.two k ⟨#[]⟩ a b)
    | _, _ => none
def spIn (k : Int) (sp : Bs → Option Tr) (i : Bs) : Option Tr := if i.getLast? = some 41 then spPair k sp i.dropLast else none
def sp : Nat → Bs → Option Tr
  | 0, _ => none
  | n + 1, s => match lastO 43 0 0 s with
    | some p => if okNum (s.drop (p + 1)) then (sp n (s.take p)).map (manyT (numU (s.drop (p + 1)))) else none
    | none => if okNum s then some (manyT (numU s) zeroT)
      else if s.take 4 = [109, 97, 120, 40] then spIn 3 (sp n) (s.drop 4)
      else if s.take 5 = [105, 109, 97, 120, 40] then spIn 4 (sp n) (s.drop 5)
      else if okName s then some (nameT s) else none
theorem lastO_get {c : UInt8} {s : Bs} : ∀ {d : Int} {i j : Nat}, lastO c d i s = some j → i ≤ j ∧ s[j - i]? = some c := by
  induction s with
  | nil => intro d i j h; simp [lastO] at h
  | cons x s ih =>
    intro d i j h
    simp only [lastO] at h
    split at h
    · rename_i q hq
      obtain rfl := Option.some.inj h
      obtain ⟨h1, h2⟩ := ih hq
      refine ⟨by omega, ?_⟩
      rw [show q - i = (q - (i + 1)) + 1 by omega, List.getElem?_cons_succ]; exact h2
    · split at h
      · rename_i hx
        obtain rfl := Option.some.inj h
        exact ⟨Nat.le_refl _, by rw [Nat.sub_self]; simp [hx.1]⟩
      · cases h
theorem cut_at {c : UInt8} {s : Bs} {j : Nat} (h : lastO c 0 0 s = some j) : s = s.take j ++ [c] ++ s.drop (j + 1) ∧ j < s.length := by
  obtain ⟨_, h2⟩ := lastO_get h
  rw [Nat.sub_zero] at h2
  obtain ⟨hl, hg⟩ := List.getElem?_eq_some_iff.1 h2
  refine ⟨?_, hl⟩
  conv => lhs; rw [← List.take_append_drop j s, List.drop_eq_getElem_cons hl, hg]
  simp
theorem spPair_sound {n : Nat} {k : Int} {i : Bs} {t : Tr} (ih : ∀ s t, sp n s = some t → ∃ e, G s e ∧ t = e.tr) (h : spPair k (sp n) i = some t) : ∃ a b x y, i = a ++ [44] ++ b ∧ G a x ∧ G b y ∧ t = .two k ⟨#[]⟩ x.tr y.tr := by
  unfold spPair at h
  split at h
  · cases h
  · rename_i c hc
    split at h
    · rename_i a b ha hb
      obtain ⟨x, gx, rfl⟩ := ih _ _ ha
      obtain ⟨y, gy, rfl⟩ := ih _ _ hb
      exact ⟨_, _, x, y, (cut_at hc).1, gx, gy, (Option.some.inj h).symm⟩
    · cases h
theorem spIn_sound {n : Nat} {k : Int} {i : Bs} {t : Tr} (ih : ∀ s t, sp n s = some t → ∃ e, G s e ∧ t = e.tr) (h : spIn k (sp n) i = some t) : ∃ a b x y, i = a ++ [44] ++ b ++ [41] ∧ G a x ∧ G b y ∧ t = .two k ⟨#[]⟩ x.tr y.tr := by
  unfold spIn at h
  split at h
  · rename_i hl
    obtain ⟨a, b, x, y, h1, h2, h3, h4⟩ := spPair_sound ih h
    refine ⟨a, b, x, y, ?_, h2, h3, h4⟩
    rw [← h1]
    have hne : i ≠ [] := by intro e; rw [e] at hl; simp at hl
    have := List.dropLast_concat_getLast hne
    rw [List.getLast?_eq_some_getLast hne] at hl
    rw [Option.some.inj hl] at this
    exact this.symm
  · cases h
theorem sp_sound : ∀ (n : Nat) (s : Bs) (t : Tr), sp n s = some t → ∃ e, G s e ∧ t = e.tr := by
  intro n
  induction n with
  | zero => intro s t h; simp [sp] at h
  | succ n ih =>
    intro s t h
    simp only [sp] at h
    split at h
    · rename_i p hp
      split at h
      · rename_i hd
        cases hs : sp n (s.take p) with
        | none => rw [hs] at h; cases h
        | some u =>
          rw [hs] at h
          obtain ⟨x, gx, rfl⟩ := ih _ _ hs
          refine ⟨.plus x _, ?_, (Option.some.inj h).symm⟩
          have := G.plus (s.take p) (s.drop (p + 1)) x gx hd
          rwa [← (cut_at hp).1] at this
      · cases h
    · split at h
      · rename_i hd
        exact ⟨.num _, G.num s hd, (Option.some.inj h).symm⟩
      · split at h
        · rename_i h4
          obtain ⟨a, b, x, y, h1, h2, h3, h5⟩ := spIn_sound ih h
          refine ⟨.max x y, ?_, h5⟩
          have := G.max a b x y h2 h3
          rw [show [109, 97, 120, 40] ++ a ++ [44] ++ b ++ [41] = s by rw [← List.take_append_drop 4 s, h4, h1]; simp] at this
          exact this
        · split at h
          · rename_i h5
            obtain ⟨a, b, x, y, h1, h2, h3, h6⟩ := spIn_sound ih h
            refine ⟨.imax x y, ?_, h6⟩
            have := G.imax a b x y h2 h3
            rw [show [105, 109, 97, 120, 40] ++ a ++ [44] ++ b ++ [41] = s by rw [← List.take_append_drop 5 s, h5, h1]; simp] at this
            exact this
          · split at h
            · rename_i hn
              exact ⟨.name s, G.name s hn, (Option.some.inj h).symm⟩
            · cases h
theorem name_head {s : Bs} (h : okName s = true) : okNum s = false := by
  cases s with
  | nil => rfl
  | cons c s =>
    unfold okName paramB shortB at h
    simp only [Bool.and_eq_true] at h
    have hh : letB (c.toNat : Int) = true := h.1.1.1.2
    unfold okNum
    rw [Bool.and_eq_false_iff]
    right
    rw [List.all_eq_false]
    refine ⟨c, by simp, ?_⟩
    unfold digU
    unfold letB at hh
    simp only [Bool.or_eq_true, Bool.and_eq_true, decide_eq_true_eq] at hh
    simp only [Bool.and_eq_true, decide_eq_true_eq]
    omega
theorem spIn_complete {n : Nat} {k : Int} {a b : Bs} {x y : Lx} (ga : G a x) (gb : G b y) (ha : sp n a = some x.tr) (hb : sp n b = some y.tr) : spIn k (sp n) (a ++ [44] ++ b ++ [41]) = some (.two k ⟨#[]⟩ x.tr y.tr) := by
  unfold spIn
  rw [if_pos (by rw [List.getLast?_concat]), List.dropLast_concat]
  unfold spPair
  have hl : lastO 44 0 0 (a ++ [44] ++ b) = some a.length := by
    simp only [lastO_append, ga.closed.1, net_append, net]
    rw [show ((0 : Int) + (0 + ((if (44 : UInt8) = 40 then 1 else if (44 : UInt8) = 41 then -1 else 0) + 0))) = 0 by simp, gb.comma]
    simp [lastO]
  rw [hl]
  have h1 : (a ++ [44] ++ b).take a.length = a := by simp
  have h2 : (a ++ [44] ++ b).drop (a.length + 1) = b := by
    rw [show a.length + 1 = (a ++ [44]).length by simp, List.drop_left]
  simp only [h1, h2, ha, hb]
theorem sp_complete {s : Bs} {e : Lx} (h : G s e) : ∀ n, s.length < n → sp n s = some e.tr := by
  induction h with
  | num d h =>
    intro n hn
    obtain ⟨n, rfl⟩ : ∃ m, n = m + 1 := ⟨n - 1, by omega⟩
    simp only [sp, lastO_none (fun y hy => (dig_not h y hy).2.2.1)]
    rw [if_pos h]; rfl
  | name s h =>
    intro n hn
    obtain ⟨n, rfl⟩ : ∃ m, n = m + 1 := ⟨n - 1, by omega⟩
    simp only [sp, lastO_none (fun y hy => (name_not h y hy).2.2.1)]
    have h4 : ¬ s.take 4 = [109, 97, 120, 40] := fun e => (name_not h 40 (List.mem_of_mem_take (i := 4) (by rw [e]; simp))).1 rfl
    have h5 : ¬ s.take 5 = [105, 109, 97, 120, 40] := fun e => (name_not h 40 (List.mem_of_mem_take (i := 5) (by rw [e]; simp))).1 rfl
    rw [if_neg (by rw [name_head h]; simp), if_neg h4, if_neg h5, if_pos h]; rfl
  | max a b x y ha hb iha ihb =>
    intro n hn
    obtain ⟨n, rfl⟩ : ∃ m, n = m + 1 := ⟨n - 1, by omega⟩
    simp only [List.length_append, List.length_cons, List.length_nil] at hn
    have hl : lastO 43 0 0 ([109, 97, 120, 40] ++ a ++ [44] ++ b ++ [41]) = none := by
      simp only [lastO_append, ha.closed.1, hb.closed.1, net, net_append]
      rw [ha.closed.2 43 (.inl rfl) _ _ (by simp), hb.closed.2 43 (.inl rfl) _ _ (by simp)]
      simp [lastO]
    simp only [sp, hl]
    rw [if_neg (by simp [okNum, digU]), if_pos (by simp)]
    rw [show ([109, 97, 120, 40] ++ a ++ [44] ++ b ++ [41] : Bs).drop 4 = a ++ [44] ++ b ++ [41] by simp]
    exact spIn_complete ha hb (iha n (by omega)) (ihb n (by omega))
  | imax a b x y ha hb iha ihb =>
    intro n hn
    obtain ⟨n, rfl⟩ : ∃ m, n = m + 1 := ⟨n - 1, by omega⟩
    simp only [List.length_append, List.length_cons, List.length_nil] at hn
    have hl : lastO 43 0 0 ([105, 109, 97, 120, 40] ++ a ++ [44] ++ b ++ [41]) = none := by
      simp only [lastO_append, ha.closed.1, hb.closed.1, net, net_append]
      rw [ha.closed.2 43 (.inl rfl) _ _ (by simp), hb.closed.2 43 (.inl rfl) _ _ (by simp)]
      simp [lastO]
    simp only [sp, hl]
    rw [if_neg (by simp [okNum, digU]), if_neg (by simp), if_pos (by simp)]
    rw [show ([105, 109, 97, 120, 40] ++ a ++ [44] ++ b ++ [41] : Bs).drop 5 = a ++ [44] ++ b ++ [41] by simp]
    exact spIn_complete ha hb (iha n (by omega)) (ihb n (by omega))
  | plus a d x ha h iha =>
    intro n hn
    obtain ⟨n, rfl⟩ : ∃ m, n = m + 1 := ⟨n - 1, by omega⟩
    simp only [List.length_append, List.length_cons, List.length_nil] at hn
    have hl : lastO 43 0 0 (a ++ [43] ++ d) = some a.length := by
      simp only [lastO_append, ha.closed.1, net, net_append]
      rw [lastO_none (fun y hy => (dig_not h y hy).2.2.1)]
      simp [lastO]
    have h2 : (a ++ [43] ++ d).drop (a.length + 1) = d := by
      rw [show a.length + 1 = (a ++ [43]).length by simp, List.drop_left]
    have h1 : (a ++ [43] ++ d).take a.length = a := by simp
    simp only [sp, hl, h1, h2]
    rw [if_pos h, iha n (by omega)]; rfl
end Go.Proofs.YtgomimhelgjddaaGreat

/- Plain facts for ParseLevel: the program's reader takes just the texts of the grammar, and what both readers make of a text has the same size or is too great. No program is named here. -/
namespace Go.Proofs.YtgomimhelgjddaaGreat

def sA0 (n : Nat) (x : It) : It := if n = 0 then x else sAroundN n x
def Lx.it : Lx → It
  | .num n => sA0 n .zero
  | .name s => .param ⟨s.toArray⟩
  | .max a b => .max a.it b.it
  | .imax a b => .imax a.it b.it
  | .plus a n => sA0 n a.it
def pPlus : Nat → It → Bs → Option (It × Bs)
  | 0, _, _ => none
  | _ + 1, x, [] => some (x, [])
  | m + 1, x, c :: r => if c = 43 then (if okNum (r.takeWhile digU) then pPlus m (sA0 (numU (r.takeWhile digU)) x) (r.dropWhile digU) else none) else some (x, c :: r)
def pPair (rd : Bs → Option (It × Bs)) : Bs → Option (It × It × Bs)
  | [] => none
  | c :: r => if c = 40 then match rd r with
      | some (a, c2 :: r2) => if c2 = 44 then match rd r2 with
          | some (b, c3 :: r3) => if c3 = 41 then some (a, b, r3) else none
          | _ => none
        else none
      | _ => none
    else none
def pB (rd : Bs → Option (It × Bs)) (s : Bs) : Option (It × Bs) :=
  if s.takeWhile digU ≠ [] then (if okNum (s.takeWhile digU) then some (sA0 (numU (s.takeWhile digU)) .zero, s.dropWhile digU) else none)
  else if s.takeWhile goesU = [109, 97, 120] then (pPair rd (s.dropWhile goesU)).map fun q => (.max q.1 q.2.1, q.2.2)
  else if s.takeWhile goesU = [105, 109, 97, 120] then (pPair rd (s.dropWhile goesU)).map fun q => (.imax q.1 q.2.1, q.2.2)
  else if shortB ⟨(s.takeWhile goesU).toArray⟩ then some (.param ⟨(s.takeWhile goesU).toArray⟩, s.dropWhile goesU) else none
def pR : Nat → Bs → Option (It × Bs)
  | 0, _ => none
  | n + 1, s => match pB (pR n) s with
    | none => none
    | some (x, r) => pPlus (r.length + 1) x r

theorem pPlus_sound : ∀ (m : Nat) (x y : It) (s r p : Bs) (e : Lx), pPlus m x s = some (y, r) → G p e → x = e.it → ∃ e' q, s = q ++ r ∧ G (p ++ q) e' ∧ y = e'.it := by
  intro m
  induction m with
  | zero => intro x y s r p e h; simp [pPlus] at h
  | succ m ih =>
    intro x y s r p e h hg hx
    cases s with
    | nil =>
      simp only [pPlus, Option.some.injEq, Prod.mk.injEq] at h
      exact ⟨e, [], by simp [h.2.symm], by simpa using hg, by rw [← h.1, hx]⟩
    | cons c s =>
      simp only [pPlus] at h
      split at h
      · rename_i hc
        split at h
        · rename_i hd
          obtain ⟨e', q, h1, h2, h3⟩ := ih _ y _ r (p ++ [43] ++ s.takeWhile digU) (.plus e (numU (s.takeWhile digU))) h (G.plus p _ e hg hd) (by rw [hx]; rfl)
          refine ⟨e', [43] ++ s.takeWhile digU ++ q, ?_, by simpa using h2, h3⟩
          rw [hc]
          conv => lhs; rw [← List.takeWhile_append_dropWhile (p := digU) (l := s), h1]
          simp
        · cases h
      · simp only [Option.some.injEq, Prod.mk.injEq] at h
        exact ⟨e, [], by simp [h.2.symm], by simpa using hg, by rw [← h.1, hx]⟩
theorem pPair_sound {rd : Bs → Option (It × Bs)} {s : Bs} {a b : It} {r : Bs} (ih : ∀ s x r, rd s = some (x, r) → ∃ e p, s = p ++ r ∧ G p e ∧ x = e.it) (h : pPair rd s = some (a, b, r)) : ∃ p q x y, s = [40] ++ p ++ [44] ++ q ++ [41] ++ r ∧ G p x ∧ G q y ∧ a = x.it ∧ b = y.it := by
  cases s with
  | nil => simp [pPair] at h
  | cons c s =>
    simp only [pPair] at h
    split at h
    · rename_i hc
      split at h
      · rename_i a' c2 r2 ha
        split at h
        · rename_i hc2
          split at h
          · rename_i b' c3 r3 hb
            split at h
            · rename_i hc3
              simp only [Option.some.injEq, Prod.mk.injEq] at h
              obtain ⟨rfl, rfl, rfl⟩ := h
              obtain ⟨x, p, h1, h2, h3⟩ := ih _ _ _ ha
              obtain ⟨y, q, h4, h5, h6⟩ := ih _ _ _ hb
              exact ⟨p, q, x, y, by rw [hc, h1, hc2, h4, hc3]; simp, h2, h5, h3, h6⟩
            · cases h
          · cases h
        · cases h
      · cases h
    · cases h
theorem tl_mk (l : Bs) : (⟨l.toArray⟩ : ByteArray).toList = l := by rw [ByteArray.toList_eq]
theorem pR_sound : ∀ (n : Nat) (s : Bs) (x : It) (r : Bs), pR n s = some (x, r) → ∃ e p, s = p ++ r ∧ G p e ∧ x = e.it := by
  intro n
  induction n with
  | zero => intro s x r h; simp [pR] at h
  | succ n ih =>
    intro s x r h
    simp only [pR] at h
    split at h
    · cases h
    · rename_i y r1 hb
      have key : ∃ e p, s = p ++ r1 ∧ G p e ∧ y = e.it := by
        unfold pB at hb
        split at hb
        · split at hb
          · rename_i hd
            simp only [Option.some.injEq, Prod.mk.injEq] at hb
            exact ⟨.num _, _, by rw [← hb.2, List.takeWhile_append_dropWhile], G.num _ hd, hb.1.symm⟩
          · cases hb
        · split at hb
          · rename_i hm
            cases hp : pPair (pR n) (s.dropWhile goesU) with
            | none => rw [hp] at hb; cases hb
            | some q =>
              obtain ⟨a, b, r2⟩ := q
              rw [hp] at hb
              simp only [Option.map_some, Option.some.injEq, Prod.mk.injEq] at hb
              obtain ⟨p, q, u, v, h1, h2, h3, h4, h5⟩ := pPair_sound ih hp
              refine ⟨.max u v, _, ?_, G.max p q u v h2 h3, by rw [← hb.1, h4, h5]; rfl⟩
              rw [← hb.2]
              conv => lhs; rw [← List.takeWhile_append_dropWhile (p := goesU) (l := s), hm, h1]
              simp
          · split at hb
            · rename_i hm
              cases hp : pPair (pR n) (s.dropWhile goesU) with
              | none => rw [hp] at hb; cases hb
              | some q =>
                obtain ⟨a, b, r2⟩ := q
                rw [hp] at hb
                simp only [Option.map_some, Option.some.injEq, Prod.mk.injEq] at hb
                obtain ⟨p, q, u, v, h1, h2, h3, h4, h5⟩ := pPair_sound ih hp
                refine ⟨.imax u v, _, ?_, G.imax p q u v h2 h3, by rw [← hb.1, h4, h5]; rfl⟩
                rw [← hb.2]
                conv => lhs; rw [← List.takeWhile_append_dropWhile (p := goesU) (l := s), hm, h1]
                simp
            · rename_i hm hi
              split at hb
              · rename_i hs
                simp only [Option.some.injEq, Prod.mk.injEq] at hb
                refine ⟨.name (s.takeWhile goesU), _, by rw [← hb.2, List.takeWhile_append_dropWhile], G.name _ ?_, hb.1.symm⟩
                unfold okName paramB
                rw [hs, tl_mk]
                simp [hm, hi]
              · cases hb
      obtain ⟨e, p, h1, h2, h3⟩ := key
      obtain ⟨e', q, h4, h5, h6⟩ := pPlus_sound _ _ _ _ _ p e h h2 h3
      exact ⟨e', p ++ q, by rw [h1, h4]; simp, h5, h6⟩
end Go.Proofs.YtgomimhelgjddaaGreat

/- Plain facts for ParseLevel: the program's reader takes every text of the grammar; what both readers make of it is the same level or too great for both. No program is named here. -/
namespace Go.Proofs.YtgomimhelgjddaaGreat

/-- What a part of a text may be followed by. -/
def stopD : Bs → Prop
  | [] => True
  | c :: _ => digU c = false ∧ goesU c = false
theorem tw_stop {p : UInt8 → Bool} {a r : Bs} (h : a.all p = true) (hr : ∀ c s, r = c :: s → p c = false) : (a ++ r).takeWhile p = a ∧ (a ++ r).dropWhile p = r := by
  induction a with
  | nil =>
    cases r with
    | nil => simp
    | cons c s => have := hr c s rfl; simp [this]
  | cons x a ih =>
    simp only [List.all_cons, Bool.and_eq_true] at h
    have := ih h.2
    simp [h.1, this]
theorem stop_dig {r : Bs} (h : stopD r) : ∀ c s, r = c :: s → digU c = false := fun c s e => by subst e; exact h.1
theorem stop_goes {r : Bs} (h : stopD r) : ∀ c s, r = c :: s → goesU c = false := fun c s e => by subst e; exact h.2
theorem pPlus_fuel : ∀ (m m' : Nat) (x : It) (s : Bs), s.length < m → s.length < m' → pPlus m x s = pPlus m' x s := by
  intro m
  induction m with
  | zero => intro m' x s h; omega
  | succ m ih =>
    intro m' x s h h'
    obtain ⟨m', rfl⟩ : ∃ k, m' = k + 1 := ⟨m' - 1, by omega⟩
    cases s with
    | nil => rfl
    | cons c s =>
      simp only [pPlus]
      have hl : (s.dropWhile digU).length ≤ s.length := (List.dropWhile_sublist digU).length_le
      simp only [List.length_cons] at h h'
      rw [ih m' _ _ (by omega) (by omega)]
theorem pPlus_stop (m : Nat) (x : It) (c : UInt8) (r : Bs) (h : c ≠ 43) : pPlus (m + 1) x (c :: r) = some (x, c :: r) := by
  simp [pPlus, h]
theorem okNum_all {d : Bs} (h : okNum d = true) : d.all digU = true ∧ d ≠ [] := by
  unfold okNum at h
  simp only [Bool.and_eq_true, decide_eq_true_eq] at h
  exact ⟨h.2, fun e => by rw [e] at h; simp at h⟩
theorem name_all {s : Bs} (h : okName s = true) : s.all goesU = true ∧ shortB ⟨s.toArray⟩ = true ∧ s ≠ [109, 97, 120] ∧ s ≠ [105, 109, 97, 120] ∧ ∃ c r, s = c :: r ∧ digU c = false := by
  have h' := h
  unfold okName paramB at h'
  rw [tl_mk] at h'
  simp only [Bool.and_eq_true, Bool.not_eq_true', beq_eq_false_iff_ne] at h'
  have hs := h'.1.1
  unfold shortB at hs
  simp only [Bool.and_eq_true] at hs
  refine ⟨hs.2, h'.1.1, h'.1.2, h'.2, ?_⟩
  have hh := name_head h
  cases s with
  | nil => exact absurd hs.1.2 (by simp [headOk])
  | cons c r =>
    refine ⟨c, r, rfl, ?_⟩
    have hl : letB (c.toNat : Int) = true := hs.1.2
    unfold digU
    unfold letB at hl
    simp only [Bool.or_eq_true, Bool.and_eq_true, decide_eq_true_eq] at hl
    rw [Bool.and_eq_false_iff]
    simp only [decide_eq_false_iff_not]
    omega
theorem pPair_complete {n : Nat} {a b r : Bs} {x y : Lx} (ha : ∀ r, stopD r → pR n (a ++ r) = pPlus (r.length + 1) x.it r) (hb : ∀ r, stopD r → pR n (b ++ r) = pPlus (r.length + 1) y.it r) : pPair (pR n) ([40] ++ a ++ [44] ++ b ++ [41] ++ r) = some (x.it, y.it, r) := by
  have e1 : pR n (a ++ ([44] ++ b ++ [41] ++ r)) = some (x.it, 44 :: (b ++ [41] ++ r)) := by
    rw [ha _ (by simp [stopD]; decide)]
    simp only [List.cons_append, List.nil_append]
    rw [pPlus_stop _ _ _ _ (by decide)]
  have e2 : pR n (b ++ ([41] ++ r)) = some (y.it, 41 :: r) := by
    rw [hb _ (by simp [stopD]; decide)]
    simp only [List.cons_append, List.nil_append]
    rw [pPlus_stop _ _ _ _ (by decide)]
  rw [show [40] ++ a ++ [44] ++ b ++ [41] ++ r = 40 :: (a ++ ([44] ++ b ++ [41] ++ r)) by simp]
  simp only [pPair, if_true, e1]
  rw [show b ++ [41] ++ r = b ++ ([41] ++ r) by simp, e2]
  simp
theorem pR_complete {p : Bs} {e : Lx} (h : G p e) : ∀ (n : Nat) (r : Bs), p.length < n → stopD r → pR n (p ++ r) = pPlus (r.length + 1) e.it r := by
  induction h with
  | num d h =>
    intro n r hn hr
    obtain ⟨n, rfl⟩ : ∃ m, n = m + 1 := ⟨n - 1, by omega⟩
    obtain ⟨h1, h2⟩ := okNum_all h
    obtain ⟨t1, t2⟩ := tw_stop h1 (stop_dig hr)
    simp only [pR, pB, t1, t2]
    rw [if_pos h2, if_pos h]; rfl
  | name s h =>
    intro n r hn hr
    obtain ⟨n, rfl⟩ : ∃ m, n = m + 1 := ⟨n - 1, by omega⟩
    obtain ⟨h1, h2, h3, h4, c, q, h5, h6⟩ := name_all h
    obtain ⟨t1, t2⟩ := tw_stop h1 (stop_goes hr)
    have t3 : (s ++ r).takeWhile digU = [] := by rw [h5]; simp [h6]
    simp only [pR, pB, t1, t2, t3]
    rw [if_neg (by simp), if_neg h3, if_neg h4, if_pos h2]; rfl
  | max a b x y ha hb iha ihb =>
    intro n r hn hr
    obtain ⟨n, rfl⟩ : ∃ m, n = m + 1 := ⟨n - 1, by omega⟩
    simp only [List.length_append, List.length_cons, List.length_nil] at hn
    have hp := pPair_complete (n := n) (r := r) (fun r hr => iha n r (by omega) hr) (fun r hr => ihb n r (by omega) hr)
    have ht := tw_stop (p := goesU) (a := [109, 97, 120]) (r := [40] ++ a ++ [44] ++ b ++ [41] ++ r) (by decide) (fun c s e => by simp at e; rw [← e.1]; decide)
    have hd : ([109, 97, 120] ++ ([40] ++ a ++ [44] ++ b ++ [41] ++ r)).takeWhile digU = [] := by simp [digU]
    rw [show [109, 97, 120, 40] ++ a ++ [44] ++ b ++ [41] ++ r = [109, 97, 120] ++ ([40] ++ a ++ [44] ++ b ++ [41] ++ r) by simp]
    simp only [pR, pB, ht.1, ht.2, hd, hp]
    simp; rfl
  | imax a b x y ha hb iha ihb =>
    intro n r hn hr
    obtain ⟨n, rfl⟩ : ∃ m, n = m + 1 := ⟨n - 1, by omega⟩
    simp only [List.length_append, List.length_cons, List.length_nil] at hn
    have hp := pPair_complete (n := n) (r := r) (fun r hr => iha n r (by omega) hr) (fun r hr => ihb n r (by omega) hr)
    have ht := tw_stop (p := goesU) (a := [105, 109, 97, 120]) (r := [40] ++ a ++ [44] ++ b ++ [41] ++ r) (by decide) (fun c s e => by simp at e; rw [← e.1]; decide)
    have hd : ([105, 109, 97, 120] ++ ([40] ++ a ++ [44] ++ b ++ [41] ++ r)).takeWhile digU = [] := by simp [digU]
    rw [show [105, 109, 97, 120, 40] ++ a ++ [44] ++ b ++ [41] ++ r = [105, 109, 97, 120] ++ ([40] ++ a ++ [44] ++ b ++ [41] ++ r) by simp]
    simp only [pR, pB, ht.1, ht.2, hd, hp]
    simp; rfl
  | plus a d x ha h iha =>
    intro n r hn hr
    simp only [List.length_append, List.length_cons, List.length_nil] at hn
    obtain ⟨h1, h2⟩ := okNum_all h
    obtain ⟨t1, t2⟩ := tw_stop h1 (stop_dig hr)
    rw [show a ++ [43] ++ d ++ r = a ++ (43 :: (d ++ r)) by simp, iha n _ (by omega) (by simp [stopD]; decide)]
    simp only [pPlus, if_true, t1, t2]
    rw [if_pos h]
    exact pPlus_fuel _ _ _ _ (by simp; omega) (by omega)

/-- The tree with all that stands around. -/
def Lx.full : Lx → Tr
  | .num n => tsucc n zeroT
  | .name s => nameT s
  | .max a b => .two 3 ⟨#[]⟩ a.full b.full
  | .imax a b => .two 4 ⟨#[]⟩ a.full b.full
  | .plus a n => tsucc n a.full
theorem tsucc_it (n : Nat) (t : Tr) : (tsucc n t).it = sA0 n t.it := by
  induction n with
  | zero => rfl
  | succ n ih =>
    simp only [tsucc, Tr.it, ih, sA0]
    by_cases h : n = 0
    · subst h; simp only [if_true]; cases t.it <;> simp [sAround, sAroundN]
    · rw [if_neg h, if_neg (by omega), around_aroundN]
theorem full_it : ∀ e : Lx, e.full.it = e.it
  | .num n => by simp [Lx.full, Lx.it, tsucc_it, zeroT, Tr.it]
  | .name s => by simp [Lx.full, Lx.it, nameT, Tr.it]
  | .max a b => by simp [Lx.full, Lx.it, Tr.it, full_it a, full_it b]
  | .imax a b => by simp [Lx.full, Lx.it, Tr.it, full_it a, full_it b]
  | .plus a n => by simp [Lx.full, Lx.it, tsucc_it, full_it a]
theorem tsucc_cnt (n : Nat) (t : Tr) : (tsucc n t).cnt = n + t.cnt := by
  induction n with
  | zero => simp [tsucc]
  | succ n ih => simp only [tsucc, Tr.cnt, ih]; omega
theorem tsucc_ok {t : Tr} (h : t.ok) : ∀ n, (tsucc n t).ok
  | 0 => h
  | n + 1 => ⟨rfl, fields_empty (by omega), tsucc_ok h n⟩
theorem zeroT_ok : zeroT.ok := ⟨.inl rfl, fields_empty (by omega)⟩
theorem full_ok {s : Bs} {e : Lx} (h : G s e) : e.full.ok ∧ e.tr.ok := by
  induction h with
  | num d h => exact ⟨tsucc_ok zeroT_ok _, tsucc_ok zeroT_ok _⟩
  | name s h =>
    have : (nameT s).ok := ⟨.inr rfl, by show fieldsB ⟨5, ⟨s.toArray⟩, []⟩ = true; unfold fieldsB; rw [if_pos rfl]; exact h⟩
    exact ⟨this, this⟩
  | max a b x y _ _ iha ihb => exact ⟨⟨.inl rfl, fields_empty (by omega), iha.1, ihb.1⟩, ⟨.inl rfl, fields_empty (by omega), iha.2, ihb.2⟩⟩
  | imax a b x y _ _ iha ihb => exact ⟨⟨.inr rfl, fields_empty (by omega), iha.1, ihb.1⟩, ⟨.inr rfl, fields_empty (by omega), iha.2, ihb.2⟩⟩
  | plus a d x _ _ iha => exact ⟨tsucc_ok iha.1 _, tsucc_ok iha.2 _⟩
theorem full_tr : ∀ e : Lx, e.tr.cnt ≤ e.full.cnt ∧ (e.tr.cnt ≤ 64 → e.full = e.tr)
  | .num n => by
    refine ⟨by simp only [Lx.tr, Lx.full, manyT, tsucc_cnt]; omega, fun h => ?_⟩
    simp only [Lx.tr, Lx.full, manyT, tsucc_cnt] at h ⊢
    rw [show min n 65 = n by omega]
  | .name s => ⟨Nat.le_refl _, fun _ => rfl⟩
  | .max a b => by
    have ha := full_tr a; have hb := full_tr b
    refine ⟨by simp only [Lx.tr, Lx.full, Tr.cnt]; omega, fun h => ?_⟩
    simp only [Lx.tr, Lx.full, Tr.cnt] at h ⊢
    rw [ha.2 (by omega), hb.2 (by omega)]
  | .imax a b => by
    have ha := full_tr a; have hb := full_tr b
    refine ⟨by simp only [Lx.tr, Lx.full, Tr.cnt]; omega, fun h => ?_⟩
    simp only [Lx.tr, Lx.full, Tr.cnt] at h ⊢
    rw [ha.2 (by omega), hb.2 (by omega)]
  | .plus a n => by
    have ha := full_tr a
    refine ⟨by simp only [Lx.tr, Lx.full, manyT, tsucc_cnt]; omega, fun h => ?_⟩
    simp only [Lx.tr, Lx.full, manyT, tsucc_cnt] at h ⊢
    rw [ha.2 (by omega), show min n 65 = n by omega]
theorem num_le {d : Bs} (h : okNum d = true) : numU d ≤ 9999 := by
  unfold okNum at h
  simp only [Bool.and_eq_true, decide_eq_true_eq, List.all_eq_true] at h
  obtain ⟨⟨h1, h2⟩, h3⟩ := h
  have hd : ∀ c ∈ d, c.toNat - 48 ≤ 9 := fun c hc => by
    have := h3 c hc
    unfold digU at this
    simp only [Bool.and_eq_true, decide_eq_true_eq] at this
    omega
  match d, h2, hd with
  | [], _, _ => simp [numU]
  | [a], _, hd => have := hd a (by simp); simp [numU]; omega
  | [a, b], _, hd => have := hd a (by simp); have := hd b (by simp); simp [numU]; omega
  | [a, b, c], _, hd => have := hd a (by simp); have := hd b (by simp); have := hd c (by simp); simp [numU]; omega
  | [a, b, c, e], _, hd => have := hd a (by simp); have := hd b (by simp); have := hd c (by simp); have := hd e (by simp); simp [numU]; omega
/-- How great a tree a text may ask for. -/
theorem full_cnt {s : Bs} {e : Lx} (h : G s e) : e.full.cnt ≤ 10000 * s.length ∧ 1 ≤ s.length := by
  induction h with
  | num d h =>
    have := num_le h
    have h2 := (okNum_all h).2
    have : 1 ≤ d.length := by cases d with | nil => exact absurd rfl h2 | cons c r => simp
    refine ⟨?_, this⟩
    simp only [Lx.full, tsucc_cnt, zeroT, Tr.cnt]; omega
  | name s h =>
    obtain ⟨_, _, _, _, c, r, h5, _⟩ := name_all h
    refine ⟨?_, by rw [h5]; simp⟩
    rw [h5]; simp only [Lx.full, nameT, Tr.cnt, List.length_cons]; omega
  | max a b x y _ _ iha ihb => simp only [Lx.full, Tr.cnt, List.length_append, List.length_cons, List.length_nil]; omega
  | imax a b x y _ _ iha ihb => simp only [Lx.full, Tr.cnt, List.length_append, List.length_cons, List.length_nil]; omega
  | plus a d x _ h iha =>
    have := num_le h
    simp only [Lx.full, tsucc_cnt, List.length_append, List.length_cons, List.length_nil]; omega
end Go.Proofs.YtgomimhelgjddaaGreat

/- Plain facts: the text of a level's tree is one of the grammar's and says that tree. No program is named here. -/
namespace Go.Proofs.YtgomimhelgjddaaGreat

theorem u8_of {n : Nat} (h : n < 256) : (UInt8.ofNat n).toNat = n := by simp; omega
theorem dec_num {n : Nat} (h : n < 100) : okNum (Lib.decDigits n) = true ∧ numU (Lib.decDigits n) = n := by
  by_cases h0 : n < 10
  · rw [Lib.decDigits_one h0]
    have h1 := u8_of (n := 48 + n) (by omega)
    refine ⟨?_, ?_⟩
    · simp only [okNum, List.length_singleton, List.all_cons, List.all_nil, digU, h1, Bool.and_true, Bool.and_eq_true, decide_eq_true_eq]; omega
    · simp only [numU, List.foldl_cons, List.foldl_nil, h1]; omega
  · rw [Lib.decDigits_two h0 h]
    have h1 := u8_of (n := 48 + n / 10) (by omega)
    have h2 := u8_of (n := 48 + n % 10) (by omega)
    refine ⟨?_, ?_⟩
    · simp only [okNum, List.length_cons, List.length_nil, List.all_cons, List.all_nil, digU, h1, h2, Bool.and_true, Bool.and_eq_true, decide_eq_true_eq]; omega
    · simp only [numU, List.foldl_cons, List.foldl_nil, h1, h2]; omega
/-- No successor around a row of successors. -/
def It.norm : It → Prop
  | .zero => True
  | .succ n x => 1 ≤ n ∧ x.isSucc = false ∧ x.norm
  | .max a b => a.norm ∧ b.norm
  | .imax a b => a.norm ∧ b.norm
  | .param _ => True
theorem norm_around {x : It} (h : x.norm) : (sAround x).norm := by
  cases x with
  | succ n y => exact ⟨by omega, h.2⟩
  | zero => exact ⟨Nat.le_refl _, rfl, h⟩
  | max a b => exact ⟨Nat.le_refl _, rfl, h⟩
  | imax a b => exact ⟨Nat.le_refl _, rfl, h⟩
  | param s => exact ⟨Nat.le_refl _, rfl, h⟩
theorem it_norm : ∀ t : Tr, t.it.norm
  | .leaf k s => by simp only [Tr.it]; split <;> trivial
  | .one _ _ a => norm_around (it_norm a)
  | .two k _ a b => by simp only [Tr.it]; split <;> exact ⟨it_norm a, it_norm b⟩
/-- What a tree's text says. -/
def It.lx : It → Lx
  | .zero => .num 0
  | .succ n x => if x.isZero then .num n else .plus x.lx n
  | .max a b => .max a.lx b.lx
  | .imax a b => .imax a.lx b.lx
  | .param s => .name s.data.toList
theorem sA0_plain {n : Nat} {x : It} (hn : 1 ≤ n) (h : x.isSucc = false) : sA0 n x = .succ n x := by
  unfold sA0
  rw [if_neg (by omega)]
  cases x with
  | succ _ _ => cases h
  | zero => rfl
  | max _ _ => rfl
  | imax _ _ => rfl
  | param _ => rfl
theorem ba_mk (s : ByteArray) : (⟨s.data.toList.toArray⟩ : ByteArray) = s := by cases s; simp
theorem lx_it : ∀ x : It, x.norm → x.lx.it = x
  | .zero, _ => rfl
  | .succ n x, h => by
    cases hz : x.isZero with
    | true =>
      cases x with
      | zero => exact sA0_plain h.1 rfl
      | succ _ _ => cases hz
      | max _ _ => cases hz
      | imax _ _ => cases hz
      | param _ => cases hz
    | false =>
      simp only [It.lx, hz]
      show sA0 n x.lx.it = _
      rw [lx_it x h.2.2, sA0_plain h.1 h.2.1]
  | .max a b, h => by simp only [It.lx, Lx.it, lx_it a h.1, lx_it b h.2]
  | .imax a b, h => by simp only [It.lx, Lx.it, lx_it a h.1, lx_it b h.2]
  | .param s, _ => by simp only [It.lx, Lx.it, ba_mk]
theorem ba_app (a b : ByteArray) : (a ++ b).data.toList = a.data.toList ++ b.data.toList := by simp
theorem lx_G : ∀ x : It, x.norm → x.cnt ≤ 64 → (∀ s ∈ x.params, paramB s = true) → G x.text.data.toList x.lx
  | .zero, _, _, _ => by
    have := G.num [48] (by decide)
    exact this
  | .succ n x, h, hc, hp => by
    simp only [It.cnt] at hc
    obtain ⟨d1, d2⟩ := dec_num (show n < 100 by omega)
    simp only [It.text, It.lx]
    split
    · have := G.num (Lib.decDigits n) d1
      rw [d2] at this
      have e : (dec n).data.toList = Lib.decDigits n := by unfold dec; simp
      rw [e]; exact this
    · have := G.plus x.text.data.toList (Lib.decDigits n) x.lx (lx_G x h.2.2 (by omega) hp) d1
      rw [d2] at this
      have e : (dec n).data.toList = Lib.decDigits n := by unfold dec; simp
      rw [ba_app, ba_app, e]
      exact this
  | .max a b, h, hc, hp => by
    simp only [It.cnt] at hc
    simp only [It.params] at hp
    have := G.max a.text.data.toList b.text.data.toList a.lx b.lx (lx_G a h.1 (by omega) (fun s hs => hp s (by simp [hs]))) (lx_G b h.2 (by omega) (fun s hs => hp s (by simp [hs])))
    simp only [It.text, It.lx, ba_app]
    exact this
  | .imax a b, h, hc, hp => by
    simp only [It.cnt] at hc
    simp only [It.params] at hp
    have := G.imax a.text.data.toList b.text.data.toList a.lx b.lx (lx_G a h.1 (by omega) (fun s hs => hp s (by simp [hs]))) (lx_G b h.2 (by omega) (fun s hs => hp s (by simp [hs])))
    simp only [It.text, It.lx, ba_app]
    exact this
  | .param s, _, _, hp => by
    have h := hp s (by simp [It.params])
    refine G.name s.data.toList ?_
    unfold okName
    rw [ba_mk]; exact h
theorem params_ok : ∀ t : Tr, t.ok → ∀ s ∈ t.it.params, paramB s = true
  | .leaf k s, h, x, hx => by
    obtain ⟨h1, h2⟩ := h
    rcases h1 with rfl | rfl
    · simp [Tr.it, It.params] at hx
    · simp only [Tr.it, It.params, if_neg (show ¬ (5 : Int) = 1 by omega), List.mem_singleton] at hx
      subst hx
      unfold fieldsB at h2
      rw [if_pos rfl] at h2
      exact h2
  | .one _ _ a, h, x, hx => by
    simp only [Tr.it, params_around] at hx
    exact params_ok a h.2.2 x hx
  | .two k _ a b, h, x, hx => by
    have : x ∈ a.it.params ++ b.it.params := by
      simp only [Tr.it] at hx
      split at hx <;> exact hx
    rcases List.mem_append.1 this with h1 | h1
    · exact params_ok a h.2.2.1 x h1
    · exact params_ok b h.2.2.2 x h1
theorem It.text_size2 : ∀ x : It, x.pos → x.cnt ≤ 64 → (∀ s ∈ x.params, s.size ≤ 40) → x.text.size ≤ 24 * x.cnt + 16
  | .zero, _, _, _ => by show 1 ≤ _; omega
  | .succ n x, hq, hc, hp => by
    simp only [It.cnt] at hc
    have hn := hq.1
    have hd := dec_size (show n < 100 by omega)
    have hx := It.text_size2 x hq.2 (by omega) hp
    simp only [It.text, It.cnt]
    split
    · omega
    · rw [ByteArray.size_append, ByteArray.size_append, show (⟨#[43]⟩ : ByteArray).size = 1 from rfl]; omega
  | .max a b, hq, hc, hp => by
    simp only [It.cnt] at hc
    simp only [It.params] at hp
    have ha := It.text_size2 a hq.1 (by omega) (fun s hs => hp s (by simp [hs]))
    have hb := It.text_size2 b hq.2 (by omega) (fun s hs => hp s (by simp [hs]))
    simp only [It.text, It.cnt, ByteArray.size_append, show (⟨#[44]⟩ : ByteArray).size = 1 from rfl, show (⟨#[41]⟩ : ByteArray).size = 1 from rfl, show (⟨#[109, 97, 120, 40]⟩ : ByteArray).size = 4 from rfl]
    omega
  | .imax a b, hq, hc, hp => by
    simp only [It.cnt] at hc
    simp only [It.params] at hp
    have ha := It.text_size2 a hq.1 (by omega) (fun s hs => hp s (by simp [hs]))
    have hb := It.text_size2 b hq.2 (by omega) (fun s hs => hp s (by simp [hs]))
    simp only [It.text, It.cnt, ByteArray.size_append, show (⟨#[44]⟩ : ByteArray).size = 1 from rfl, show (⟨#[41]⟩ : ByteArray).size = 1 from rfl, show (⟨#[105, 109, 97, 120, 40]⟩ : ByteArray).size = 5 from rfl]
    omega
  | .param s, _, _, hp => by
    have := hp s (by simp [It.params])
    simp only [It.text, It.cnt]; omega

/-- A sound tree is known by the program's tree of it. -/
theorem empty_s {k : Int} {s : ByteArray} {ks : List Int} (hk : k ≠ 5) (h : fieldsB ⟨k, s, ks⟩ = true) : s = ⟨#[]⟩ := by
  unfold fieldsB at h
  rw [if_neg hk] at h
  have h0 : s.toList = [] := by simpa using h
  rw [ByteArray.toList_eq] at h0
  cases s with
  | mk d => simp at h0; rw [h0]
theorem around_inj : ∀ {x y : It}, x.norm → y.norm → sAround x = sAround y → x = y := by
  intro x y hx hy h
  cases x <;> cases y <;> simp only [sAround, It.succ.injEq, reduceCtorEq, and_false, true_and] at h <;> first
    | rfl
    | (cases h; done)
    | (obtain ⟨h1, h2⟩ := h; first | (have := hx.1; omega) | (have := hy.1; omega) | (subst h2; congr 1; omega))
    | (rw [h])
    | (exact absurd h (by simp))
theorem it_inj : ∀ (t u : Tr), t.ok → u.ok → t.it = u.it → t = u := by
  intro t
  induction t with
  | leaf k s =>
    intro u ht hu h
    have hlt : ∀ k s, (Tr.leaf k s).ok → (Tr.leaf k s).it.isSucc = false := by
      intro k s h; rcases h.1 with rfl | rfl <;> rfl
    cases u with
    | leaf k' s' =>
      rcases ht.1 with rfl | rfl <;> rcases hu.1 with rfl | rfl
      · rw [empty_s (by decide) ht.2, empty_s (by decide) hu.2]
      · simp [Tr.it] at h
      · simp [Tr.it] at h
      · simp [Tr.it] at h; rw [h]
    | one k' s' a =>
      have h1 := hlt k s ht
      rw [h] at h1
      have : (sAround a.it).isSucc = true := by cases a.it <;> rfl
      simp only [Tr.it] at h1
      rw [this] at h1; cases h1
    | two k' s' a b =>
      rcases ht.1 with rfl | rfl <;> rcases hu.1 with rfl | rfl <;> simp [Tr.it] at h
  | one k s a ih =>
    intro u ht hu h
    have hs : (sAround a.it).isSucc = true := by cases a.it <;> rfl
    cases u with
    | leaf k' s' =>
      have h1 : (Tr.leaf k' s').it.isSucc = false := by rcases hu.1 with rfl | rfl <;> rfl
      rw [← h] at h1
      simp only [Tr.it] at h1
      rw [hs] at h1; cases h1
    | one k' s' b =>
      obtain ⟨rfl, f1, o1⟩ := ht
      obtain ⟨rfl, f2, o2⟩ := hu
      simp only [Tr.it] at h
      rw [ih b o1 o2 (around_inj (it_norm a) (it_norm b) h), empty_s (by decide) f1, empty_s (by decide) f2]
    | two k' s' b c =>
      have h1 : (Tr.two k' s' b c).it.isSucc = false := by rcases hu.1 with rfl | rfl <;> rfl
      rw [← h] at h1
      simp only [Tr.it] at h1
      rw [hs] at h1; cases h1
  | two k s a b iha ihb =>
    intro u ht hu h
    cases u with
    | leaf k' s' =>
      rcases ht.1 with rfl | rfl <;> rcases hu.1 with rfl | rfl <;> simp [Tr.it] at h
    | one k' s' c =>
      have h1 : (Tr.two k s a b).it.isSucc = false := by rcases ht.1 with rfl | rfl <;> rfl
      rw [h] at h1
      have : (sAround c.it).isSucc = true := by cases c.it <;> rfl
      simp only [Tr.it] at h1
      rw [this] at h1; cases h1
    | two k' s' c d =>
      obtain ⟨k1, f1, oa, ob⟩ := ht
      obtain ⟨k2, f2, oc, od⟩ := hu
      rcases k1 with rfl | rfl <;> rcases k2 with rfl | rfl
      · simp [Tr.it] at h
        rw [iha c oa oc h.1, ihb d ob od h.2, empty_s (by decide) f1, empty_s (by decide) f2]
      · simp [Tr.it] at h
      · simp [Tr.it] at h
      · simp [Tr.it] at h
        rw [iha c oa oc h.1, ihb d ob od h.2, empty_s (by decide) f1, empty_s (by decide) f2]
/-- The text of a sound tree of few nodes is read as that tree. -/
theorem text_reads (t : Tr) (h : t.ok) (hc : t.cnt ≤ 64) : sp (t.it.text.data.toList.length + 1) t.it.text.data.toList = some t ∧ t.it.text.size ≤ 3000 := by
  have hcn : t.it.cnt ≤ 64 := by rw [it_cnt t h]; exact hc
  have hG := lx_G t.it (it_norm t) hcn (params_ok t h)
  have hi := lx_it t.it (it_norm t)
  have hf : t.it.lx.full = t := it_inj _ _ (full_ok hG).1 h (by rw [full_it]; exact hi)
  obtain ⟨h1, h2⟩ := full_tr t.it.lx
  rw [hf] at h1 h2
  have ht : t.it.lx.tr = t := (h2 (by omega)).symm
  refine ⟨?_, ?_⟩
  · have := sp_complete hG (t.it.text.data.toList.length + 1) (by omega)
    rw [ht] at this; exact this
  · have := It.text_size2 t.it (it_pos t) hcn (params_short t h); omega
end Go.Proofs.YtgomimhelgjddaaGreat
