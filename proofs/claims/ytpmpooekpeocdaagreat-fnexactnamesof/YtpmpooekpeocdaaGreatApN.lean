/- What withKids answers: the node with other kids, or the one that is too great. -/
import Derived.Test.YtpmpooekpeocdaaGreatFoA
import Derived.Test.YtpmpooekpeocdaaGreatStH
import Derived.Test.YtpmpooekpeocdaaGreatStrs
import Derived.Test.YtpmpooekpeocdaaGreatTSamQ
import Derived.Test.YtpmpooekpeocdaaGreatJoin
import Derived.Deep.Upon
import Derived.Deep.Onto
namespace Go.Proofs.YtpmpooekpeocdaaGreat
open Go.ChangeShapes Go.WideShapes Go.ChangeAt Go.RowKit

/-- A block of another kind may change. -/
theorem St.other {base : Nat} {w w' : World} {Sb mb gb clock R e : Nat} {cs : Array Value} {f : Nat × Nat} {L : List (Nk × Nat × Nat)} {Z : Nat → Zs} {H : Nat → Bool} (hs : St base w Sb mb gb clock L Z H) (hR : w.heap[R]? = some (.cells cs e f)) (he : e ≠ 121) (he2 : e ≠ 141) (hg : w.grownBy w' (some R)) (hb : base ≤ R) (hbase : base ≤ w.heap.size) : St base w' Sb mb gb clock L Z H := by
  have hB : Below base w w' := (Below.refl base w).grown hg hbase (fun k hk => by have := Option.some.inj hk; omega)
  have hne : ∀ k (o : Obj), w.heap[k]? = some o → (∀ cs f, o ≠ Obj.cells cs e f) → w'.heap[k]? = w.heap[k]? := fun k o hk ho => hg.block k (Array.getElem?_eq_some_iff.1 hk).1 (fun e => by
    have e := Option.some.inj e
    rw [e, hR] at hk
    exact ho cs f (Option.some.inj hk).symm)
  have n1 : ∀ cs' f', (∀ cs f, Obj.cells cs' 121 f' ≠ Obj.cells cs e f) := fun cs' f' cs f h => by injection h with _ h1 _; exact he h1.symm
  have n2 : ∀ cs' f', (∀ cs f, Obj.cells cs' 141 f' ≠ Obj.cells cs e f) := fun cs' f' cs f h => by injection h with _ h1 _; exact he2 h1.symm
  refine ⟨?_, ?_, fun x hx => ?_, hs.lows, ?_, hs.gne, hs.uniq⟩
  · rw [hne Sb _ hs.sb (n2 _ _)]; exact hs.sb
  · rw [hne mb _ hs.mp (fun cs f h => by cases h)]; exact hs.mp
  · obtain ⟨cs, h1⟩ := (hs.ents x hx).ptr
    exact (hs.ents x hx).same hB (hne _ _ h1 (n1 _ _))
  · obtain ⟨cs, h1⟩ := nb_heap hs.great
    exact nb_same hs.great (hne _ _ h1 (n1 _ _))
/-- What the levels of a node of the store are. -/
theorem ent_levs {base : Nat} {w : World} {L : List (Nk × Nat × Nat)} {Z : Nat → Zs} {H : Nat → Bool} {h : Hd} {ps : List Nat} {b : Nat} (he : EntOk base w L Z H (keyP h ps) b) (hv : ∀ l ∈ h.lv, lvlB l = true) : ∃ lv, NbAt w b (tmL (keyP h ps) lv (Z b) (H b)) ∧ (∀ w', Below base w w' → LevsAt w' lv h.lv) ∧ H b = hpP (parL h.lv) (fun j => H (((keyP h ps).kid j).getD 0)) (tkidsN h.k).toNat := by
  obtain ⟨lv, ls, h1, h2, ⟨h3, h4⟩, h5⟩ := he.node
  have e : ls = h.lv := by
    refine spell_inj h4 hv ?_
    have h6 : (keyP h ps).sp = ⟨(spell h.lv).toArray⟩ := rfl
    rw [h3] at h6
    have h7 := congrArg ByteArray.data h6
    simpa using h7
  subst e
  exact ⟨lv, h1, h2, h5⟩
theorem heap_cell {w w' : World} {b o : Nat} {v : Value} (h : w'.heap[b]? = w.heap[b]?) (hc : w.cell? ⟨b, o, none⟩ = some v) : w'.cell? ⟨b, o, none⟩ = some v := by
  rw [World.cell?_of_block (w := w) (a := ⟨b, o, none⟩) h]; exact hc
end Go.Proofs.YtpmpooekpeocdaaGreat

/- The holes of a node's tree, as the specification meets them: those of the nodes at the places that it spans. Plain facts. -/
namespace Go.Proofs.YtpmpooekpeocdaaGreat

variable {ts : List Td} (ht : termB ts = true)
include ht
theorem term_pos : 1 ≤ ts.length := (root_sz ht).1
end Go.Proofs.YtpmpooekpeocdaaGreat

/- Plain facts for LevelsOf: texts put into a rising row, once each, in the order of their bytes; two rising rows with the same members are one. No program is named here. -/
namespace Go.Proofs.YtpmpooekpeocdaaGreat

/-- The bytes of a text. -/
def kk (s : ByteArray) : List UInt8 := s.data.toList
def bb (z : List UInt8) : ByteArray := ⟨z.toArray⟩
theorem bb_kk (s : ByteArray) : bb (kk s) = s := by cases s; simp [kk, bb]
theorem kk_inj {a b : ByteArray} (h : kk a = kk b) : a = b := by rw [← bb_kk a, ← bb_kk b, h]
theorem l8_total {a b : List UInt8} (h : ¬ a < b) (h2 : a ≠ b) : b < a := by
  rcases Decidable.em (b < a) with h3 | h3
  · exact h3
  · exact absurd (List.le_antisymm h3 h) h2
/-- A text put into a rising row. -/
def insS (a : ByteArray) : List ByteArray → List ByteArray
  | [] => [a]
  | b :: l => if kk b < kk a then b :: insS a l else if kk b = kk a then b :: l else a :: b :: l
def RisingS (l : List ByteArray) : Prop := l.Pairwise (fun a b => kk a < kk b)
theorem insS_mem (a : ByteArray) : ∀ (l : List ByteArray) (x : ByteArray), x ∈ insS a l ↔ x = a ∨ x ∈ l
  | [], x => by simp [insS]
  | b :: l, x => by
    unfold insS
    split
    · rw [List.mem_cons, insS_mem a l x, List.mem_cons]
      constructor
      · rintro (h | h | h)
        · exact .inr (.inl h)
        · exact .inl h
        · exact .inr (.inr h)
      · rintro (h | h | h)
        · exact .inr (.inl h)
        · exact .inl h
        · exact .inr (.inr h)
    · split
      · rename_i h
        constructor
        · intro hx; exact .inr hx
        · rintro (hx | hx)
          · rw [hx, ← kk_inj h]; simp
          · exact hx
      · simp
theorem insS_rising (a : ByteArray) : ∀ (l : List ByteArray), RisingS l → RisingS (insS a l)
  | [], _ => by simp [insS, RisingS]
  | b :: l, h => by
    have h2 := List.pairwise_cons.1 h
    unfold insS
    split
    · rename_i hb
      refine List.pairwise_cons.2 ⟨fun x hx => ?_, insS_rising a l h2.2⟩
      rcases (insS_mem a l x).1 hx with rfl | hx
      · exact hb
      · exact h2.1 x hx
    · split
      · exact h
      · rename_i hb hne
        have hab := l8_total hb hne
        refine List.pairwise_cons.2 ⟨fun x hx => ?_, h⟩
        rcases List.mem_cons.1 hx with rfl | hx
        · exact hab
        · exact List.lt_trans hab (h2.1 x hx)
theorem insS_len (a : ByteArray) : ∀ (l : List ByteArray), (insS a l).length ≤ l.length + 1
  | [] => by simp [insS]
  | b :: l => by
    have := insS_len a l
    unfold insS
    split
    · simp; omega
    · split <;> simp
/-- Two rising rows of bytes with the same members. -/
theorem risL_ext : ∀ (l m : List (List UInt8)), l.Pairwise (fun a b => a < b) → m.Pairwise (fun a b => a < b) → (∀ x, x ∈ l ↔ x ∈ m) → l = m
  | [], [], _, _, _ => rfl
  | [], b :: m, _, _, h => by have := (h b).2 (by simp); simp at this
  | a :: l, [], _, _, h => by have := (h a).1 (by simp); simp at this
  | a :: l, b :: m, hl, hm, h => by
    have hl2 := List.pairwise_cons.1 hl
    have hm2 := List.pairwise_cons.1 hm
    have hab : a = b := by
      have h1 := (h a).1 (by simp)
      have h2 := (h b).2 (by simp)
      rcases List.mem_cons.1 h1 with e | h1
      · exact e
      · rcases List.mem_cons.1 h2 with e | h2
        · exact e.symm
        · exact absurd (hm2.1 a h1) (List.lt_asymm (hl2.1 b h2))
    subst hab
    congr 1
    refine risL_ext l m hl2.2 hm2.2 (fun x => ?_)
    constructor
    · intro hx
      have := (h x).1 (by simp [hx])
      rcases List.mem_cons.1 this with e | h3
      · have := hl2.1 x hx; rw [e] at this; exact absurd this (List.lt_irrefl _)
      · exact h3
    · intro hx
      have := (h x).2 (by simp [hx])
      rcases List.mem_cons.1 this with e | h3
      · have := hm2.1 x hx; rw [e] at this; exact absurd this (List.lt_irrefl _)
      · exact h3
/-- The place of a text in a rising row. -/
theorem insS_at (a : ByteArray) {l : List ByteArray} (k : Nat) (hk : k ≤ l.length) (h1 : ∀ j (h : j < l.length), j < k → kk l[j] < kk a) (h2 : ∀ h : k < l.length, ¬ kk l[k] < kk a) :
    insS a l = if ∃ h : k < l.length, kk l[k] = kk a then l else l.take k ++ [a] ++ l.drop k := by
  induction l generalizing k with
  | nil => simp at hk; subst hk; simp [insS]
  | cons b l ih =>
    unfold insS
    cases k with
    | zero =>
      have := h2 (by simp)
      simp only [List.getElem_cons_zero] at this
      rw [if_neg this]
      by_cases he : kk b = kk a
      · rw [if_pos he, if_pos ⟨by simp, by simpa using he⟩]
      · rw [if_neg he, if_neg (by rintro ⟨_, h⟩; exact he (by simpa using h))]; simp
    | succ k =>
      have hb := h1 0 (by simp) (by omega)
      simp only [List.getElem_cons_zero] at hb
      rw [if_pos hb, ih k (by simpa using hk) (fun j h hj => by have := h1 (j + 1) (by simpa using h) (by omega); simpa using this) (fun h => by have := h2 (by simpa using h); simpa using this)]
      by_cases he : ∃ h : k < l.length, kk l[k] = kk a
      · rw [if_pos he, if_pos (by obtain ⟨h, h3⟩ := he; exact ⟨by simpa using h, by simpa using h3⟩)]
      · rw [if_neg he, if_neg (by rintro ⟨h, h3⟩; exact he ⟨by simpa using h, by simpa using h3⟩)]; simp
/-- Texts put in one after the other. -/
def levsZ : List ByteArray → List ByteArray → List ByteArray
  | out, [] => out
  | out, a :: l => levsZ (insS a out) l
theorem levsZ_mem : ∀ (l out : List ByteArray) (x : ByteArray), x ∈ levsZ out l ↔ x ∈ out ∨ x ∈ l
  | [], out, x => by simp [levsZ]
  | a :: l, out, x => by
    rw [levsZ, levsZ_mem l (insS a out) x, insS_mem, List.mem_cons]
    constructor
    · rintro ((h | h) | h)
      · exact .inr (.inl h)
      · exact .inl h
      · exact .inr (.inr h)
    · rintro (h | h | h)
      · exact .inl (.inr h)
      · exact .inl (.inl h)
      · exact .inr h
theorem levsZ_rising : ∀ (l out : List ByteArray), RisingS out → RisingS (levsZ out l)
  | [], _, h => h
  | a :: l, out, h => levsZ_rising l (insS a out) (insS_rising a out h)
theorem levsZ_len : ∀ (l out : List ByteArray), (levsZ out l).length ≤ out.length + l.length
  | [], out => by simp [levsZ]
  | a :: l, out => by
    have h := levsZ_len l (insS a out)
    have := insS_len a out
    rw [levsZ]; simp only [List.length_cons]; omega
theorem levsZ_append : ∀ (l m out : List ByteArray), levsZ out (l ++ m) = levsZ (levsZ out l) m
  | [], _, _ => rfl
  | a :: l, m, out => by rw [List.cons_append, levsZ, levsZ, levsZ_append l m]
theorem levsZ_snoc (out l : List ByteArray) (a : ByteArray) : levsZ out (l ++ [a]) = insS a (levsZ out l) := by rw [levsZ_append]; rfl

/-- The names in a node's levels. -/
def lvN (td : Td) : List ByteArray := td.lv.flatMap namesOf
def levsN (ts : List Td) : List ByteArray := ts.flatMap lvN
/-- The names in the tree at a place. -/
def levF (ts : List Td) : Nat → Int → List ByteArray
  | 0, _ => []
  | n + 1, i => lvN (tdI ts i) ++ (tdI ts i).kids.flatMap (levF ts n)
theorem tiles_lenS (ts : List Td) (f : Int → List ByteArray) (c : Nat) : ∀ (l : List Int) (a b : Int), (∀ x ∈ l, ((f x).length : Int) ≤ c * szI ts x) → tiles (szI ts) a l b → ((l.flatMap f).length : Int) ≤ c * (b - a)
  | [], a, b, _, h => by
    simp only [tiles] at h
    simp
    have : b - a = 0 ∨ 0 ≤ b - a := by omega
    exact Int.mul_nonneg (by omega) (by omega)
  | x :: l, a, b, hf, h => by
    rw [show x :: l = [x] ++ l from rfl, tiles_append] at h
    obtain ⟨m, h1, h2⟩ := h
    have ih := tiles_lenS ts f c l m b (fun y hy => hf y (by simp [hy])) h2
    have hc := hf x (by simp)
    rw [show [x] = [] ++ [x] from rfl, tiles_snoc] at h1
    simp only [tiles] at h1
    rw [List.flatMap_cons, List.length_append]
    have e : (c : Int) * (b - a) = c * (b - m) + c * (m - a) := by rw [← Int.mul_add]; congr 1; omega
    have e2 : m - a = szI ts x := by omega
    rw [e, e2]
    push_cast
    omega
variable {ts : List Td} (ht : termB ts = true)
include ht
theorem levF_len (hb : ∀ td ∈ ts, (lvN td).length ≤ 36) : ∀ (n : Nat) (i : Int), 0 ≤ i → i < n → i < ts.length → ((levF ts n i).length : Int) ≤ 36 * szI ts i
  | 0, i, h0, h, _ => by omega
  | n + 1, i, h0, h, hi => by
    have T := tiledI ht i h0 hi
    have ho := T.one
    have hm : (lvN (tdI ts i)).length ≤ 36 := by
      have hp : i.toNat < ts.length := by omega
      have e : tdI ts i = ts[i.toNat] := by rw [← tdI_at hp, Int.toNat_of_nonneg (by omega)]
      rw [e]; exact hb _ (List.getElem_mem hp)
    unfold levF
    have := tiles_lenS ts (levF ts n) 36 (tdI ts i).kids _ _ (fun c hc => levF_len hb n c (T.kin c hc).1 (by have := (T.kin c hc).2; omega) (by have := (T.kin c hc).2; omega)) T.span
    rw [List.length_append]
    push_cast
    push_cast at this
    omega
theorem levF_mem : ∀ (n : Nat) (i : Int), 0 ≤ i → i < n → i < ts.length → ∀ x, x ∈ levF ts n i ↔ ∃ p : Int, i - szI ts i < p ∧ p ≤ i ∧ x ∈ lvN (tdI ts p)
  | 0, i, h0, h, _ => by omega
  | n + 1, i, h0, h, hi => by
    intro x
    have T := tiledI ht i h0 hi
    have ho := T.one
    have hk1 : ∀ c ∈ (tdI ts i).kids, 1 ≤ szI ts c := fun c hc => (tiledI ht c (T.kin c hc).1 (by have := (T.kin c hc).2; omega)).one
    unfold levF
    rw [List.mem_append, List.mem_flatMap]
    constructor
    · rintro (hx | ⟨c, hc, hx⟩)
      · exact ⟨i, by omega, by omega, hx⟩
      · have hr := T.kin c hc
        obtain ⟨p, h1, h2, h3⟩ := (levF_mem n c hr.1 (by omega) (by omega) x).1 hx
        have hm := tiles_mem _ _ _ _ hk1 T.span c hc
        exact ⟨p, by omega, by omega, h3⟩
    · rintro ⟨p, h1, h2, h3⟩
      by_cases e : p = i
      · subst e; exact .inl h3
      · obtain ⟨c, hc, h5, h6⟩ := tiles_cover (szI ts) _ _ _ p T.span (by omega) (by omega)
        have hr := T.kin c hc
        exact .inr ⟨c, hc, (levF_mem n c hr.1 (by omega) (by omega) x).2 ⟨p, h5, h6, h3⟩⟩
/-- At the root: the names in all nodes. -/
theorem levs_root (x : ByteArray) : x ∈ levF ts ts.length ((ts.length : Int) - 1) ↔ x ∈ levsN ts := by
  obtain ⟨h1, h2⟩ := root_sz ht
  rw [levF_mem ht ts.length _ (by omega) (by omega) (by omega)]
  unfold levsN
  rw [List.mem_flatMap]
  constructor
  · rintro ⟨p, h3, h4, h5⟩
    have hp : p.toNat < ts.length := by omega
    have e : tdI ts p = ts[p.toNat] := by rw [← tdI_at hp, Int.toNat_of_nonneg (by omega)]
    rw [e] at h5
    exact ⟨ts[p.toNat], List.getElem_mem hp, h5⟩
  · rintro ⟨td, h3, h4⟩
    obtain ⟨p, hp, rfl⟩ := List.mem_iff_getElem.1 h3
    exact ⟨(p : Int), by omega, by omega, by rw [tdI_at hp]; exact h4⟩
theorem levs_root_len (hb : ∀ td ∈ ts, (lvN td).length ≤ 36) : (levF ts ts.length ((ts.length : Int) - 1)).length ≤ 36 * ts.length := by
  obtain ⟨h1, h2⟩ := root_sz ht
  have := levF_len ht hb ts.length ((ts.length : Int) - 1) (by omega) (by omega) (by omega)
  omega
end Go.Proofs.YtpmpooekpeocdaaGreat

/- Appending nothing to a row. -/
namespace Go.Proofs.YtpmpooekpeocdaaGreat
open Go.ChangeShapes Go.WideShapes Go.ChangeAt Go.RowKit

/-- Nothing is appended. -/
theorem run_append_none {P : Program} {w : World} (t ty e : TypeId) (i : TypeInfo) (ht : P.underlying t = some (.slice e)) (hi : P.info? e = some i) (b : Option Addr) (n c : Nat) (hnc : n ≤ c) (ax : Option Addr) (cx : Nat) :
    (Builtin.append_ #[t, t] ty #[.slice b n c, .slice ax 0 cx]).run P w = .ok (.slice b n c) w := by
  refine run_append_nothing w t t ty e i ht hi b n c hnc (.slice ax 0 cx) ⟨.inl ⟨e, ht⟩, fun w' => ?_, ?_, ?_, by simp, fun u h => by simp at h⟩
  · simp [Builtin.lenOf]
  · cases ax <;> simp [Builtin.firstCells, loadCells, loadCellsFrom]
  · cases ax <;> simp [Builtin.firstCells, loadCells, loadCellsFrom]
theorem wpList_append_none {P : Program} {w : World} {ops : Array Oper} {rest : List Oper} {o : Oper} {a : Act} {Q : Exit → Act → World → Prop} (hgd : o.guard = none) (s x : Operand) (t : TypeId)
    (ho : o.op = .call { callee := .builtin .append, args := #[s, x], argTypes := #[t, t] }) (e : TypeId) (i : TypeInfo) (ht : P.underlying t = some (.slice e)) (hi : P.info? e = some i)
    (b : Option Addr) (n c : Nat) (hnc : n ≤ c) (ax : Option Addr) (cx : Nat) (hs : a.eval s = .slice b n c) (hx : a.eval x = .slice ax 0 cx) (h : wpList P ops Q rest (a.put o.dst (.slice b n c)) w) :
    wpList P ops Q (o :: rest) a w := by
  refine wpList_plain hgd fun K hK => ?_
  have hr := run_append_none (P := P) (w := w) t o.type e i ht hi b n c hnc ax cx
  unfold Oper.wp execOp
  simp only [ho, resolve, invoke, builtin, Sem.run_bind, Sem.run_pure, Result.andThen_ok, List.map_toArray, List.map_cons, List.map_nil, hs, hx, hr]
  exact hK _ _ h

end Go.Proofs.YtpmpooekpeocdaaGreat
