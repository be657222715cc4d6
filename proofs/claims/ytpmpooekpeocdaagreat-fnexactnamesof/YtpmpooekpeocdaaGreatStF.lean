/- What the store's function node answers: the one node of a key, new or found. -/
import Derived.Test.YtpmpooekpeocdaaGreatStE
namespace Go.Proofs.YtpmpooekpeocdaaGreat
open Go.ChangeShapes Go.WideShapes Go.ChangeAt Go.RowKit

theorem grown_new {w w1 w2 : World} {r : Option Nat} {b : Nat} (h : w.grownBy w1 r) (h2 : w1.grownBy w2 (some b)) (hb : w.heap.size ≤ b) : w.grownBy w2 r := by
  obtain ⟨a1, a2, a3, a4, a5⟩ := h
  obtain ⟨b1, b2, b3, b4, b5⟩ := h2
  refine ⟨b1.trans a1, b2.trans a2, b3.trans a3, Nat.le_trans a4 b4, fun k hk hr => ?_⟩
  rw [b5 k (Nat.lt_of_lt_of_le hk a4) (by intro e; have := Option.some.inj e; omega)]
  exact a5 k hk hr
theorem EntOk.more {base : Nat} {w w' : World} {L L' : List (Nk × Nat × Nat)} {Z Z' : Nat → Zs} {H H' : Nat → Bool} {q : Nk} {b : Nat} (h : EntOk base w L Z H q b) (hb : Below base w w') (hh : w'.heap[b]? = w.heap[b]?) (hL : ∀ y ∈ L, y ∈ L') (hZ : ∀ y ∈ L, Z' y.2.1 = Z y.2.1 ∧ H' y.2.1 = H y.2.1) (hbZ : Z' b = Z b ∧ H' b = H b) : EntOk base w' L' Z' H' q b := by
  obtain ⟨lv, ls, h1, h2, h3, h4⟩ := h.node
  have hk : ∀ j : Nat, j < (tkidsN q.k).toNat → Z' ((q.kid j).getD 0) = Z ((q.kid j).getD 0) ∧ H' ((q.kid j).getD 0) = H ((q.kid j).getD 0) := by
    intro j hj
    obtain ⟨y, hy, e⟩ := h.kid j (by have := h.k0; omega)
    rw [e]; exact hZ y hy
  have hpe : ∀ (p0 : Bool) (f g : Nat → Bool) (n : Nat), (∀ j, j < n → f j = g j) → hpP p0 f n = hpP p0 g n := by
    intro p0 f g n
    induction n with
    | zero => intro _; rfl
    | succ n ih => intro hfg; simp only [hpP]; rw [ih (fun j hj => hfg j (by omega)), hfg n (by omega)]
  refine ⟨⟨lv, ls, by rw [hbZ.1, hbZ.2]; exact nb_same h1 hh, fun w2 hw => h2 w2 (hb.trans hw), h3, ?_⟩, h.low, h.k0, fun j hj => ?_, h.nok, ?_, by rw [hbZ.1]; exact h.ok⟩
  · rw [hbZ.2, h4]
    exact hpe _ _ _ _ (fun j hj => (hk j hj).2.symm)
  · obtain ⟨y, hy, e⟩ := h.kid j hj
    exact ⟨y, hL y hy, e⟩
  · rw [hbZ.1, h.z]
    congr 1
    apply List.map_congr_left
    intro j hj
    exact ((hk j (List.mem_range.1 hj)).1).symm

/-- What is kept of a key's kids. -/
def kidZ (Z : Nat → Zs) (q : Nk) : List Zs := (List.range (tkidsN q.k).toNat).map (fun j => Z ((q.kid j).getD 0))
theorem kidZ_len (Z : Nat → Zs) (q : Nk) : (kidZ Z q).length = (tkidsN q.k).toNat := by simp [kidZ]
theorem kidZ_get (Z : Nat → Zs) (q : Nk) (j : Nat) (h : j < (kidZ Z q).length) : (kidZ Z q)[j] = Z ((q.kid j).getD 0) := by simp [kidZ]
/-- What node answers. -/
def NodeOut (base Sb mb gb : Nat) (L : List (Nk × Nat × Nat)) (Z : Nat → Zs) (H : Nat → Bool) (q : Nk) (w : World) (e : Ending) (w' : World) : Prop :=
  ∃ (b clock' : Nat) (L' : List (Nk × Nat × Nat)) (Z' : Nat → Zs) (H' : Nat → Bool), e = .returned (.pointer (some ⟨b, 0, none⟩)) ∧ St base w' Sb mb gb clock' L' Z' H' ∧ (∃ c, (q, b, c) ∈ L') ∧ (∀ x ∈ L, x ∈ L' ∧ Z' x.2.1 = Z x.2.1 ∧ H' x.2.1 = H x.2.1) ∧ w.grownBy w' (some mb)
def upd {α : Type} (f : Nat → α) (b : Nat) (z : α) : Nat → α := fun x => if x = b then z else f x
theorem upd_at {α : Type} (f : Nat → α) (b : Nat) (z : α) : upd f b z b = z := by simp [upd]
theorem upd_ne {α : Type} (f : Nat → α) (b : Nat) (z : α) {x : Nat} (h : x ≠ b) : upd f b z x = f x := by simp [upd, h]
theorem hpP_eq (p0 : Bool) (f g : Nat → Bool) : ∀ n : Nat, (∀ j, j < n → f j = g j) → hpP p0 f n = hpP p0 g n
  | 0, _ => rfl
  | n + 1, h => by simp only [hpP]; rw [hpP_eq p0 f g n (fun j hj => h j (by omega)), h n (by omega)]
theorem St.lt {base : Nat} {w : World} {Sb mb gb clock : Nat} {L : List (Nk × Nat × Nat)} {Z : Nat → Zs} {H : Nat → Bool} (hs : St base w Sb mb gb clock L Z H) : ∀ x ∈ L, x.2.1 < w.heap.size ∧ x.2.1 ≠ mb := fun x hx => by
  obtain ⟨cs, h1⟩ := (hs.ents x hx).ptr
  refine ⟨(Array.getElem?_eq_some_iff.1 h1).1, fun e => ?_⟩
  rw [e, hs.mp] at h1
  cases h1
theorem node_new {base : Nat} {V w2 w3 : World} {Sb mb gb clock : Nat} {L : List (Nk × Nat × Nat)} {Z : Nat → Zs} {H : Nat → Bool} {q : Nk} {lv : Value} {ls : List (List Nd)} {z : Zs} {hp : Bool}
    (hs : St base V Sb mb gb clock L Z H) (hbase : base ≤ V.heap.size) (hq : KeySt L q) (hlv : ∀ w', Below base V w' → LevsAt w' lv ls) (hsp : q.sp = ⟨(spell ls).toArray⟩ ∧ ∀ l ∈ ls, lvlB l = true) (hno : ∀ x ∈ L, x.1 ≠ q) (hok : ZOk z ∧ z.sz ≤ 20000) (hz : z = zmk q.k q.n (kidZ Z q)) (hh : hp = hpP (parL ls) (fun j => H ((q.kid j).getD 0)) (kidZ Z q).length)
    (hn : NbAt w2 V.heap.size (tmL q lv z hp)) (hg : V.grownBy w2 none) (hw3 : w3 = { w2.drew with heap := w2.drew.heap.setIfInBounds mb (.map ((L.map ent).toArray.push ⟨q.val, .pointer (some ⟨V.heap.size, 0, none⟩), clock⟩) (clock + 1)) }) :
    St base w3 Sb mb gb (clock + 1) (L ++ [(q, V.heap.size, clock)]) (upd Z V.heap.size z) (upd H V.heap.size hp) ∧ V.grownBy w3 (some mb) ∧ ∀ x ∈ L, x ∈ L ++ [(q, V.heap.size, clock)] ∧ upd Z V.heap.size z x.2.1 = Z x.2.1 ∧ upd H V.heap.size hp x.2.1 = H x.2.1 := by
  have hml : mb < V.heap.size := (Array.getElem?_eq_some_iff.1 hs.mp).1
  have hsl : Sb < V.heap.size := (Array.getElem?_eq_some_iff.1 hs.sb).1
  have hsm : Sb ≠ mb := fun e => by have h := hs.sb; rw [e, hs.mp] at h; cases h
  have hlt := hs.lt
  have h2 : w2.heap.size ≤ w3.heap.size := by rw [hw3]; show _ ≤ (w2.heap.setIfInBounds mb _).size; rw [Array.size_setIfInBounds]; exact Nat.le_refl _
  have hwh : ∀ k, k ≠ mb → w3.heap[k]? = w2.heap[k]? := fun k hk => by
    rw [hw3]
    show (w2.heap.setIfInBounds mb _)[k]? = _
    rw [Array.getElem?_setIfInBounds, if_neg (fun e => hk e.symm)]
  have hwm : w3.heap[mb]? = some (.map ((L.map ent).toArray.push ⟨q.val, .pointer (some ⟨V.heap.size, 0, none⟩), clock⟩) (clock + 1)) := by
    rw [hw3]
    show (w2.heap.setIfInBounds mb _)[mb]? = _
    rw [Array.getElem?_setIfInBounds, if_pos rfl, if_pos (Nat.lt_of_lt_of_le hml hg.size)]
  have hG : V.grownBy w3 (some mb) := by
    refine ⟨by rw [hw3]; exact hg.os, by rw [hw3]; exact hg.tape, by rw [hw3]; exact hg.output, Nat.le_trans hg.size h2, fun k hk hr => ?_⟩
    rw [hwh k (fun e => hr (by rw [e]))]
    exact hg.block k hk (by simp)
  have hB : Below base V w3 := (Below.refl base V).grown hG hbase (fun k hk => by have := Option.some.inj hk; have := hs.lows.2; omega)
  have hL : ∀ x ∈ L, x ∈ L ++ [(q, V.heap.size, clock)] ∧ upd Z V.heap.size z x.2.1 = Z x.2.1 ∧ upd H V.heap.size hp x.2.1 = H x.2.1 := fun x hx =>
    ⟨List.mem_append.2 (.inl hx), upd_ne _ _ _ (by have := (hlt x hx).1; omega), upd_ne _ _ _ (by have := (hlt x hx).1; omega)⟩
  have hsame : ∀ k, k < V.heap.size → k ≠ mb → w3.heap[k]? = V.heap[k]? := fun k hk hm => by rw [hwh k hm]; exact hg.block k hk (by simp)
  have hkid : ∀ j : Nat, j < (tkidsN q.k).toNat → upd Z V.heap.size z ((q.kid j).getD 0) = Z ((q.kid j).getD 0) ∧ upd H V.heap.size hp ((q.kid j).getD 0) = H ((q.kid j).getD 0) := fun j hj => by
    obtain ⟨y, hy, e⟩ := hq.kid j (by have := hq.k0; omega)
    rw [e]
    exact (hL y hy).2
  have hgl : gb < V.heap.size := hs.great.lt
  have hgm : gb ≠ mb := fun e => by
    obtain ⟨cs, h1⟩ := nb_heap hs.great
    rw [e, hs.mp] at h1
    cases h1
  refine ⟨⟨by rw [hsame Sb hsl hsm]; exact hs.sb, by rw [hwm]; simp [ent], fun x hx => ?_, hs.lows, nb_same hs.great (hsame gb hgl hgm), fun x hx => ?_, fun x hx y hy h => ?_⟩, hG, hL⟩
  case refine_2 =>
    rcases List.mem_append.1 hx with hx | hx
    · exact hs.gne x hx
    · have e : x = (q, V.heap.size, clock) := by simpa using hx
      rw [e]
      show V.heap.size ≠ gb
      omega
  case refine_3 =>
    rcases List.mem_append.1 hx with hx | hx
    · rcases List.mem_append.1 hy with hy | hy
      · exact hs.uniq x hx y hy h
      · have e : y = (q, V.heap.size, clock) := by simpa using hy
        subst e
        exfalso
        rcases h with h | h
        · exact hno x hx h
        · have := (hlt x hx).1
          have h : x.2.1 = V.heap.size := h
          omega
    · have e : x = (q, V.heap.size, clock) := by simpa using hx
      subst e
      rcases List.mem_append.1 hy with hy | hy
      · exfalso
        rcases h with h | h
        · exact hno y hy h.symm
        · have := (hlt y hy).1
          have h : V.heap.size = y.2.1 := h
          omega
      · have e : y = (q, V.heap.size, clock) := by simpa using hy
        exact e.symm
  rcases List.mem_append.1 hx with hx | hx
  · obtain ⟨l1, l2⟩ := hlt x hx
    exact (hs.ents x hx).more hB (hsame _ l1 l2) (fun y hy => (hL y hy).1) (fun y hy => (hL y hy).2) (hL x hx).2
  · have e : x = (q, V.heap.size, clock) := by simpa using hx
    subst e
    have hne : V.heap.size ≠ mb := by omega
    refine ⟨⟨lv, ls, ?_, fun w' hw => hlv w' (hB.trans hw), hsp, ?_⟩, hbase, hq.k0, fun j hj => ?_, hq.nok, ?_, ?_⟩
    · show NbAt w3 V.heap.size (tmL q lv (upd Z V.heap.size z V.heap.size) (upd H V.heap.size hp V.heap.size))
      rw [upd_at, upd_at]
      exact nb_same hn (hwh _ hne)
    · show upd H V.heap.size hp V.heap.size = _
      rw [upd_at]
      refine hh.trans ?_
      rw [kidZ_len]
      exact hpP_eq _ _ _ _ (fun j hj => ((hkid j hj).2).symm)
    · obtain ⟨y, hy, e⟩ := hq.kid j hj
      exact ⟨y, (hL y hy).1, e⟩
    · show upd Z V.heap.size z V.heap.size = _
      rw [upd_at]
      refine hz.trans ?_
      congr 1
      apply List.map_congr_left
      intro j hj
      exact ((hkid j (List.mem_range.1 hj)).1).symm
    · show ZOk (upd Z V.heap.size z V.heap.size) ∧ _
      rw [upd_at]
      exact hok
theorem nb_new (V : World) (q : Nk) (lv : Value) : NbAt (V.alloc (.cells #[.int .i64 q.k, .int .i64 q.n, .int .i64 q.m, .string q.s, .string q.sp, pv q.p0, pv q.p1, pv q.p2, lv, .int .i64 0, .int .i64 0, .bool false, .bool false] 121)) V.heap.size (tmL q lv ⟨0, 0, false⟩ false) :=
  ⟨rfl, .inr ⟨V.heap.size, 1, _, rfl, Nat.zero_le _, heap_alloc_new V _, Nat.le_refl _, by decide, rfl, rfl⟩⟩
theorem EntOk.kz {base : Nat} {w : World} {L : List (Nk × Nat × Nat)} {Z : Nat → Zs} {H : Nat → Bool} {q : Nk} {b : Nat} (h : EntOk base w L Z H q b) : KzAt w b (Z b) (H b) := by
  obtain ⟨lv, ls, h1, _⟩ := h.node
  exact ⟨by rw [h1.cell 9 (by omega)]; rfl, by rw [h1.cell 10 (by omega)]; rfl, by rw [h1.cell 11 (by omega)]; rfl, by rw [h1.cell 12 (by omega)]; rfl⟩
theorem kidZ_mem {base : Nat} {w : World} {Sb mb gb clock : Nat} {L : List (Nk × Nat × Nat)} {Z : Nat → Zs} {H : Nat → Bool} {q : Nk} (hs : St base w Sb mb gb clock L Z H) (hq : KeySt L q) : ∀ z ∈ kidZ Z q, ZOk z ∧ z.sz ≤ 20000 := by
  intro z hz
  obtain ⟨j, hj, rfl⟩ := List.mem_map.1 hz
  obtain ⟨y, hy, e⟩ := hq.kid j (by have := hq.k0; have := List.mem_range.1 hj; omega)
  rw [e]
  exact (hs.ents y hy).ok

set_option maxRecDepth 20000 in
set_option maxHeartbeats 8000000 in
theorem node_any (base Sb mb gb clock : Nat) (L : List (Nk × Nat × Nat)) (Z : Nat → Zs) (H : Nat → Bool) (q : Nk) (lv : Value) (ls : List (List Nd)) (w : World) (hs : St base w Sb mb gb clock L Z H) (hbase : base ≤ w.heap.size) (hq : KeySt L q) (hlv : ∀ w', Below base w w' → LevsAt w' lv ls) (hsp : q.sp = ⟨(spell ls).toArray⟩ ∧ ∀ l ∈ ls, lvlB l = true) (hl : ls.length ≤ 1048576) (hll : ∀ l ∈ ls, l.length ≤ 1048576) (hn : q.k = 1 → 0 ≤ q.n ∧ q.n ≤ 20000) (hsz : (zmk q.k q.n (kidZ Z q)).sz ≤ 20000) :
    Calls Tryz.prog 152 #[.pointer (some ⟨Sb, 0, none⟩), q.val, lv] w (NodeOut base Sb mb gb L Z H q w) := by
  obtain ⟨W, hW⟩ : ∃ W, W = w.alloc (.cells #[.int .i64 q.k, .int .i64 q.n, .int .i64 q.m, .string q.s, .string q.sp, pv q.p0, pv q.p1, pv q.p2] 118) := ⟨_, rfl⟩
  obtain ⟨V, hV⟩ : ∃ V, V = W.drew := ⟨_, rfl⟩
  have hbW : Below w.heap.size w W := by rw [hW]; exact bel_alloc (Below.refl _ _) _
  have hbV : Below w.heap.size w V := by rw [hV]; exact hbW.drew
  have hsV : St base V Sb mb gb clock L Z H := hs.keep hbV hbase
  have hbaseV : base ≤ V.heap.size := Nat.le_trans hbase hbV.size
  have hhk : V.heap[w.heap.size]? = some (.cells #[.int .i64 q.k, .int .i64 q.n, .int .i64 q.m, .string q.s, .string q.sp, pv q.p0, pv q.p1, pv q.p2] 118 (0, 0)) := by rw [hV, hW]; exact heap_alloc_new w _
  have hkl : w.heap.size < V.heap.size := (Array.getElem?_eq_some_iff.1 hhk).1
  have HWl : Hid (W.heap.size = V.heap.size ∧ w.heap.size < W.heap.size ∧ Sb < W.heap.size) := by
    have h1 : Sb < V.heap.size := (Array.getElem?_eq_some_iff.1 hsV.sb).1
    rw [hV] at h1 hkl ⊢
    exact ⟨rfl, hkl, h1⟩
  have hkc : ∀ (V' : World), Below V.heap.size V V' → ∀ (o : Nat) (v : Value), #[Value.int .i64 q.k, .int .i64 q.n, .int .i64 q.m, .string q.s, .string q.sp, pv q.p0, pv q.p1, pv q.p2][o]? = some v → V'.cell? ⟨w.heap.size, o, none⟩ = some v := fun V' hb o v hv => by
    rw [Lib.cell_of_heap (by rw [hb.block _ hkl]; exact hhk)]; exact hv
  have g0 : V.cell? ⟨w.heap.size, 0, none⟩ = some (.int .i64 q.k) := hkc V (Below.refl _ _) 0 _ rfl
  have g1 : V.cell? ⟨w.heap.size, 1, none⟩ = some (.int .i64 q.n) := hkc V (Below.refl _ _) 1 _ rfl
  have g2 : V.cell? ⟨w.heap.size, 2, none⟩ = some (.int .i64 q.m) := hkc V (Below.refl _ _) 2 _ rfl
  have g3 : V.cell? ⟨w.heap.size, 3, none⟩ = some (.string q.s) := hkc V (Below.refl _ _) 3 _ rfl
  have g4 : V.cell? ⟨w.heap.size, 4, none⟩ = some (.string q.sp) := hkc V (Below.refl _ _) 4 _ rfl
  have g5 : V.cell? ⟨w.heap.size, 5, none⟩ = some (pv q.p0) := hkc V (Below.refl _ _) 5 _ rfl
  have g6 : V.cell? ⟨w.heap.size, 6, none⟩ = some (pv q.p1) := hkc V (Below.refl _ _) 6 _ rfl
  have g7 : V.cell? ⟨w.heap.size, 7, none⟩ = some (pv q.p2) := hkc V (Below.refl _ _) 7 _ rfl
  have s0 := hsV.cell.1
  obtain ⟨rv, rb, hr⟩ : ∃ rv rb, lookV (findQ q L 0) = .tuple #[rv, .bool rb] := by
    cases findQ q L 0 with
    | none => exact ⟨_, _, rfl⟩
    | some r => exact ⟨_, _, rfl⟩
  have hlk : (Instr.lookup 139 (.map (some mb)) (.agg #[.int .i64 q.k, .int .i64 q.n, .int .i64 q.m, .string q.s, .string q.sp, pv q.p0, pv q.p1, pv q.p2]) true).run Tryz.prog V = .ok (.tuple #[rv, .bool rb]) V := by
    rw [← hr]
    exact run_look q mb clock L V (hq.ok hsV) hsV.keys hsV.mp
  have HKC := hide hkc
  have HS := hide hsV
  have HBV := hide hbV
  have HLV := hide (fun w' (h : Below base V w') => hlv w' ((hbV.mono hbase).trans h))
  have HQ := hide hq
  have HSP := hide hsp
  have HR := hide hr
  have HB := hide hbaseV
  have HKL := hide hkl
  have HN := hide hn
  have HLL := hide hll
  have HSZ := hide hsz
  have HW := hide hW
  have HV := hide hV
  have hWl := HWl.out
  have hSl : Sb < V.heap.size := by rw [← hWl.1]; exact hWl.2.2
  obtain ⟨la, lc, rfl, _, _, _⟩ := hlv w (Below.refl _ _)
  have hS0 : (fun w' : World => w' = V) W.drew := hV.symm
  clear hkc hs hbW hsp hsV hbV hq hr hbaseV hhk hW hV hn hsz hlv hbase hll
  obtain ⟨hW1, hW2, hW3⟩ := hWl
  show Calls Tryz.prog 152 #[.pointer (some ⟨Sb, 0, none⟩), .agg #[.int .i64 q.k, .int .i64 q.n, .int .i64 q.m, .string q.s, .string q.sp, pv q.p0, pv q.p1, pv q.p2], .slice la ls.length lc] w _
  go_enter Tryz.func152, Tryz.ntmps152
  go_wp2_with fail
  rw [← HW.out]
  refine anyE_region (L := 10) (S := fun w' : World => w' = V) (by kernel_rfl) ?_
  refine anyE_take 0 (v := ?v1) rfl (by kernel_rfl) (by kernel_rfl) (by kernel_rfl) (by kernel_rfl) (fun _ _ _ h => h) (by rfl) ?hy1 hS0 ?rest1
  case hy1 =>
    intro wx hx
    subst hx
    go_simp
    try rfl
  case rest1 =>
  intro K hK
  go_simp
  refine hK.out _ ?_
  clear hK K
  refine anyE_take 1 (v := ?v2) rfl (by kernel_rfl) (by kernel_rfl) (by kernel_rfl) (by kernel_rfl) (fun _ _ _ h => h) (by rfl) ?hy2 hS0 ?rest2
  case hy2 =>
    intro wx hx
    subst hx
    go_simp
    try rfl
  case rest2 =>
  intro K hK
  go_simp
  refine hK.out _ ?_
  clear hK K
  refine anyE_take 2 (v := ?v3) rfl (by kernel_rfl) (by kernel_rfl) (by kernel_rfl) (by kernel_rfl) (fun _ _ _ h => h) (by rfl) ?hy3 hS0 ?rest3
  case hy3 =>
    intro wx hx
    subst hx
    go_simp
    try rfl
  case rest3 =>
  intro K hK
  go_simp
  refine hK.out _ ?_
  clear hK K
  refine anyE_take 3 (v := ?v4) rfl (by kernel_rfl) (by kernel_rfl) (by kernel_rfl) (by kernel_rfl) (fun _ _ _ h => h) (by rfl) ?hy4 hS0 ?rest4
  case hy4 =>
    intro wx hx
    subst hx
    go_simp
    try rfl
  case rest4 =>
  intro K hK
  go_simp
  refine hK.out _ ?_
  clear hK K
  refine anyE_take 4 (v := ?v5) rfl (by kernel_rfl) (by kernel_rfl) (by kernel_rfl) (by kernel_rfl) (fun _ _ _ h => h) (by rfl) ?hy5 hS0 ?rest5
  case hy5 =>
    intro wx hx
    subst hx
    go_simp
    try rfl
  case rest5 =>
  intro K hK
  go_simp
  refine hK.out _ ?_
  clear hK K
  refine anyE_take 5 (v := ?v6) rfl (by kernel_rfl) (by kernel_rfl) (by kernel_rfl) (by kernel_rfl) (fun _ _ _ h => h) (by rfl) ?hy6 hS0 ?rest6
  case hy6 =>
    intro wx hx
    subst hx
    go_simp
    try rfl
  case rest6 =>
  intro K hK
  go_simp
  refine hK.out _ ?_
  clear hK K
  refine anyE_take 6 (v := ?v7) rfl (by kernel_rfl) (by kernel_rfl) (by kernel_rfl) (by kernel_rfl) (fun _ _ _ h => h) (by rfl) ?hy7 hS0 ?rest7
  case hy7 =>
    intro wx hx
    subst hx
    go_simp
    try rfl
  case rest7 =>
  intro K hK
  go_simp
  refine hK.out _ ?_
  clear hK K
  refine anyE_take 7 (v := ?v8) rfl (by kernel_rfl) (by kernel_rfl) (by kernel_rfl) (by kernel_rfl) (fun _ _ _ h => h) (by rfl) ?hy8 hS0 ?rest8
  case hy8 =>
    intro wx hx
    subst hx
    go_simp
    try rfl
  case rest8 =>
  intro K hK
  go_simp
  refine hK.out _ ?_
  clear hK K
  refine anyE_take 8 (v := ?v9) rfl (by kernel_rfl) (by kernel_rfl) (by kernel_rfl) (by kernel_rfl) (fun _ _ _ h => h) (by rfl) ?hy9 hS0 ?rest9
  case hy9 =>
    intro wx hx
    subst hx
    go_simp
    try rfl
  case rest9 =>
  intro K hK
  go_simp
  refine hK.out _ ?_
  clear hK K
  refine anyE_take 9 (v := ?v10) rfl (by kernel_rfl) (by kernel_rfl) (by kernel_rfl) (by kernel_rfl) (fun _ _ _ h => h) (by rfl) ?hy10 hS0 ?rest10
  case hy10 =>
    intro wx hx
    subst hx
    go_simp
    try rfl
  case rest10 =>
  intro K hK
  go_simp
  refine hK.out _ ?_
  clear hK K
  refine anyE_one 10 (by kernel_rfl) rfl (fun K hK => ?_)
  go_simp
  refine hK.out _ _ (fun h => absurd rfl h) ?_
  clear hK K
  refine anyE_done (by kernel_rfl) ?_ _
  clear hS0 hlk
  cases hf : findQ q L 0 with
  | some r =>
    obtain ⟨i, v⟩ := r
    obtain ⟨x, hx, hxq, hxv⟩ := findQ_some hf
    subst hxv
    have hr := HR.out
    rw [hf] at hr
    simp only [lookV, Value.tuple.injEq] at hr
    have e1 : rv = .pointer (some ⟨x.2.1, 0, none⟩) := by simp at hr; exact hr.1.symm
    have e2 : rb = true := by simp at hr; exact hr.2
    have HX : Hid (∃ c, (q, x.2.1, c) ∈ L) := ⟨x.2.2, by rw [← hxq]; exact hx⟩
    clear hx hxq hf hr
    subst e1 e2
    generalize x.2.1 = bx at *
    go_wp2_with fail
    go_ret
    exact ⟨bx, clock, L, Z, H, rfl, HS.out, HX.out, fun y hy => ⟨hy, rfl, rfl⟩, (grown_of HBV.out).but _⟩
  | none =>
    have hr := HR.out
    rw [hf] at hr
    simp only [lookV, Value.tuple.injEq] at hr
    have e1 : rv = .pointer none := by simp at hr; exact hr.1.symm
    have e2 : rb = false := by simp at hr; exact hr.2
    subst e1 e2
    have HF := hide hf
    clear hf hr HR
    have hVl : V.heap.size < (V.alloc (.cells #[.int .i64 q.k, .int .i64 q.n, .int .i64 q.m, .string q.s, .string q.sp, pv q.p0, pv q.p1, pv q.p2, .slice la ls.length lc, .int .i64 0, .int .i64 0, .bool false, .bool false] 121)).heap.size := by simp
    obtain ⟨V1, hV1⟩ : ∃ V1, V1 = V.alloc (.cells #[.int .i64 q.k, .int .i64 q.n, .int .i64 q.m, .string q.s, .string q.sp, pv q.p0, pv q.p1, pv q.p2, .slice la ls.length lc, .int .i64 0, .int .i64 0, .bool false, .bool false] 121) := ⟨_, rfl⟩
    have hb1 : Below V.heap.size V V1 := by rw [hV1]; exact bel_alloc (Below.refl _ _) _
    have hn1 : NbAt V1 V.heap.size (tmL q (.slice la ls.length lc) ⟨0, 0, false⟩ false) := by rw [hV1]; exact nb_new V q _
    have hs1 := HS.out.keep hb1 HB.out
    have hpm : ∀ j, j < (kidZ Z q).length → ∃ y ∈ L, q.kid j = some y.2.1 := fun j hj => HQ.out.kid j (by rw [kidZ_len] at hj; have := HQ.out.k0; omega)
    have HM := hide (measure_any V.heap.size q (.slice la ls.length lc) ls (kidZ Z q) (fun j => H ((q.kid j).getD 0)) (fun j => (q.kid j).getD 0) V1 hn1 (fun w' hg => HLV.out w' ((hb1.mono HB.out).grown hg (Nat.le_trans HB.out hb1.size) (fun k hk => by have := Option.some.inj hk; have := HB.out; omega))) hl HLL.out
      (by rw [kidZ_len]; have := HQ.out.k0; omega) (by rw [kidZ_len]; have := tkids_le q.k; omega) (fun j hj => by obtain ⟨y, hy, e⟩ := hpm j hj; rw [e]; rfl) (fun j hj => by obtain ⟨y, hy, e⟩ := hpm j hj; rw [e]; have := (HS.out.lt y hy).1; show y.2.1 ≠ _; omega)
      (fun j hj => by rw [kidZ_get]; obtain ⟨y, hy, e⟩ := hpm j hj; simp only [e]; exact (hs1.ents y hy).kz) (fun z hz => by have := kidZ_mem HS.out HQ.out z hz; exact ⟨this.1, by omega⟩) HN.out)
    have HB1 := hide hb1
    clear hn1 hs1 hpm hb1
    go_upto_region 5 with fail
    rw [← hV1] at hVl ⊢
    clear hV1 g0 g1 g2 g3 g4 g5 g6 g7 s0
    go_wp2_with fail
    refine HM.out.mono ?_
    rintro e w2 ⟨rfl, hn2, hg2⟩
    obtain ⟨z, hz⟩ : ∃ z, z = zmk q.k q.n (kidZ Z q) := ⟨_, rfl⟩
    obtain ⟨hp, hhp⟩ : ∃ hp, hp = hpP (parL ls) (fun j => H ((q.kid j).getD 0)) (kidZ Z q).length := ⟨_, rfl⟩
    rw [← hz, ← hhp] at hn2
    have hzok : ZOk z ∧ z.sz ≤ 20000 := by rw [hz]; exact ⟨zmk_ok _ _ _ (fun z hz => (kidZ_mem HS.out HQ.out z hz).1) HN.out, HSZ.out⟩
    have hgV : V.grownBy w2 none := grown_new (grown_of HB1.out) hg2 (Nat.le_refl _)
    obtain ⟨X, hX⟩ : ∃ X, X = w2.drew := ⟨_, rfl⟩
    have hbX : Below V.heap.size V X := by
      have h : Below V.heap.size V w2 := (Below.refl _ _).grown hgV (Nat.le_refl _) (fun k hk => by cases hk)
      rw [hX]
      exact h.drew
    have x0 : X.cell? ⟨w.heap.size, 0, none⟩ = some (.int .i64 q.k) := HKC.out X hbX 0 _ rfl
    have x1 : X.cell? ⟨w.heap.size, 1, none⟩ = some (.int .i64 q.n) := HKC.out X hbX 1 _ rfl
    have x2 : X.cell? ⟨w.heap.size, 2, none⟩ = some (.int .i64 q.m) := HKC.out X hbX 2 _ rfl
    have x3 : X.cell? ⟨w.heap.size, 3, none⟩ = some (.string q.s) := HKC.out X hbX 3 _ rfl
    have x4 : X.cell? ⟨w.heap.size, 4, none⟩ = some (.string q.sp) := HKC.out X hbX 4 _ rfl
    have x5 : X.cell? ⟨w.heap.size, 5, none⟩ = some (pv q.p0) := HKC.out X hbX 5 _ rfl
    have x6 : X.cell? ⟨w.heap.size, 6, none⟩ = some (pv q.p1) := HKC.out X hbX 6 _ rfl
    have x7 : X.cell? ⟨w.heap.size, 7, none⟩ = some (pv q.p2) := HKC.out X hbX 7 _ rfl
    have hsX : St base X Sb mb gb clock L Z H := HS.out.keep hbX HB.out
    have y0 := hsX.cell.1
    obtain ⟨X3, hX3⟩ : ∃ X3, X3 = { X with heap := X.heap.setIfInBounds mb (.map ((L.map ent).toArray.push ⟨q.val, .pointer (some ⟨V.heap.size, 0, none⟩), clock⟩) (clock + 1)) } := ⟨_, rfl⟩
    have hput : (Instr.mapUpdate 139 (.map (some mb)) (.agg #[.int .i64 q.k, .int .i64 q.n, .int .i64 q.m, .string q.s, .string q.sp, pv q.p0, pv q.p1, pv q.p2]) (.pointer (some ⟨V.heap.size, 0, none⟩))).run Tryz.prog X = .ok () X3 := by
      rw [hX3]
      exact run_put q _ mb clock L X (HQ.out.ok hsX) hsX.keys hsX.mp HF.out
    have HE := hide (node_new HS.out HB.out HQ.out HLV.out HSP.out (findQ_none HF.out) hzok hz hhp hn2 hgV (w3 := X3) (by rw [hX3, hX]))
    have hle : ¬ (20000 : Int) < z.sz := by have := hzok.2; omega
    have c9 : w2.cell? ⟨V.heap.size, 9, none⟩ = some (.int .i64 z.sz) := by rw [hn2.cell 9 (by omega)]; rfl
    have hl2 := hn2.lt
    have hwl : w.heap.size < w2.heap.size := by have := hgV.size; omega
    have hSl2 : Sb < w2.heap.size := by have := hgV.size; omega
    have hS0 : (fun w' : World => w' = X) w2.drew := hX.symm
    have HX3 := hide hX3
    have hXl : V.heap.size < X.heap.size ∧ w.heap.size < X.heap.size ∧ Sb < X.heap.size := by rw [hX]; exact ⟨hl2, hwl, hSl2⟩
    obtain ⟨hXl1, hXl2, hXl3⟩ := hXl
    clear hn2 hg2 hzok hgV hbX hsX hX3 HM hX hhp hz
    go_wp2_with fail
    refine anyE_region (L := 6) (S := fun w' : World => w' = X) (by kernel_rfl) ?_
    refine anyE_take 0 (v := ?v11) rfl (by kernel_rfl) (by kernel_rfl) (by kernel_rfl) (by kernel_rfl) (fun _ _ _ h => h) (by rfl) ?hy11 hS0 ?rest11
    case hy11 =>
      intro wx hx
      subst hx
      go_simp
      try rfl
    case rest11 =>
    intro K hK
    go_simp
    refine hK.out _ ?_
    clear hK K
    refine anyE_take 1 (v := ?v12) rfl (by kernel_rfl) (by kernel_rfl) (by kernel_rfl) (by kernel_rfl) (fun _ _ _ h => h) (by rfl) ?hy12 hS0 ?rest12
    case hy12 =>
      intro wx hx
      subst hx
      go_simp
      try rfl
    case rest12 =>
    intro K hK
    go_simp
    refine hK.out _ ?_
    clear hK K
    refine anyE_take 2 (v := ?v13) rfl (by kernel_rfl) (by kernel_rfl) (by kernel_rfl) (by kernel_rfl) (fun _ _ _ h => h) (by rfl) ?hy13 hS0 ?rest13
    case hy13 =>
      intro wx hx
      subst hx
      go_simp
      try rfl
    case rest13 =>
    intro K hK
    go_simp
    refine hK.out _ ?_
    clear hK K
    refine anyE_take 3 (v := ?v14) rfl (by kernel_rfl) (by kernel_rfl) (by kernel_rfl) (by kernel_rfl) (fun _ _ _ h => h) (by rfl) ?hy14 hS0 ?rest14
    case hy14 =>
      intro wx hx
      subst hx
      go_simp
      try rfl
    case rest14 =>
    intro K hK
    go_simp
    refine hK.out _ ?_
    clear hK K
    refine anyE_take 4 (v := ?v15) rfl (by kernel_rfl) (by kernel_rfl) (by kernel_rfl) (by kernel_rfl) (fun _ _ _ h => h) (by rfl) ?hy15 hS0 ?rest15
    case hy15 =>
      intro wx hx
      subst hx
      go_simp
      try rfl
    case rest15 =>
    intro K hK
    go_simp
    refine hK.out _ ?_
    clear hK K
    refine anyE_take 5 (v := ?v16) rfl (by kernel_rfl) (by kernel_rfl) (by kernel_rfl) (by kernel_rfl) (fun _ _ _ h => h) (by rfl) ?hy16 hS0 ?rest16
    case hy16 =>
      intro wx hx
      subst hx
      go_simp
      try rfl
    case rest16 =>
    intro K hK
    go_simp
    refine hK.out _ ?_
    clear hK K
    refine anyE_one 6 (by kernel_rfl) rfl (fun K hK => ?_)
    go_simp
    refine hK.out _ _ (fun h => absurd rfl h) ?_
    clear hK K
    refine anyE_done (by kernel_rfl) ?_ _
    go_wp2_with fail
    go_ret
    obtain ⟨e1, e2, e3⟩ := HE.out
    exact ⟨V.heap.size, clock + 1, _, _, _, rfl, e1, ⟨clock, by simp⟩, e3, ((grown_of HBV.out).but _).trans e2⟩
end Go.Proofs.YtpmpooekpeocdaaGreat
