/- Which node of the specification's trees stands for which tree. No program is walked here. -/
import Derived.Test.YtpmpooekpeocdaaGreatTrC
import Derived.Test.YtpmpooekpeocdaaGreatTFTree
import Derived.Test.YtpmpooekpeocdaaGreatTrA
import Derived.Test.YtpmpooekpeocdaaGreatTMkW
import Derived.Test.YtpmpooekpeocdaaGreatStF
namespace Go.Proofs.YtpmpooekpeocdaaGreat

theorem at_some {ts : List Td} {i : Nat} {t : Td} (h : ts[i]? = some t) : ∃ hi : i < ts.length, ts[i] = t := List.getElem?_eq_some_iff.1 h
theorem zi_at {ts : List Td} {x y : Nat} (hy : 1 ≤ y) : zI (Zt ts) (((x + y : Nat) : Int) - 1) = zI (Zt ts) ((x + y - 1 : Nat) : Int) := by
  congr 1
  omega
/-- What is kept of a node is what its tree's root keeps. -/
theorem zt_is {ts : List Td} (hk : KidsIn ts ts.length) : ∀ (T : Tt) (o : Nat), (∀ j, j < (T.flat o).length → ts[o + j]? = (T.flat o)[j]?) → zI (Zt ts) ((o + T.cnt - 1 : Nat) : Int) = T.z
  | .t0 h, o, hs => by
    obtain ⟨hi, e⟩ := at_some (hs 0 (by simp [Tt.flat]))
    have hz := zt_eq ts o hi (hk o hi hi)
    rw [show ts[o] = h.td [] from e] at hz
    exact hz
  | .t1 h a, o, hs => by
    simp only [Tt.flat] at hs
    have ha := zt_is hk a o (sub_left hs)
    have hl := sub_right hs 0 (by simp)
    rw [a.flat_len] at hl
    obtain ⟨hi, e⟩ := at_some hl
    have hz := zt_eq ts (o + a.cnt) hi (hk _ hi hi)
    rw [show ts[o + a.cnt] = h.td [((o + a.cnt : Nat) : Int) - 1] from e] at hz
    simp only [Hd.td, List.map_cons, List.map_nil] at hz
    rw [zi_at a.cnt_pos, ha] at hz
    exact hz
  | .t2 h a b, o, hs => by
    simp only [Tt.flat] at hs
    have hab := sub_left hs
    have ha := zt_is hk a o (sub_left hab)
    have hb := sub_right hab
    rw [a.flat_len] at hb
    have hb := zt_is hk b (o + a.cnt) hb
    have hl := sub_right hs 0 (by simp)
    rw [List.length_append, a.flat_len, b.flat_len, ← Nat.add_assoc] at hl
    obtain ⟨hi, e⟩ := at_some hl
    have hz := zt_eq ts (o + a.cnt + b.cnt) hi (hk _ hi hi)
    rw [show ts[o + a.cnt + b.cnt] = h.td [((o + a.cnt : Nat) : Int) - 1, ((o + a.cnt + b.cnt : Nat) : Int) - 1] from e] at hz
    simp only [Hd.td, List.map_cons, List.map_nil] at hz
    rw [zi_at a.cnt_pos, zi_at b.cnt_pos, ha, hb] at hz
    rw [show o + (Tt.t2 h a b).cnt - 1 = o + a.cnt + b.cnt by simp only [Tt.cnt]; omega]
    exact hz
  | .t3 h a b d, o, hs => by
    simp only [Tt.flat] at hs
    have habd := sub_left hs
    have hab := sub_left habd
    have ha := zt_is hk a o (sub_left hab)
    have hb := sub_right hab
    have hd := sub_right habd
    rw [a.flat_len] at hb
    rw [List.length_append, a.flat_len, b.flat_len, ← Nat.add_assoc] at hd
    have hb := zt_is hk b (o + a.cnt) hb
    have hd := zt_is hk d (o + a.cnt + b.cnt) hd
    have hl := sub_right hs 0 (by simp)
    rw [List.length_append, List.length_append, a.flat_len, b.flat_len, d.flat_len, ← Nat.add_assoc, ← Nat.add_assoc] at hl
    obtain ⟨hi, e⟩ := at_some hl
    have hz := zt_eq ts (o + a.cnt + b.cnt + d.cnt) hi (hk _ hi hi)
    rw [show ts[o + a.cnt + b.cnt + d.cnt] = h.td [((o + a.cnt : Nat) : Int) - 1, ((o + a.cnt + b.cnt : Nat) : Int) - 1, ((o + a.cnt + b.cnt + d.cnt : Nat) : Int) - 1] from e] at hz
    simp only [Hd.td, List.map_cons, List.map_nil] at hz
    rw [zi_at a.cnt_pos, zi_at b.cnt_pos, zi_at d.cnt_pos, ha, hb, hd] at hz
    rw [show o + (Tt.t3 h a b d).cnt - 1 = o + a.cnt + b.cnt + d.cnt by simp only [Tt.cnt]; omega]
    exact hz
/-- A node of the specification's stands for a tree. -/
def SpT (Q : Nat → Prop) (w : World) : Tt → Nat → Prop
  | .t0 h, p => FnAt Q w p (h.td []) [] (Tt.t0 h).z
  | .t1 h a, p => ∃ pa, SpT Q w a pa ∧ FnAt Q w p (h.td []) [pa] (Tt.t1 h a).z
  | .t2 h a b, p => ∃ pa pb, SpT Q w a pa ∧ SpT Q w b pb ∧ FnAt Q w p (h.td []) [pa, pb] (Tt.t2 h a b).z
  | .t3 h a b c, p => ∃ pa pb pc, SpT Q w a pa ∧ SpT Q w b pb ∧ SpT Q w c pc ∧ FnAt Q w p (h.td []) [pa, pb, pc] (Tt.t3 h a b c).z
theorem SpT.to {Q R : Nat → Prop} {w w' : World} (hc : Carry Q R w w') : ∀ {T : Tt} {p : Nat}, SpT Q w T p → SpT R w' T p
  | .t0 _, _, h => FnAt.to h hc
  | .t1 _ _, _, ⟨pa, h1, h⟩ => ⟨pa, h1.to hc, FnAt.to h hc⟩
  | .t2 _ _ _, _, ⟨pa, pb, h1, h2, h⟩ => ⟨pa, pb, h1.to hc, h2.to hc, FnAt.to h hc⟩
  | .t3 _ _ _ _, _, ⟨pa, pb, pc, h1, h2, h3, h⟩ => ⟨pa, pb, pc, h1.to hc, h2.to hc, h3.to hc, FnAt.to h hc⟩
theorem forest_at {Q : Nat → Prop} {w : World} {pt : Nat → Nat} {ts : List Td} (F : Forest Q w pt ts ts.length) {i : Nat} {t : Td} (h : ts[i]? = some t) : FnAt Q w (pt i) t (t.kids.map (fun c => pt c.toNat)) (zI (Zt ts) (i : Int)) := by
  obtain ⟨hi, e⟩ := at_some h
  have := F i hi hi
  rw [e] at this
  exact this
theorem fn_td {Q : Nat → Prop} {w : World} {p : Nat} {h : Hd} {ks : List Int} {kp : List Nat} {z : Zs} (hf : FnAt Q w p (h.td ks) kp z) : FnAt Q w p (h.td []) kp z := hf
theorem forest_is {Q : Nat → Prop} {w : World} {pt : Nat → Nat} {ts : List Td} (hk : KidsIn ts ts.length) (F : Forest Q w pt ts ts.length) : ∀ (T : Tt) (o : Nat), (∀ j, j < (T.flat o).length → ts[o + j]? = (T.flat o)[j]?) → SpT Q w T (pt (o + T.cnt - 1))
  | .t0 h, o, hs => by
    have hf := forest_at F (hs 0 (by simp [Tt.flat]))
    have hz := zt_is hk (.t0 h) o hs
    have hf : FnAt Q w (pt o) (h.td []) [] (zI (Zt ts) (o : Int)) := hf
    have hz : zI (Zt ts) (o : Int) = (Tt.t0 h).z := hz
    rw [hz] at hf
    exact hf
  | .t1 h a, o, hs => by
    have hz := zt_is hk (.t1 h a) o hs
    simp only [Tt.flat] at hs
    have hl := sub_right hs 0 (by simp)
    rw [a.flat_len] at hl
    have hf := fn_td (forest_at F hl)
    simp only [Hd.td, List.map_cons, List.map_nil] at hf
    rw [pt_at (pt := pt) a.cnt_pos] at hf
    rw [show o + (Tt.t1 h a).cnt - 1 = o + a.cnt by simp only [Tt.cnt]; omega] at hz ⊢
    refine ⟨_, forest_is hk F a o (sub_left hs), ?_⟩
    have hf : FnAt Q w (pt (o + a.cnt)) (h.td []) [pt (o + a.cnt - 1)] (zI (Zt ts) ((o + a.cnt : Nat) : Int)) := hf
    rw [hz] at hf
    exact hf
  | .t2 h a b, o, hs => by
    have hz := zt_is hk (.t2 h a b) o hs
    simp only [Tt.flat] at hs
    have hab := sub_left hs
    have hb := sub_right hab
    rw [a.flat_len] at hb
    have hl := sub_right hs 0 (by simp)
    rw [List.length_append, a.flat_len, b.flat_len, ← Nat.add_assoc] at hl
    have hf := fn_td (forest_at F hl)
    simp only [Hd.td, List.map_cons, List.map_nil] at hf
    rw [pt_at (pt := pt) a.cnt_pos, pt_at (pt := pt) b.cnt_pos] at hf
    rw [show o + (Tt.t2 h a b).cnt - 1 = o + a.cnt + b.cnt by simp only [Tt.cnt]; omega] at hz ⊢
    refine ⟨_, _, forest_is hk F a o (sub_left hab), forest_is hk F b (o + a.cnt) hb, ?_⟩
    have hf : FnAt Q w (pt (o + a.cnt + b.cnt)) (h.td []) [pt (o + a.cnt - 1), pt (o + a.cnt + b.cnt - 1)] (zI (Zt ts) ((o + a.cnt + b.cnt : Nat) : Int)) := hf
    rw [hz] at hf
    exact hf
  | .t3 h a b d, o, hs => by
    have hz := zt_is hk (.t3 h a b d) o hs
    simp only [Tt.flat] at hs
    have habd := sub_left hs
    have hab := sub_left habd
    have hb := sub_right hab
    have hd := sub_right habd
    rw [a.flat_len] at hb
    rw [List.length_append, a.flat_len, b.flat_len, ← Nat.add_assoc] at hd
    have hl := sub_right hs 0 (by simp)
    rw [List.length_append, List.length_append, a.flat_len, b.flat_len, d.flat_len, ← Nat.add_assoc, ← Nat.add_assoc] at hl
    have hf := fn_td (forest_at F hl)
    simp only [Hd.td, List.map_cons, List.map_nil] at hf
    rw [pt_at (pt := pt) a.cnt_pos, pt_at (pt := pt) b.cnt_pos, pt_at (pt := pt) d.cnt_pos] at hf
    rw [show o + (Tt.t3 h a b d).cnt - 1 = o + a.cnt + b.cnt + d.cnt by simp only [Tt.cnt]; omega] at hz ⊢
    refine ⟨_, _, _, forest_is hk F a o (sub_left hab), forest_is hk F b (o + a.cnt) hb, forest_is hk F d (o + a.cnt + b.cnt) hd, ?_⟩
    have hf : FnAt Q w (pt (o + a.cnt + b.cnt + d.cnt)) (h.td []) [pt (o + a.cnt - 1), pt (o + a.cnt + b.cnt - 1), pt (o + a.cnt + b.cnt + d.cnt - 1)] (zI (Zt ts) ((o + a.cnt + b.cnt + d.cnt : Nat) : Int)) := hf
    rw [hz] at hf
    exact hf
/-- The root that l3Tree answers stands for the term's tree. -/
theorem forest_root {Q : Nat → Prop} {w : World} {pt : Nat → Nat} {ts : List Td} (hk : KidsIn ts ts.length) (F : Forest Q w pt ts ts.length) {T : Tt} (hT : T.flat 0 = ts) : SpT Q w T (pt (ts.length - 1)) := by
  have h := forest_is hk F T 0 (fun j _ => by rw [hT, Nat.zero_add])
  have hc : T.cnt = ts.length := by rw [← T.flat_len 0, hT]
  rw [hc, Nat.zero_add] at h
  exact h
end Go.Proofs.YtpmpooekpeocdaaGreat

/- What stays of a world but for some blocks. No program is walked here. -/
namespace Go.Proofs.YtpmpooekpeocdaaGreat
open Go.ChangeShapes Go.WideShapes Go.ChangeAt Go.RowKit

/-- Of what was there only the blocks of C may have changed. -/
structure KeptX (C : Nat → Prop) (w w' : World) : Prop where
  os : w'.os = w.os
  tape : w'.tape = w.tape
  output : w'.output = w.output
  size : w.heap.size ≤ w'.heap.size
  block : ∀ k, k < w.heap.size → ¬ C k → w'.heap[k]? = w.heap[k]?
theorem KeptX.trans {C : Nat → Prop} {a b c : World} (h : KeptX C a b) (k : KeptX C b c) : KeptX C a c :=
  ⟨k.os.trans h.os, k.tape.trans h.tape, k.output.trans h.output, Nat.le_trans h.size k.size, fun i hi hc => (k.block i (Nat.lt_of_lt_of_le hi h.size) hc).trans (h.block i hi hc)⟩
theorem KeptX.of {C : Nat → Prop} {w w' : World} (h : Below w.heap.size w w') : KeptX C w w' := ⟨h.os, h.tape, h.output, h.size, fun k hk _ => h.block k hk⟩
theorem KeptX.grown {C : Nat → Prop} {w w' : World} {r : Option Nat} (h : w.grownBy w' r) (hr : ∀ b, r = some b → C b) : KeptX C w w' :=
  ⟨h.os, h.tape, h.output, h.size, fun k hk hc => h.block k hk (fun e => hc (hr k e.symm))⟩
theorem KeptX.mono {C D : Nat → Prop} {w w' : World} (h : KeptX C w w') (hc : ∀ k, k < w.heap.size → C k → D k) : KeptX D w w' := ⟨h.os, h.tape, h.output, h.size, fun k hk hd => h.block k hk (fun hk2 => hd (hc k hk hk2))⟩
theorem KeptX.cell {C : Nat → Prop} {w w' : World} (h : KeptX C w w') {b o : Nat} {v : Value} (hb : ¬ C b) (hc : w.cell? ⟨b, o, none⟩ = some v) : w'.cell? ⟨b, o, none⟩ = some v := by
  rw [World.cell?_of_block (w := w) (a := ⟨b, o, none⟩) (h.block b (lt_cell hc) hb)]; exact hc
end Go.Proofs.YtpmpooekpeocdaaGreat

/- The program's fold over nodes, kid by kid; which nodes of the store stand for which trees. No program is walked here. -/
namespace Go.Proofs.YtpmpooekpeocdaaGreat
open Go.ChangeShapes Go.WideShapes Go.ChangeAt Go.RowKit

theorem kids_le (T : Tt) : T.kids.length ≤ 3 := by cases T <;> simp [Tt.kids]
theorem hd_all {P : Hd → Nat → Prop} (T : Tt) (hp : T.all P) : P T.hd T.kids.length := by
  cases T with
  | t0 hd => exact hp
  | t1 hd a => exact hp.1
  | t2 hd a b => exact hp.1
  | t3 hd a b c => exact hp.1
/-- A node's key, its kids as a list. -/
def keyP (h : Hd) (ps : List Nat) : Nk := keyH h ps[0]? ps[1]? ps[2]?
theorem keyP_kid (h : Hd) (ps : List Nat) (h3 : ps.length ≤ 3) (j : Nat) : (keyP h ps).kid j = ps[j]? := by
  rcases (show j = 0 ∨ j = 1 ∨ j = 2 ∨ 3 ≤ j by omega) with rfl | rfl | rfl | h
  · rfl
  · rfl
  · rfl
  · rw [List.getElem?_eq_none (by omega)]
    obtain ⟨n, rfl⟩ : ∃ n, j = n + 3 := ⟨j - 3, by omega⟩
    rfl
theorem ist_open {L : List (Nk × Nat × Nat)} {T : Tt} {b : Nat} (h : IsT L T b) : ∃ (ps : List Nat) (c : Nat), ps.length = T.kids.length ∧ (keyP T.hd ps, b, c) ∈ L ∧ ∀ j (h1 : j < ps.length) (h2 : j < T.kids.length), IsT L T.kids[j] ps[j] := by
  cases T with
  | t0 hd => obtain ⟨c, h⟩ := h; exact ⟨[], c, rfl, h, fun j h1 => by simp at h1⟩
  | t1 hd x =>
    obtain ⟨p, c, h1, h⟩ := h
    refine ⟨[p], c, rfl, h, fun j h2 h3 => ?_⟩
    have e : j = 0 := by simp at h2; omega
    subst e; exact h1
  | t2 hd x y =>
    obtain ⟨p, q, c, h1, h2, h⟩ := h
    refine ⟨[p, q], c, rfl, h, fun j h3 h4 => ?_⟩
    rcases (show j = 0 ∨ j = 1 by simp at h3; omega) with rfl | rfl
    · exact h1
    · exact h2
  | t3 hd x y z =>
    obtain ⟨p, q, r, c, h1, h2, h3, h⟩ := h
    refine ⟨[p, q, r], c, rfl, h, fun j h4 h5 => ?_⟩
    rcases (show j = 0 ∨ j = 1 ∨ j = 2 by simp at h4; omega) with rfl | rfl | rfl
    · exact h1
    · exact h2
    · exact h3
theorem ent_arity {base : Nat} {w : World} {L : List (Nk × Nat × Nat)} {Z : Nat → Zs} {H : Nat → Bool} {h : Hd} {ps : List Nat} {b : Nat} (he : EntOk base w L Z H (keyP h ps) b) (h3 : ps.length ≤ 3) : tkidsN h.k = ps.length := by
  have h0 : 0 ≤ tkidsN h.k := he.k0
  have hk3 : tkidsN h.k ≤ 3 := tkids_le h.k
  by_cases e : tkidsN h.k < ps.length
  · have := he.nok (tkidsN h.k).toNat (by show tkidsN h.k ≤ _; omega)
    rw [keyP_kid h ps h3, List.getElem?_eq_getElem (by omega)] at this
    cases this
  · by_cases e2 : (ps.length : Int) < tkidsN h.k
    · obtain ⟨y, _, hy⟩ := he.kid ps.length e2
      rw [keyP_kid h ps h3, List.getElem?_eq_none (by omega)] at hy
      cases hy
    · omega
end Go.Proofs.YtpmpooekpeocdaaGreat
