/- Which node of the specification's trees stands for which tree. No program is walked here. -/
import Derived.Test.YtbgibiongnhjoaaGreatTrD
import Derived.Test.YtbgibiongnhjoaaGreatTFTree
import Derived.Test.YtbgibiongnhjoaaGreatTMkW
import Derived.Test.YtbgibiongnhjoaaGreatTrA
import Derived.Test.YtbgibiongnhjoaaGreatStF
namespace Go.Proofs.YtbgibiongnhjoaaGreat

theorem all_mono {P R : Hd → Nat → Prop} (h : ∀ x c, P x c → R x c) : ∀ {T : Tt}, T.all P → T.all R
  | .t0 _, hp => h _ _ hp
  | .t1 _ _, hp => ⟨h _ _ hp.1, all_mono h hp.2⟩
  | .t2 _ _ _, hp => ⟨h _ _ hp.1, all_mono h hp.2.1, all_mono h hp.2.2⟩
  | .t3 _ _ _ _, hp => ⟨h _ _ hp.1, all_mono h hp.2.1, all_mono h hp.2.2.1, all_mono h hp.2.2.2⟩
theorem node_var (h : Hd) (c : Nat) (hp : nodeP h c) : varP h c := by
  obtain ⟨h1, h2⟩ := hp
  refine ⟨fun e => ?_, fun hc e => ?_⟩
  · have hn := num_of h2 e
    have hn : 0 ≤ h.n ∧ h.n ≤ 20000 := hn
    refine ⟨hn.2, ?_⟩
    obtain ⟨k, n, m, s, lv⟩ := h
    simp only at e hn
    subst e
    simp only [tfieldsB, Bool.and_eq_true] at h2
    obtain ⟨⟨⟨_, hm⟩, hs⟩, hl⟩ := h2
    have hm0 : m = 0 := by
      have h3 : 0 ≤ m ∧ m ≤ gM 1 := by
        simp only [modeB, Bool.and_eq_true] at hm
        exact ⟨of_decide_eq_true hm.1, of_decide_eq_true hm.2⟩
      have : gM 1 = 0 := by decide
      omega
    have hl0 : lv = [] := by
      have h3 : (lv.length : Int) ≤ mostL 1 := by
        simp only [tlevB, Bool.and_eq_true] at hl
        exact of_decide_eq_true hl.1.2
      have : mostL 1 = 0 := by decide
      exact List.eq_nil_of_length_eq_zero (by omega)
    have hs0 : s = ⟨#[]⟩ := by
      have h3 : s.toList = [] := by simpa [tnameB, Hd.td, bindsB] using hs
      rw [ByteArray.toList_eq] at h3
      obtain ⟨⟨x⟩⟩ := s
      simp at h3
      rw [h3]
    rw [hm0, hl0, hs0]
  · rw [e] at h1
    have : tkidsN 1 = 0 := by decide
    omega
theorem at_some {ts : List Td} {i : Nat} {t : Td} (h : ts[i]? = some t) : ∃ hi : i < ts.length, ts[i] = t := List.getElem?_eq_some_iff.1 h
theorem zi_at {ts : List Td} {x y : Nat} (hy : 1 ≤ y) : zI (Zt ts) (((x + y : Nat) : Int) - 1) = zI (Zt ts) ((x + y - 1 : Nat) : Int) := by
  congr 1
  omega
/-- What is kept of a node is what its tree's root keeps. -/
theorem zt_is {ts : List Td} (hk : KidsIn ts ts.length) : ∀ (T : Tt) (o : Nat), (∀ j, j < (T.flat o).length → ts[o + j]? = (T.flat o)[j]?) → zI (Zt ts) ((o + T.cnt - 1 : Nat) : Int) = T.z
  | .t0 h, o, hs => by
    obtain ⟨hi, e⟩ := at_some (hs 0 (by simp [Tt.flat]))
    have hz := zt_eq ts o hi (hk o hi hi)
    rw [show ts[o] = h.td [] from e] at hz
    exact hz
  | .t1 h a, o, hs => by
    simp only [Tt.flat] at hs
    have ha := zt_is hk a o (sub_left hs)
    have hl := sub_right hs 0 (by simp)
    rw [a.flat_len] at hl
    obtain ⟨hi, e⟩ := at_some hl
    have hz := zt_eq ts (o + a.cnt) hi (hk _ hi hi)
    rw [show ts[o + a.cnt] = h.td [((o + a.cnt : Nat) : Int) - 1] from e] at hz
    simp only [Hd.td, List.map_cons, List.map_nil] at hz
    rw [zi_at a.cnt_pos, ha] at hz
    exact hz
  | .t2 h a b, o, hs => by
    simp only [Tt.flat] at hs
    have hab := sub_left hs
    have ha := zt_is hk a o (sub_left hab)
    have hb := sub_right hab
    rw [a.flat_len] at hb
    have hb := zt_is hk b (o + a.cnt) hb
    have hl := sub_right hs 0 (by simp)
    rw [List.length_append, a.flat_len, b.flat_len, ← Nat.add_assoc] at hl
    obtain ⟨hi, e⟩ := at_some hl
    have hz := zt_eq ts (o + a.cnt + b.cnt) hi (hk _ hi hi)
    rw [show ts[o + a.cnt + b.cnt] = h.td [((o + a.cnt : Nat) : Int) - 1, ((o + a.cnt + b.cnt : Nat) : Int) - 1] from e] at hz
    simp only [Hd.td, List.map_cons, List.map_nil] at hz
    rw [zi_at a.cnt_pos, zi_at b.cnt_pos, ha, hb] at hz
    rw [show o + (Tt.t2 h a b).cnt - 1 = o + a.cnt + b.cnt by simp only [Tt.cnt]; omega]
    exact hz
  | .t3 h a b d, o, hs => by
    simp only [Tt.flat] at hs
    have habd := sub_left hs
    have hab := sub_left habd
    have ha := zt_is hk a o (sub_left hab)
    have hb := sub_right hab
    have hd := sub_right habd
    rw [a.flat_len] at hb
    rw [List.length_append, a.flat_len, b.flat_len, ← Nat.add_assoc] at hd
    have hb := zt_is hk b (o + a.cnt) hb
    have hd := zt_is hk d (o + a.cnt + b.cnt) hd
    have hl := sub_right hs 0 (by simp)
    rw [List.length_append, List.length_append, a.flat_len, b.flat_len, d.flat_len, ← Nat.add_assoc, ← Nat.add_assoc] at hl
    obtain ⟨hi, e⟩ := at_some hl
    have hz := zt_eq ts (o + a.cnt + b.cnt + d.cnt) hi (hk _ hi hi)
    rw [show ts[o + a.cnt + b.cnt + d.cnt] = h.td [((o + a.cnt : Nat) : Int) - 1, ((o + a.cnt + b.cnt : Nat) : Int) - 1, ((o + a.cnt + b.cnt + d.cnt : Nat) : Int) - 1] from e] at hz
    simp only [Hd.td, List.map_cons, List.map_nil] at hz
    rw [zi_at a.cnt_pos, zi_at b.cnt_pos, zi_at d.cnt_pos, ha, hb, hd] at hz
    rw [show o + (Tt.t3 h a b d).cnt - 1 = o + a.cnt + b.cnt + d.cnt by simp only [Tt.cnt]; omega]
    exact hz
/-- A node of the specification's stands for a tree. -/
def SpT (Q : Nat → Prop) (w : World) : Tt → Nat → Prop
  | .t0 h, p => FnAt Q w p (h.td []) [] (Tt.t0 h).z
  | .t1 h a, p => ∃ pa, SpT Q w a pa ∧ FnAt Q w p (h.td []) [pa] (Tt.t1 h a).z
  | .t2 h a b, p => ∃ pa pb, SpT Q w a pa ∧ SpT Q w b pb ∧ FnAt Q w p (h.td []) [pa, pb] (Tt.t2 h a b).z
  | .t3 h a b c, p => ∃ pa pb pc, SpT Q w a pa ∧ SpT Q w b pb ∧ SpT Q w c pc ∧ FnAt Q w p (h.td []) [pa, pb, pc] (Tt.t3 h a b c).z
theorem forest_at {Q : Nat → Prop} {w : World} {pt : Nat → Nat} {ts : List Td} (F : Forest Q w pt ts ts.length) {i : Nat} {t : Td} (h : ts[i]? = some t) : FnAt Q w (pt i) t (t.kids.map (fun c => pt c.toNat)) (zI (Zt ts) (i : Int)) := by
  obtain ⟨hi, e⟩ := at_some h
  have := F i hi hi
  rw [e] at this
  exact this
theorem fn_td {Q : Nat → Prop} {w : World} {p : Nat} {h : Hd} {ks : List Int} {kp : List Nat} {z : Zs} (hf : FnAt Q w p (h.td ks) kp z) : FnAt Q w p (h.td []) kp z := hf
theorem forest_is {Q : Nat → Prop} {w : World} {pt : Nat → Nat} {ts : List Td} (hk : KidsIn ts ts.length) (F : Forest Q w pt ts ts.length) : ∀ (T : Tt) (o : Nat), (∀ j, j < (T.flat o).length → ts[o + j]? = (T.flat o)[j]?) → SpT Q w T (pt (o + T.cnt - 1))
  | .t0 h, o, hs => by
    have hf := forest_at F (hs 0 (by simp [Tt.flat]))
    have hz := zt_is hk (.t0 h) o hs
    have hf : FnAt Q w (pt o) (h.td []) [] (zI (Zt ts) (o : Int)) := hf
    have hz : zI (Zt ts) (o : Int) = (Tt.t0 h).z := hz
    rw [hz] at hf
    exact hf
  | .t1 h a, o, hs => by
    have hz := zt_is hk (.t1 h a) o hs
    simp only [Tt.flat] at hs
    have hl := sub_right hs 0 (by simp)
    rw [a.flat_len] at hl
    have hf := fn_td (forest_at F hl)
    simp only [Hd.td, List.map_cons, List.map_nil] at hf
    rw [pt_at (pt := pt) a.cnt_pos] at hf
    rw [show o + (Tt.t1 h a).cnt - 1 = o + a.cnt by simp only [Tt.cnt]; omega] at hz ⊢
    refine ⟨_, forest_is hk F a o (sub_left hs), ?_⟩
    have hf : FnAt Q w (pt (o + a.cnt)) (h.td []) [pt (o + a.cnt - 1)] (zI (Zt ts) ((o + a.cnt : Nat) : Int)) := hf
    rw [hz] at hf
    exact hf
  | .t2 h a b, o, hs => by
    have hz := zt_is hk (.t2 h a b) o hs
    simp only [Tt.flat] at hs
    have hab := sub_left hs
    have hb := sub_right hab
    rw [a.flat_len] at hb
    have hl := sub_right hs 0 (by simp)
    rw [List.length_append, a.flat_len, b.flat_len, ← Nat.add_assoc] at hl
    have hf := fn_td (forest_at F hl)
    simp only [Hd.td, List.map_cons, List.map_nil] at hf
    rw [pt_at (pt := pt) a.cnt_pos, pt_at (pt := pt) b.cnt_pos] at hf
    rw [show o + (Tt.t2 h a b).cnt - 1 = o + a.cnt + b.cnt by simp only [Tt.cnt]; omega] at hz ⊢
    refine ⟨_, _, forest_is hk F a o (sub_left hab), forest_is hk F b (o + a.cnt) hb, ?_⟩
    have hf : FnAt Q w (pt (o + a.cnt + b.cnt)) (h.td []) [pt (o + a.cnt - 1), pt (o + a.cnt + b.cnt - 1)] (zI (Zt ts) ((o + a.cnt + b.cnt : Nat) : Int)) := hf
    rw [hz] at hf
    exact hf
  | .t3 h a b d, o, hs => by
    have hz := zt_is hk (.t3 h a b d) o hs
    simp only [Tt.flat] at hs
    have habd := sub_left hs
    have hab := sub_left habd
    have hb := sub_right hab
    have hd := sub_right habd
    rw [a.flat_len] at hb
    rw [List.length_append, a.flat_len, b.flat_len, ← Nat.add_assoc] at hd
    have hl := sub_right hs 0 (by simp)
    rw [List.length_append, List.length_append, a.flat_len, b.flat_len, d.flat_len, ← Nat.add_assoc, ← Nat.add_assoc] at hl
    have hf := fn_td (forest_at F hl)
    simp only [Hd.td, List.map_cons, List.map_nil] at hf
    rw [pt_at (pt := pt) a.cnt_pos, pt_at (pt := pt) b.cnt_pos, pt_at (pt := pt) d.cnt_pos] at hf
    rw [show o + (Tt.t3 h a b d).cnt - 1 = o + a.cnt + b.cnt + d.cnt by simp only [Tt.cnt]; omega] at hz ⊢
    refine ⟨_, _, _, forest_is hk F a o (sub_left hab), forest_is hk F b (o + a.cnt) hb, forest_is hk F d (o + a.cnt + b.cnt) hd, ?_⟩
    have hf : FnAt Q w (pt (o + a.cnt + b.cnt + d.cnt)) (h.td []) [pt (o + a.cnt - 1), pt (o + a.cnt + b.cnt - 1), pt (o + a.cnt + b.cnt + d.cnt - 1)] (zI (Zt ts) ((o + a.cnt + b.cnt + d.cnt : Nat) : Int)) := hf
    rw [hz] at hf
    exact hf
/-- The root that l3Tree answers stands for the term's tree. -/
theorem forest_root {Q : Nat → Prop} {w : World} {pt : Nat → Nat} {ts : List Td} (hk : KidsIn ts ts.length) (F : Forest Q w pt ts ts.length) {T : Tt} (hT : T.flat 0 = ts) : SpT Q w T (pt (ts.length - 1)) := by
  have h := forest_is hk F T 0 (fun j _ => by rw [hT, Nat.zero_add])
  have hc : T.cnt = ts.length := by rw [← T.flat_len 0, hT]
  rw [hc, Nat.zero_add] at h
  exact h
end Go.Proofs.YtbgibiongnhjoaaGreat

/- What the specification's l3Make answers where a node may be too great. -/
namespace Go.Proofs.YtbgibiongnhjoaaGreat
open Go.ChangeShapes Go.WideShapes Go.ChangeAt Go.RowKit

def zsat (z : Zs) : Zs := ⟨if 20000 < z.sz then 20001 else z.sz, z.lo, z.ho⟩
/-- What is kept of a node that may be too great. -/
def zmkG (k n : Int) (zs : List Zs) : Zs := zsat (if k = 1 ∧ 20000 < n then ⟨20001, n + 1, false⟩ else zmk k n zs)
end Go.Proofs.YtbgibiongnhjoaaGreat

/- Trees of the specification's that may be too great. No program is walked here. -/
namespace Go.Proofs.YtbgibiongnhjoaaGreat

/-- What the root of a tree keeps of it, where it may be too great. -/
def Tt.zG : Tt → Zs
  | .t0 h => zmkG h.k h.n []
  | .t1 h a => zmkG h.k h.n [a.zG]
  | .t2 h a b => zmkG h.k h.n [a.zG, b.zG]
  | .t3 h a b c => zmkG h.k h.n [a.zG, b.zG, c.zG]
theorem zmkG_eq (k n : Int) (zs : List Zs) (hn : k = 1 → n ≤ 20000) (hs : 1 + sumZ zs ≤ 20000) : zmkG k n zs = zmk k n zs := by
  unfold zmkG
  rw [if_neg (fun h => by have := hn h.1; omega)]
  unfold zsat
  rw [if_neg (by show ¬ 20000 < 1 + sumZ zs; omega)]
/-- A tree that is not too great keeps what it kept. -/
theorem zG_eq : ∀ T : Tt, T.all varP → T.cnt ≤ 20000 → T.zG = T.z
  | .t0 h, hp, hc => zmkG_eq _ _ _ (fun e => (hp.1 e).1) (by simp [sumZ])
  | .t1 h a, hp, hc => by
    simp only [Tt.cnt] at hc
    have ea := zG_eq a hp.2 (by omega)
    have sa := a.z_sz
    simp only [Tt.zG, Tt.z]
    rw [ea]
    exact zmkG_eq _ _ _ (fun e => (hp.1.1 e).1) (by simp only [sumZ]; omega)
  | .t2 h a b, hp, hc => by
    simp only [Tt.cnt] at hc
    have ea := zG_eq a hp.2.1 (by omega)
    have eb := zG_eq b hp.2.2 (by omega)
    have sa := a.z_sz
    have sb := b.z_sz
    simp only [Tt.zG, Tt.z]
    rw [ea, eb]
    exact zmkG_eq _ _ _ (fun e => (hp.1.1 e).1) (by simp only [sumZ]; omega)
  | .t3 h a b c, hp, hc => by
    simp only [Tt.cnt] at hc
    have ea := zG_eq a hp.2.1 (by omega)
    have eb := zG_eq b hp.2.2.1 (by omega)
    have ec := zG_eq c hp.2.2.2 (by omega)
    have sa := a.z_sz
    have sb := b.z_sz
    have sc := c.z_sz
    simp only [Tt.zG, Tt.z]
    rw [ea, eb, ec]
    exact zmkG_eq _ _ _ (fun e => (hp.1.1 e).1) (by simp only [sumZ]; omega)
end Go.Proofs.YtbgibiongnhjoaaGreat

/- Applying a tree to others, and taking it apart. No program is walked here. -/
namespace Go.Proofs.YtbgibiongnhjoaaGreat

/-- The head and the arguments of a tree. -/
def spineT : Tt → Tt × List Tt
  | .t0 h => (.t0 h, [])
  | .t1 h a => (.t1 h a, [])
  | .t2 h a b => if h.k = 4 then ((spineT a).1, (spineT a).2 ++ [b]) else (.t2 h a b, [])
  | .t3 h a b c => (.t3 h a b c, [])
end Go.Proofs.YtbgibiongnhjoaaGreat

/- What stays of a world but for some blocks. No program is walked here. -/
namespace Go.Proofs.YtbgibiongnhjoaaGreat
open Go.ChangeShapes Go.WideShapes Go.ChangeAt Go.RowKit

/-- Of what was there only the blocks of C may have changed. -/
structure KeptX (C : Nat → Prop) (w w' : World) : Prop where
  os : w'.os = w.os
  tape : w'.tape = w.tape
  output : w'.output = w.output
  size : w.heap.size ≤ w'.heap.size
  block : ∀ k, k < w.heap.size → ¬ C k → w'.heap[k]? = w.heap[k]?
theorem KeptX.trans {C : Nat → Prop} {a b c : World} (h : KeptX C a b) (k : KeptX C b c) : KeptX C a c :=
  ⟨k.os.trans h.os, k.tape.trans h.tape, k.output.trans h.output, Nat.le_trans h.size k.size, fun i hi hc => (k.block i (Nat.lt_of_lt_of_le hi h.size) hc).trans (h.block i hi hc)⟩
theorem KeptX.of {C : Nat → Prop} {w w' : World} (h : Below w.heap.size w w') : KeptX C w w' := ⟨h.os, h.tape, h.output, h.size, fun k hk _ => h.block k hk⟩
theorem KeptX.grown {C : Nat → Prop} {w w' : World} {r : Option Nat} (h : w.grownBy w' r) (hr : ∀ b, r = some b → C b) : KeptX C w w' :=
  ⟨h.os, h.tape, h.output, h.size, fun k hk hc => h.block k hk (fun e => hc (hr k e.symm))⟩
theorem KeptX.mono {C D : Nat → Prop} {w w' : World} (h : KeptX C w w') (hc : ∀ k, k < w.heap.size → C k → D k) : KeptX D w w' := ⟨h.os, h.tape, h.output, h.size, fun k hk hd => h.block k hk (fun hk2 => hd (hc k hk hk2))⟩
end Go.Proofs.YtbgibiongnhjoaaGreat

/- The program's fold over nodes, kid by kid; which nodes of the store stand for which trees. No program is walked here. -/
namespace Go.Proofs.YtbgibiongnhjoaaGreat
open Go.ChangeShapes Go.WideShapes Go.ChangeAt Go.RowKit

theorem kids_le (T : Tt) : T.kids.length ≤ 3 := by cases T <;> simp [Tt.kids]
theorem kid_cnt (T : Tt) (j : Nat) (h : j < T.kids.length) : T.kids[j].cnt < T.cnt := by
  cases T with
  | t0 hd => simp [Tt.kids] at h
  | t1 hd a =>
    have e : j = 0 := by simp [Tt.kids] at h; omega
    subst e; simp [Tt.kids, Tt.cnt]
  | t2 hd a b =>
    rcases (show j = 0 ∨ j = 1 by simp [Tt.kids] at h; omega) with rfl | rfl <;> simp [Tt.kids, Tt.cnt] <;> omega
  | t3 hd a b c =>
    rcases (show j = 0 ∨ j = 1 ∨ j = 2 by simp [Tt.kids] at h; omega) with rfl | rfl | rfl <;> simp [Tt.kids, Tt.cnt] <;> omega
theorem kid_all' {P : Hd → Nat → Prop} (T : Tt) (hp : T.all P) (j : Nat) (h : j < T.kids.length) : T.kids[j].all P := by
  cases T with
  | t0 hd => simp [Tt.kids] at h
  | t1 hd a =>
    have e : j = 0 := by simp [Tt.kids] at h; omega
    subst e; exact hp.2
  | t2 hd a b =>
    rcases (show j = 0 ∨ j = 1 by simp [Tt.kids] at h; omega) with rfl | rfl
    · exact hp.2.1
    · exact hp.2.2
  | t3 hd a b c =>
    rcases (show j = 0 ∨ j = 1 ∨ j = 2 by simp [Tt.kids] at h; omega) with rfl | rfl | rfl
    · exact hp.2.1
    · exact hp.2.2.1
    · exact hp.2.2.2
theorem hd_all {P : Hd → Nat → Prop} (T : Tt) (hp : T.all P) : P T.hd T.kids.length := by
  cases T with
  | t0 hd => exact hp
  | t1 hd a => exact hp.1
  | t2 hd a b => exact hp.1
  | t3 hd a b c => exact hp.1
theorem mk_kids (T : Tt) : Tt.mk T.hd T.kids = T := by cases T <;> rfl
/-- A node's key, its kids as a list. -/
def keyP (h : Hd) (ps : List Nat) : Nk := keyH h ps[0]? ps[1]? ps[2]?
theorem keyP_kid (h : Hd) (ps : List Nat) (h3 : ps.length ≤ 3) (j : Nat) : (keyP h ps).kid j = ps[j]? := by
  rcases (show j = 0 ∨ j = 1 ∨ j = 2 ∨ 3 ≤ j by omega) with rfl | rfl | rfl | h
  · rfl
  · rfl
  · rfl
  · rw [List.getElem?_eq_none (by omega)]
    obtain ⟨n, rfl⟩ : ∃ n, j = n + 3 := ⟨j - 3, by omega⟩
    rfl
theorem ist_open {L : List (Nk × Nat × Nat)} {T : Tt} {b : Nat} (h : IsT L T b) : ∃ (ps : List Nat) (c : Nat), ps.length = T.kids.length ∧ (keyP T.hd ps, b, c) ∈ L ∧ ∀ j (h1 : j < ps.length) (h2 : j < T.kids.length), IsT L T.kids[j] ps[j] := by
  cases T with
  | t0 hd => obtain ⟨c, h⟩ := h; exact ⟨[], c, rfl, h, fun j h1 => by simp at h1⟩
  | t1 hd x =>
    obtain ⟨p, c, h1, h⟩ := h
    refine ⟨[p], c, rfl, h, fun j h2 h3 => ?_⟩
    have e : j = 0 := by simp at h2; omega
    subst e; exact h1
  | t2 hd x y =>
    obtain ⟨p, q, c, h1, h2, h⟩ := h
    refine ⟨[p, q], c, rfl, h, fun j h3 h4 => ?_⟩
    rcases (show j = 0 ∨ j = 1 by simp at h3; omega) with rfl | rfl
    · exact h1
    · exact h2
  | t3 hd x y z =>
    obtain ⟨p, q, r, c, h1, h2, h3, h⟩ := h
    refine ⟨[p, q, r], c, rfl, h, fun j h4 h5 => ?_⟩
    rcases (show j = 0 ∨ j = 1 ∨ j = 2 by simp at h4; omega) with rfl | rfl | rfl
    · exact h1
    · exact h2
    · exact h3
theorem ent_arity {base : Nat} {w : World} {L : List (Nk × Nat × Nat)} {Z : Nat → Zs} {H : Nat → Bool} {h : Hd} {ps : List Nat} {b : Nat} (he : EntOk base w L Z H (keyP h ps) b) (h3 : ps.length ≤ 3) : tkidsN h.k = ps.length := by
  have h0 : 0 ≤ tkidsN h.k := he.k0
  have hk3 : tkidsN h.k ≤ 3 := tkids_le h.k
  by_cases e : tkidsN h.k < ps.length
  · have := he.nok (tkidsN h.k).toNat (by show tkidsN h.k ≤ _; omega)
    rw [keyP_kid h ps h3, List.getElem?_eq_getElem (by omega)] at this
    cases this
  · by_cases e2 : (ps.length : Int) < tkidsN h.k
    · obtain ⟨y, _, hy⟩ := he.kid ps.length e2
      rw [keyP_kid h ps h3, List.getElem?_eq_none (by omega)] at hy
      cases hy
    · omega
theorem z_mk (T : Tt) : T.z = zmk T.hd.k T.hd.n (T.kids.map Tt.z) := by cases T <;> rfl
/-- What the store keeps of a node is what its tree's root keeps. -/
theorem ist_z {base : Nat} {w : World} {Sb mb gb clock : Nat} {L : List (Nk × Nat × Nat)} {Z : Nat → Zs} {H : Nat → Bool} (hs : St base w Sb mb gb clock L Z H) : ∀ (n : Nat) (T : Tt) (b : Nat), T.cnt ≤ n → IsT L T b → Z b = T.z
  | 0, T, _, h, _ => by have := T.cnt_pos; omega
  | n + 1, T, b, hn, h => by
    obtain ⟨ps, c, hl, hm, hk⟩ := ist_open h
    have he := hs.ents _ hm
    have h3 : ps.length ≤ 3 := by have := kids_le T; omega
    have ha := ent_arity he h3
    have e : (tkidsN T.hd.k).toNat = ps.length := by omega
    rw [he.z, z_mk T]
    show zmk T.hd.k T.hd.n ((List.range (tkidsN T.hd.k).toNat).map (fun j => Z (((keyP T.hd ps).kid j).getD 0))) = _
    rw [e]
    congr 1
    apply List.ext_getElem
    · simp [hl]
    · intro j h1 h2
      have hj : j < ps.length := by simpa using h1
      have hj2 : j < T.kids.length := by omega
      simp only [List.getElem_map, List.getElem_range]
      rw [keyP_kid _ _ h3, List.getElem?_eq_getElem hj]
      exact ist_z hs n _ _ (by have := kid_cnt T j hj2; omega) (hk j hj hj2)
theorem ist_lt {base : Nat} {w : World} {Sb mb gb clock : Nat} {L : List (Nk × Nat × Nat)} {Z : Nat → Zs} {H : Nat → Bool} (hs : St base w Sb mb gb clock L Z H) {T : Tt} {b : Nat} (h : IsT L T b) : T.cnt ≤ 20000 ∧ b ≠ gb ∧ b ≠ mb ∧ b < w.heap.size := by
  have hz := ist_z hs T.cnt T b (Nat.le_refl _) h
  obtain ⟨ps, c, hl, hm, hk⟩ := ist_open h
  have he := (hs.ents _ hm).ok.2
  have he : (Z b).sz ≤ 20000 := he
  rw [hz, T.z_sz] at he
  exact ⟨by omega, hs.gne _ hm, (hs.lt _ hm).2, (hs.lt _ hm).1⟩
end Go.Proofs.YtbgibiongnhjoaaGreat
