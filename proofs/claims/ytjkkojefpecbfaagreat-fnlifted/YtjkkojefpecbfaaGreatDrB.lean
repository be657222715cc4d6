/- Plain facts about putting levels: the program's tree and the specification's, and the row of nodes of a tree. -/
import Derived.Test.YtjkkojefpecbfaaGreatDrawW
import Derived.Test.YtjkkojefpecbfaaGreatFits
import Derived.Test.YtjkkojefpecbfaaGreatAnyC
import Derived.Test.YtjkkojefpecbfaaGreatSpF
namespace Go.Proofs.YtjkkojefpecbfaaGreat
open Go.ChangeShapes Go.WideShapes Go.ChangeAt Go.RowKit

theorem empty_of {s : ByteArray} (h : s.toList.isEmpty = true) : s = ⟨#[]⟩ := by
  rw [ByteArray.toList_eq] at h
  have h := List.isEmpty_iff.1 h
  cases s with
  | mk d => cases d with
    | mk l => simp only at h; rw [h]
/-- A tree's nodes are gone through to its root. -/
theorem run_flat : ∀ (t : Tr) (o : Nat), t.ok → ∀ (ns : List Nd) (st : List Int), (∀ i nd, (t.flat o)[i]? = some nd → ns[o + i]? = some nd) → runTo ns o = some st → runTo ns (o + t.cnt) = some (st ++ [((o + t.cnt - 1 : Nat) : Int)])
  | .leaf k s, o, h, ns, st, hn, hr => by
    have h0 := hn 0 ⟨k, s, []⟩ rfl
    have hk : kidsN k = 0 := by rcases h.1 with rfl | rfl <;> rfl
    have hf : fieldsB ⟨k, s, []⟩ = true := h.2
    simp only [Tr.cnt, runTo, hr, Nat.add_zero] at h0 ⊢
    rw [h0]
    simp [stepN, hk, hf]
  | .one k s a, o, h, ns, st, hn, hr => by
    obtain ⟨rfl, hs, ha⟩ := h
    have l1 := Tr.flat_len a o
    have lp := Tr.cnt_pos a
    have ih := run_flat a o ha ns st (fun i nd hi => hn i nd (by simp only [Tr.flat]; exact get_left _ hi)) hr
    have h0 := hn a.cnt ⟨2, s, [((o + a.cnt - 1 : Nat) : Int)]⟩ (by simp only [Tr.flat]; rw [List.getElem?_append_right (by omega), l1]; simp)
    have hf : fieldsB ⟨2, s, [((o + a.cnt - 1 : Nat) : Int)]⟩ = true := hs
    simp only [Tr.cnt]
    rw [show o + (1 + a.cnt) = (o + a.cnt) + 1 from by omega]
    simp only [runTo, ih]
    rw [h0]
    have hk : kidsN 2 = 1 := rfl
    simp [stepN, hk, hf]
    omega
  | .two k s a b, o, h, ns, st, hn, hr => by
    obtain ⟨hk, hs, ha, hb⟩ := h
    have l1 := Tr.flat_len a o
    have l2 := Tr.flat_len b (o + a.cnt)
    have lp := Tr.cnt_pos a
    have lq := Tr.cnt_pos b
    have ih := run_flat a o ha ns st (fun i nd hi => hn i nd (by simp only [Tr.flat]; exact get_left _ (get_left _ hi))) hr
    have ih2 := run_flat b (o + a.cnt) hb ns _ (fun i nd hi => by
      have := hn (a.cnt + i) nd (by simp only [Tr.flat]; have := get_left [(⟨k, s, [((o + a.cnt - 1 : Nat) : Int), ((o + a.cnt + b.cnt - 1 : Nat) : Int)]⟩ : Nd)] (get_right (a.flat o) hi); rwa [l1] at this)
      rwa [← Nat.add_assoc] at this) ih
    have h0 := hn (a.cnt + b.cnt) ⟨k, s, [((o + a.cnt - 1 : Nat) : Int), ((o + a.cnt + b.cnt - 1 : Nat) : Int)]⟩ (by simp only [Tr.flat]; rw [List.getElem?_append_right (by simp; omega)]; simp [l1, l2])
    have hf : fieldsB ⟨k, s, [((o + a.cnt - 1 : Nat) : Int), ((o + a.cnt + b.cnt - 1 : Nat) : Int)]⟩ = true := hs
    simp only [Tr.cnt]
    rw [show o + (1 + a.cnt + b.cnt) = (o + a.cnt + b.cnt) + 1 from by omega]
    simp only [runTo, ih2]
    rw [← Nat.add_assoc] at h0
    rw [h0]
    have hk : kidsN k = 2 := by rcases hk with rfl | rfl <;> rfl
    simp [stepN, hk, hf]
    omega
theorem lvl_flat (t : Tr) (h : t.ok) : lvlB (t.flat 0) = fitsB t := by
  have hr := run_flat t 0 h (t.flat 0) [] (fun i nd hi => by rw [Nat.zero_add]; exact hi) rfl
  have hl := Tr.flat_len t 0
  have hp := Tr.cnt_pos t
  have hn : namesOf (t.flat 0) = t.names [] := (Tr.names_flat t 0 [] h).symm
  unfold lvlB fitsB
  rw [Nat.zero_add] at hr
  rw [hl, hr, hn]
  simp [hp]
end Go.Proofs.YtjkkojefpecbfaaGreat

/- What the specification's small makers of trees and its draws of names answer, beside a reader of drawn bytes. -/
namespace Go.Proofs.YtjkkojefpecbfaaGreat
open Go.ChangeShapes Go.WideShapes Go.ChangeAt Go.RowKit

def names9 : List ByteArray := [⟨#[78, 97, 116]⟩, ⟨#[78, 97, 116, 46, 122, 101, 114, 111]⟩, ⟨#[78, 97, 116, 46, 115, 117, 99, 99]⟩, ⟨#[97, 100, 100]⟩, ⟨#[69, 113]⟩, ⟨#[99]⟩, ⟨#[102, 46, 103]⟩, ⟨#[76, 105, 115, 116]⟩, ⟨#[95, 97, 39]⟩]
def short6 : List ByteArray := [⟨#[120]⟩, ⟨#[121]⟩, ⟨#[65]⟩, ⟨#[110]⟩, ⟨#[95]⟩, ⟨#[104, 39]⟩]
theorem lit_cells (ss : List ByteArray) (w : World) : ∀ j (hj : j < ss.length), (w.alloc (.cells (ss.map Value.string).toArray 9)).cell? ⟨w.heap.size, j, none⟩ = some (.string ss[j]) := by
  intro j hj
  rw [cell_of_row _ _ _ _ _ _ (heap_alloc_new w _)]
  simp [hj]
set_option maxRecDepth 20000 in
set_option maxHeartbeats 2000000 in
theorem l3Name_any {ρ : Pl} (R base : Nat) (w : World) (h : RdAt ρ base w R) : Calls Tryz.prog 130 #[.pointer (some ⟨R, 0, none⟩)] w fun e w' => e = .returned (.string (names9.getD (ρ.v % 9) ⟨#[]⟩)) ∧ RdAt ρ.n base w' R ∧ w.grownBy w' (some R) := by
  have hl := h.lt
  have HR := hide h
  clear h
  go_enter Tryz.func130, Tryz.ntmps130
  go_wp2_with (first
    | (go_at_call 174; refine (pick_any R base w.heap.size names9 _ (HR.out.keep (bel_alloc (Below.refl _ _) _)) (by decide) (by decide) (by omega) (lit_cells names9 w)).mono ?_; rintro e w2 ⟨s, rfl, hs, hr2, hg2, hse⟩; have HSE := hide hse; clear hse)
    | fail)
  go_ret
  exact ⟨by rw [HSE.out]; rfl, hr2, ((grown_of (bel_alloc (Below.refl w.heap.size w) _)).but (some R)).trans hg2⟩
set_option maxRecDepth 20000 in
set_option maxHeartbeats 2000000 in
theorem l3Short_any {ρ : Pl} (R base : Nat) (w : World) (h : RdAt ρ base w R) : Calls Tryz.prog 131 #[.pointer (some ⟨R, 0, none⟩)] w fun e w' => e = .returned (.string (short6.getD (ρ.v % 6) ⟨#[]⟩)) ∧ RdAt ρ.n base w' R ∧ w.grownBy w' (some R) := by
  have hl := h.lt
  have HR := hide h
  clear h
  go_enter Tryz.func131, Tryz.ntmps131
  go_wp2_with (first
    | (go_at_call 174; refine (pick_any R base w.heap.size short6 _ (HR.out.keep (bel_alloc (Below.refl _ _) _)) (by decide) (by decide) (by omega) (lit_cells short6 w)).mono ?_; rintro e w2 ⟨s, rfl, hs, hr2, hg2, hse⟩; have HSE := hide hse; clear hse)
    | fail)
  go_ret
  exact ⟨by rw [HSE.out]; rfl, hr2, ((grown_of (bel_alloc (Below.refl w.heap.size w) _)).but (some R)).trans hg2⟩
/-- What is carried where a reader goes on. -/
theorem Carry.rd {ρ : Pl} {base R : Nat} {w w' : World} (h : RdAt ρ base w R) (hg : w.grownBy w' (some R)) : Carry (fun b => b ≠ R) (fun b => b ≠ R) w w' := by
  obtain ⟨a, cap, h1, _⟩ := h
  refine ⟨fun p ys hp => World.ownsRow.kept hp hg (.inr (by simp [Value.ownBlock]; exact rows_ne hp h1 (by decide))), fun b hb hl => ⟨hb, fun o u hu => by rw [hg.cell_far ⟨b, o, none⟩ hl (by simp; exact hb)]; exact hu⟩, fun ps us ht => ⟨ht.1, fun j a1 a2 => ((ht.2 j a1 a2).grown hg (fun k hk => by simp at hk; subst hk; obtain ⟨cs, hcs⟩ := row_tag h1; exact ⟨cs, 176, by decide, hcs⟩)).mono hg.size⟩⟩
/-- A node made of a row of kids that was made ahead of it. -/
theorem mk_rowQ {Q : Nat → Prop} (h : Hd) (ts : List Tt) (ps : List Nat) (w W : World) (hW : W = w.alloc (.cells (ps.map ptrV).toArray 72)) (hq : Q w.heap.size) (hl : ps.length = ts.length) (h3 : ts.length ≤ 3) (hlv : h.lv = []) (hk : h.k ≠ 1) (hs : ∀ j (h1 : j < ps.length) (h2 : j < ts.length), SpG Q w ts[j] ps[j]) (hn : ∀ t ∈ ts, t.all numP) :
    Calls Tryz.prog 92 #[.int .i64 h.k, .int .i64 h.n, .int .i64 h.m, .string h.s, .slice none 0 0, .slice (some ⟨w.heap.size, 0, none⟩) ps.length ps.length] W fun e w' => e = .returned (ptrV W.heap.size) ∧ SpG Q w' (Tt.mk h ts) W.heap.size ∧ Below W.heap.size W w' := by
  have hbW : Below w.heap.size w W := by rw [hW]; exact bel_alloc (Below.refl _ _) _
  have hcell : ∀ j (hj : j < ps.length), W.cell? ⟨w.heap.size, 0 + j, none⟩ = some (ptrV ps[j]) := fun j hj => by
    rw [hW, Nat.zero_add, cell_of_row _ _ _ _ _ _ (heap_alloc_new w _)]
    simp [hj]
  have hrow : PtrRowQ Q W (.slice (some ⟨w.heap.size, 0, none⟩) ps.length ps.length) ps := ⟨_, _, rfl, Nat.le_refl _, by unfold maxLen; omega, fun _ => ⟨w.heap.size, 0, rfl, hq, hcell⟩⟩
  exact make_tree (Q := Q) (R := Q) hl h3 (by rw [hlv]; exact levrow_nil Q W) hrow (fun j h1 h2 => (hs j h1 h2).keep hbW) hn (fun e => absurd e hk) (fun e => absurd e hk) rfl
def bindH (k m : Int) (s : ByteArray) : Hd := ⟨k, 0, m, s, []⟩
def projH (s : ByteArray) (n : Int) : Hd := ⟨8, n, 0, s, []⟩
def letH (s : ByteArray) : Hd := ⟨7, 0, 0, s, []⟩
set_option maxRecDepth 20000 in
set_option maxHeartbeats 2000000 in
theorem l3AppQ_any {Q : Nat → Prop}  (F A : Tt) (pf pa : Nat) (w : World) (hq : Q w.heap.size) (hpf : SpG Q w F pf) (hpa : SpG Q w A pa) (npf : F.all numP) (npa : A.all numP) :
    Calls Tryz.prog 82 #[.pointer (some ⟨pf, 0, none⟩), .pointer (some ⟨pa, 0, none⟩)] w fun e w' => ∃ p, e = .returned (ptrV p) ∧ SpG Q w' (Tt.mk appH [F, A]) p ∧ Below w.heap.size w w' := by
  obtain ⟨W, hW⟩ : ∃ W, W = w.alloc (.cells #[.pointer (some ⟨pf, 0, none⟩), .pointer (some ⟨pa, 0, none⟩)] 72) := ⟨_, rfl⟩
  have hbW : Below w.heap.size w W := by rw [hW]; exact bel_alloc (Below.refl _ _) _
  have HM := hide (mk_rowQ (Q := Q) appH [F, A] [pf, pa] w W hW hq rfl (by simp) rfl (by decide) (fun j h1 h2 => by
    rcases (show j = 0 ∨ j = 1 by simp at h1; omega) with rfl | rfl
    · exact hpf
    · exact hpa) (fun t ht => by
    simp only [List.mem_cons, List.not_mem_nil, or_false] at ht
    rcases ht with rfl | rfl
    · exact npf
    · exact npa))
  have HM : Hid (Calls Tryz.prog 92 #[.int .i64 4, .int .i64 0, .int .i64 0, .string ⟨#[]⟩, .slice none 0 0, .slice (some ⟨w.heap.size, 0, none⟩) 2 2] W fun e w' => e = .returned (ptrV W.heap.size) ∧ SpG Q w' (Tt.mk appH [F, A]) W.heap.size ∧ Below W.heap.size W w') := HM.out
  have HBW := hide hbW
  have HBS := hide hbW.size
  clear hpf hpa npf npa hbW hq
  go_enter Tryz.func82, Tryz.ntmps82
  go_wp2_with fail
  first | rw [← hW] | skip
  clear hW
  generalize hsz : W.heap.size = sz at *
  clear hsz
  refine HM.out.mono ?_
  rintro e w1 ⟨rfl, h1, h2⟩
  have H1 := hide h1
  have H2 := hide (HBW.out.trans (h2.mono HBS.out))
  clear h1 h2
  unfold ptrV
  go_wp2_with fail
  go_ret
  exact ⟨_, rfl, H1.out, H2.out⟩
set_option maxRecDepth 20000 in
set_option maxHeartbeats 2000000 in
theorem l3BindQ_any {Q : Nat → Prop} (k m : Int) (s : ByteArray) (hk : k ≠ 1) (F A : Tt) (pf pa : Nat) (w : World) (hq : Q w.heap.size) (hpf : SpG Q w F pf) (hpa : SpG Q w A pa) (npf : F.all numP) (npa : A.all numP) :
    Calls Tryz.prog 134 #[.int .i64 k, .int .i64 m, .string s, .pointer (some ⟨pf, 0, none⟩), .pointer (some ⟨pa, 0, none⟩)] w fun e w' => ∃ p, e = .returned (ptrV p) ∧ SpG Q w' (Tt.mk (bindH k m s) [F, A]) p ∧ Below w.heap.size w w' := by
  obtain ⟨W, hW⟩ : ∃ W, W = w.alloc (.cells #[.pointer (some ⟨pf, 0, none⟩), .pointer (some ⟨pa, 0, none⟩)] 72) := ⟨_, rfl⟩
  have hbW : Below w.heap.size w W := by rw [hW]; exact bel_alloc (Below.refl _ _) _
  have HM := hide (mk_rowQ (Q := Q) (bindH k m s) [F, A] [pf, pa] w W hW hq rfl (by simp) rfl hk (fun j h1 h2 => by
    rcases (show j = 0 ∨ j = 1 by simp at h1; omega) with rfl | rfl
    · exact hpf
    · exact hpa) (fun t ht => by
    simp only [List.mem_cons, List.not_mem_nil, or_false] at ht
    rcases ht with rfl | rfl
    · exact npf
    · exact npa))
  have HM : Hid (Calls Tryz.prog 92 #[.int .i64 k, .int .i64 0, .int .i64 m, .string s, .slice none 0 0, .slice (some ⟨w.heap.size, 0, none⟩) 2 2] W fun e w' => e = .returned (ptrV W.heap.size) ∧ SpG Q w' (Tt.mk (bindH k m s) [F, A]) W.heap.size ∧ Below W.heap.size W w') := HM.out
  have HBW := hide hbW
  have HBS := hide hbW.size
  clear hpf hpa npf npa hbW hq hk
  go_enter Tryz.func134, Tryz.ntmps134
  go_wp2_with fail
  first | rw [← hW] | skip
  clear hW
  generalize hsz : W.heap.size = sz at *
  clear hsz
  refine HM.out.mono ?_
  rintro e w1 ⟨rfl, h1, h2⟩
  have H1 := hide h1
  have H2 := hide (HBW.out.trans (h2.mono HBS.out))
  clear h1 h2
  unfold ptrV
  go_wp2_with fail
  go_ret
  exact ⟨_, rfl, H1.out, H2.out⟩
set_option maxRecDepth 20000 in
set_option maxHeartbeats 2000000 in
theorem l3ProjQ_any {Q : Nat → Prop} (s : ByteArray) (n : Int) (F : Tt) (pf : Nat) (w : World) (hq : Q w.heap.size) (hpf : SpG Q w F pf) (npf : F.all numP) :
    Calls Tryz.prog 132 #[.string s, .int .i64 n, .pointer (some ⟨pf, 0, none⟩)] w fun e w' => ∃ p, e = .returned (ptrV p) ∧ SpG Q w' (Tt.mk (projH s n) [F]) p ∧ Below w.heap.size w w' := by
  obtain ⟨W, hW⟩ : ∃ W, W = w.alloc (.cells #[.pointer (some ⟨pf, 0, none⟩)] 72) := ⟨_, rfl⟩
  have hbW : Below w.heap.size w W := by rw [hW]; exact bel_alloc (Below.refl _ _) _
  have HM := hide (mk_rowQ (Q := Q) (projH s n) [F] [pf] w W hW hq rfl (by simp) rfl (by show (8 : Int) ≠ 1; decide) (fun j h1 h2 => by
    rcases (show j = 0 by simp at h1; omega) with rfl
    exact hpf) (fun t ht => by
    simp only [List.mem_cons, List.not_mem_nil, or_false] at ht
    rcases ht with rfl
    exact npf))
  have HM : Hid (Calls Tryz.prog 92 #[.int .i64 8, .int .i64 n, .int .i64 0, .string s, .slice none 0 0, .slice (some ⟨w.heap.size, 0, none⟩) 1 1] W fun e w' => e = .returned (ptrV W.heap.size) ∧ SpG Q w' (Tt.mk (projH s n) [F]) W.heap.size ∧ Below W.heap.size W w') := HM.out
  have HBW := hide hbW
  have HBS := hide hbW.size
  clear hpf npf hbW hq
  go_enter Tryz.func132, Tryz.ntmps132
  go_wp2_with fail
  first | rw [← hW] | skip
  clear hW
  generalize hsz : W.heap.size = sz at *
  clear hsz
  refine HM.out.mono ?_
  rintro e w1 ⟨rfl, h1, h2⟩
  have H1 := hide h1
  have H2 := hide (HBW.out.trans (h2.mono HBS.out))
  clear h1 h2
  unfold ptrV
  go_wp2_with fail
  go_ret
  exact ⟨_, rfl, H1.out, H2.out⟩
def holeH (n : Int) : Hd := ⟨9, n, 0, ⟨#[]⟩, []⟩
set_option maxRecDepth 20000 in
set_option maxHeartbeats 2000000 in
theorem l3HoleQ_any (Q : Nat → Prop) (n : Int) (w : World) : Calls Tryz.prog 133 #[.int .i64 n] w fun e w' => ∃ p, e = .returned (ptrV p) ∧ SpG Q w' (.t0 (holeH n)) p ∧ Below w.heap.size w w' := by
  have HM := hide (make_tree (Q := Q) (R := Q) (h := holeH n) (ts := []) (ps := []) (lvv := .slice none 0 0) (kdv := .slice none 0 0) (w := w) rfl (by simp) (levrow_nil Q w) (ptrrow_nil Q w) (fun j h => by simp at h) (fun t ht => by simp at ht) (fun e => by simp [holeH] at e) (fun _ => rfl) rfl)
  have HM : Hid (Calls Tryz.prog 92 #[.int .i64 9, .int .i64 n, .int .i64 0, .string ⟨#[]⟩, .slice none 0 0, .slice none 0 0] w fun e w' => e = .returned (ptrV w.heap.size) ∧ SpG Q w' (.t0 (holeH n)) w.heap.size ∧ Below w.heap.size w w') := HM.out
  go_enter Tryz.func133, Tryz.ntmps133
  go_wp2_with fail
  refine HM.out.mono ?_
  rintro e w1 ⟨rfl, h1, h2⟩
  have H1 := hide h1
  have H2 := hide h2
  clear h1 h2
  unfold ptrV
  go_wp2_with fail
  go_ret
  exact ⟨w.heap.size, rfl, H1.out, H2.out⟩
def constH (s : ByteArray) (ls : List (List Nd)) : Hd := ⟨3, 0, 0, s, ls⟩
set_option maxRecDepth 20000 in
set_option maxHeartbeats 2000000 in
theorem l3ConstQ_any (Q : Nat → Prop) (s : ByteArray) (v : Value) (ls : List (List Nd)) (w : World) (hv : LevRowF Q w v ls) : Calls Tryz.prog 129 #[.string s, v] w fun e w' => ∃ p, e = .returned (ptrV p) ∧ SpG Q w' (.t0 (constH s ls)) p ∧ Below w.heap.size w w' := by
  have HM := hide (make_tree (Q := Q) (R := Q) (h := constH s ls) (ts := []) (ps := []) (lvv := v) (kdv := .slice none 0 0) (w := w) rfl (by simp) hv (ptrrow_nil Q w) (fun j h => by simp at h) (fun t ht => by simp at ht) (fun e => by simp [constH] at e) (fun _ => rfl) rfl)
  have HM : Hid (Calls Tryz.prog 92 #[.int .i64 3, .int .i64 0, .int .i64 0, .string s, v, .slice none 0 0] w fun e w' => e = .returned (ptrV w.heap.size) ∧ SpG Q w' (.t0 (constH s ls)) w.heap.size ∧ Below w.heap.size w w') := HM.out
  obtain ⟨la, lc, lps, rfl⟩ : ∃ la lc lps, v = .slice la lps lc := by obtain ⟨ps, us, e1, ⟨a, cap, rfl, _⟩, _⟩ := hv; exact ⟨_, _, _, rfl⟩
  clear hv
  go_enter Tryz.func129, Tryz.ntmps129
  go_wp2_with fail
  refine HM.out.mono ?_
  rintro e w1 ⟨rfl, h1, h2⟩
  have H1 := hide h1
  have H2 := hide h2
  clear h1 h2
  unfold ptrV
  go_wp2_with fail
  go_ret
  exact ⟨w.heap.size, rfl, H1.out, H2.out⟩
def sortH (l : List Nd) : Hd := ⟨2, 0, 0, ⟨#[]⟩, [l]⟩
set_option maxRecDepth 20000 in
set_option maxHeartbeats 2000000 in
theorem l3SortQ_any {Q : Nat → Prop} (t : Tr) (g : Nat) (w : World) (hq : Q w.heap.size) (ht : TreeAt w.heap.size w g t) (hok : t.ok) (hf : fitsB t = true) : Calls Tryz.prog 127 #[.pointer (some ⟨g, 0, none⟩)] w fun e w' => ∃ p, e = .returned (ptrV p) ∧ SpG Q w' (.t0 (sortH (t.flat 0))) p ∧ Below w.heap.size w w' := by
  obtain ⟨W, hW⟩ : ∃ W, W = w.alloc (.cells #[.pointer (some ⟨g, 0, none⟩)] 164) := ⟨_, rfl⟩
  have hbW : Below w.heap.size w W := by rw [hW]; exact bel_alloc (Below.refl _ _) _
  have hc0 : W.cell? ⟨w.heap.size, 0, none⟩ = some (ptrV g) := by rw [hW]; simp [go_sem, ptrV]
  have hv : LevRowF Q W (.slice (some ⟨w.heap.size, 0, none⟩) 1 1) [t.flat 0] := ⟨[g], [t], rfl, ⟨_, _, rfl, Nat.le_refl _, by unfold maxLen; omega, fun _ => ⟨w.heap.size, 0, rfl, hq, fun j hj => by
    have e : j = 0 := by simp at hj; omega
    subst e
    exact hc0⟩⟩, ⟨⟨rfl, fun j h1 h2 => by
    have e : j = 0 := by simp at h1; omega
    subst e
    exact (ht.keep hbW).mono hbW.size⟩, fun u hu => by simp at hu; rw [hu]; exact hf⟩, rfl, fun q h1 h2 => by
    have e : q = 0 := by simp at h1; omega
    subst e
    exact ⟨rfl, hok, Tr.names_flat t 0 [] hok, (Tr.flat_len t 0).symm⟩⟩
  have HM := hide (make_tree (Q := Q) (R := Q) (h := sortH (t.flat 0)) (ts := []) (ps := []) (lvv := .slice (some ⟨w.heap.size, 0, none⟩) 1 1) (kdv := .slice none 0 0) (w := W) rfl (by simp) hv (ptrrow_nil Q W) (fun j h => by simp at h) (fun t ht => by simp at ht) (fun e => by simp [sortH] at e) (fun _ => rfl) rfl)
  have HM : Hid (Calls Tryz.prog 92 #[.int .i64 2, .int .i64 0, .int .i64 0, .string ⟨#[]⟩, .slice (some ⟨w.heap.size, 0, none⟩) 1 1, .slice none 0 0] W fun e w' => e = .returned (ptrV W.heap.size) ∧ SpG Q w' (.t0 (sortH (t.flat 0))) W.heap.size ∧ Below W.heap.size W w') := HM.out
  have HBW := hide hbW
  have HBS := hide hbW.size
  clear ht hbW hc0 hv hq hok hf
  go_enter Tryz.func127, Tryz.ntmps127
  go_wp2_with fail
  first | rw [← hW] | skip
  clear hW
  generalize hsz : W.heap.size = sz at *
  clear hsz
  refine HM.out.mono ?_
  rintro e w1 ⟨rfl, h1, h2⟩
  have H1 := hide h1
  have H2 := hide (HBW.out.trans (h2.mono HBS.out))
  clear h1 h2
  unfold ptrV
  go_wp2_with fail
  go_ret
  exact ⟨_, rfl, H1.out, H2.out⟩
end Go.Proofs.YtjkkojefpecbfaaGreat

/- Which tree the specification's l3Draw draws, as a plain function of the bytes, and what holds of it. No program is walked here. -/
namespace Go.Proofs.YtjkkojefpecbfaaGreat

/-- Whether all names in a tree of a level are among three. -/
def Tr.uvw : Tr → Prop
  | .leaf k s => k = 5 → s ∈ Go.Proofs.YtjkkojefpecbfaaGreat.uvw
  | .one k _ a => k ≠ 5 ∧ a.uvw
  | .two k _ a b => k ≠ 5 ∧ a.uvw ∧ b.uvw
def inU (acc : List ByteArray) : Nat := (if hasB acc ⟨#[117]⟩ = true then 1 else 0) + (if hasB acc ⟨#[118]⟩ = true then 1 else 0) + (if hasB acc ⟨#[119]⟩ = true then 1 else 0)
theorem inU_le (acc : List ByteArray) : inU acc ≤ 3 := by
  unfold inU
  repeat (first | omega | split)
theorem hasB_snoc (acc : List ByteArray) (s x : ByteArray) : hasB (acc ++ [s]) x = (hasB acc x || decide (s = x)) := by
  unfold hasB
  rw [List.any_append]
  simp
theorem addS_in {acc : List ByteArray} {s : ByteArray} (hs : s ∈ uvw) (h : acc.length ≤ inU acc) : (addS acc 5 s).length ≤ inU (addS acc 5 s) := by
  unfold addS
  split
  · rename_i hh
    obtain ⟨_, hh⟩ := hh
    simp only [uvw, List.mem_cons, List.not_mem_nil, or_false] at hs
    unfold inU at h ⊢
    rw [List.length_append, hasB_snoc, hasB_snoc, hasB_snoc]
    rcases hs with rfl | rfl | rfl
    · rw [hh] at h ⊢
      simp at h ⊢
      omega
    · rw [hh] at h ⊢
      simp at h ⊢
      omega
    · rw [hh] at h ⊢
      simp at h ⊢
      omega
  · exact h
theorem addS_ne {acc : List ByteArray} {k : Int} {s : ByteArray} (h : k ≠ 5) : addS acc k s = acc := by
  unfold addS
  rw [if_neg (fun e => h e.1)]
theorem names_in : ∀ (t : Tr) (acc : List ByteArray), t.uvw → acc.length ≤ inU acc → (t.names acc).length ≤ inU (t.names acc)
  | .leaf k s, acc, hu, h => by
    simp only [Tr.names]
    by_cases e : k = 5
    · subst e; exact addS_in (hu rfl) h
    · rw [addS_ne e]; exact h
  | .one k s a, acc, hu, h => by
    simp only [Tr.names]
    rw [addS_ne hu.1]
    exact names_in a acc hu.2 h
  | .two k s a b, acc, hu, h => by
    simp only [Tr.names]
    rw [addS_ne hu.1]
    exact names_in b _ hu.2.2 (names_in a acc hu.2.1 h)
theorem uvw_mem (n : Nat) : uvw.getD (n % 3) ⟨#[]⟩ ∈ uvw := by
  have h : n % 3 < 3 := Nat.mod_lt _ (by omega)
  rcases (show n % 3 = 0 ∨ n % 3 = 1 ∨ n % 3 = 2 by omega) with e | e | e <;> rw [e] <;> simp [uvw]
theorem drw_ok : ∀ (d deep : Nat) (ρ : Pl), (drw d deep ρ).1.ok ∧ (drw d deep ρ).1.uvw ∧ (drw d deep ρ).1.cnt + 1 ≤ 2 ^ (d + 1)
  | 0, deep, ρ => by
    simp only [drw]
    exact ⟨uvw_ok (uvw_mem _), fun _ => uvw_mem _, by simp [Tr.cnt]⟩
  | d + 1, deep, ρ => by
    have hp : 2 ^ (d + 1 + 1) = 2 * 2 ^ (d + 1) := by rw [Nat.pow_succ]; omega
    have h2 : 2 ≤ 2 ^ (d + 1) := Nat.le_trans (by decide) (Nat.pow_le_pow_right (by omega) (show 1 ≤ d + 1 by omega))
    obtain ⟨a1, a2, a3⟩ := drw_ok d (deep + 1) ρ.n
    obtain ⟨b1, b2, b3⟩ := drw_ok d (deep + 1) (drw d (deep + 1) ρ.n).2
    simp only [drw]
    split
    · exact ⟨uvw_ok (uvw_mem _), fun _ => uvw_mem _, by simp only [Tr.cnt]; omega⟩
    · split
      · exact ⟨⟨.inl rfl, empty_ok 1 (by decide)⟩, fun e => absurd e (by decide), by simp only [Tr.cnt]; omega⟩
      · split
        · exact ⟨⟨rfl, empty_ok 2 (by decide), a1⟩, ⟨by decide, a2⟩, by simp only [Tr.cnt]; omega⟩
        · have hk : ρ.v / 8 % 2 < 2 := Nat.mod_lt _ (by omega)
          refine ⟨⟨by omega, empty_ok _ (by omega), a1, b1⟩, ⟨by omega, a2, b2⟩, ?_⟩
          simp only [Tr.cnt]
          omega
/-- A drawn level is valid. -/
theorem drw_lvl (ρ : Pl) : (drw 3 2 ρ).1.ok ∧ fitsB (drw 3 2 ρ).1 = true := by
  obtain ⟨h1, h2, h3⟩ := drw_ok 3 2 ρ
  refine ⟨h1, ?_⟩
  unfold fitsB
  rw [decide_eq_true_eq]
  refine ⟨by have : (2 : Nat) ^ (3 + 1) = 16 := rfl; omega, ?_⟩
  have := names_in (drw 3 2 ρ).1 [] h2 (by simp)
  have := inU_le ((drw 3 2 ρ).1.names [])
  omega
theorem drw_valid (ρ : Pl) : lvlB ((drw 3 2 ρ).1.flat 0) = true := by
  obtain ⟨h1, h2⟩ := drw_lvl ρ
  rw [lvl_flat _ h1]
  exact h2
/-- So many drawn levels, and the place behind them. -/
def lvD : Nat → Pl → List (List Nd) × Pl
  | 0, ρ => ([], ρ)
  | n + 1, ρ => ((lvD n ρ).1 ++ [(drw 3 2 (lvD n ρ).2).1.flat 0], (drw 3 2 (lvD n ρ).2).2)
theorem lvD_len : ∀ (n : Nat) (ρ : Pl), (lvD n ρ).1.length = n
  | 0, _ => rfl
  | n + 1, ρ => by simp [lvD, lvD_len n ρ]
theorem lvD_valid : ∀ (n : Nat) (ρ : Pl), ∀ l ∈ (lvD n ρ).1, lvlB l = true
  | 0, _ => fun l hl => by simp [lvD] at hl
  | n + 1, ρ => fun l hl => by
    simp only [lvD, List.mem_append, List.mem_singleton] at hl
    rcases hl with hl | rfl
    · exact lvD_valid n ρ l hl
    · exact drw_valid _
/-- The variable that is drawn. -/
def varD (free k : Nat) : Tt := if 0 < free ∧ k < 240 then varT ((k / 12 % free : Nat) : Int) else varT ((k / 12 % 5 : Nat) : Int)
/-- The tree that is drawn so many steps above the deepest, and the place behind it. -/
def d3 : Nat → Nat → Nat → Pl → Tt × Pl
  | 0, _, free, ρ => (varD free ρ.v, ρ.n)
  | d + 1, deep, free, ρ =>
    if 7 < deep ∨ ρ.v % 12 < 3 then (varD free ρ.v, ρ.n)
    else if ρ.v % 12 = 3 then (.t0 (sortH ((drw 3 2 ρ.n).1.flat 0)), (drw 3 2 ρ.n).2)
    else if ρ.v % 12 = 4 then (.t0 (constH (names9.getD ((lvD (ρ.v / 12 % 3) ρ.n).2.v % 9) ⟨#[]⟩) (lvD (ρ.v / 12 % 3) ρ.n).1), (lvD (ρ.v / 12 % 3) ρ.n).2.n)
    else if ρ.v % 12 < 8 then (.t2 appH (d3 d (deep + 1) free ρ.n).1 (d3 d (deep + 1) free (d3 d (deep + 1) free ρ.n).2).1, (d3 d (deep + 1) free (d3 d (deep + 1) free ρ.n).2).2)
    else if ρ.v % 12 = 10 ∧ ρ.v / 12 % 3 = 0 then (.t3 (letH (short6.getD (ρ.n.v % 6) ⟨#[]⟩)) (d3 d (deep + 1) free ρ.n.n).1 (d3 d (deep + 1) free (d3 d (deep + 1) free ρ.n.n).2).1 (d3 d (deep + 1) (free + 1) (d3 d (deep + 1) free (d3 d (deep + 1) free ρ.n.n).2).2).1, (d3 d (deep + 1) (free + 1) (d3 d (deep + 1) free (d3 d (deep + 1) free ρ.n.n).2).2).2)
    else if ρ.v % 12 = 10 then (.t1 (projH (names9.getD (ρ.n.v % 9) ⟨#[]⟩) ((ρ.v / 12 % 3 : Nat) : Int)) (d3 d (deep + 1) free ρ.n.n).1, (d3 d (deep + 1) free ρ.n.n).2)
    else if ρ.v % 12 = 11 ∧ ρ.v / 12 % 2 = 0 then (.t0 (holeH ((ρ.v / 12 % 4 : Nat) : Int)), ρ.n)
    else (.t2 (bindH (5 + ((ρ.v % 2 : Nat) : Int)) ((ρ.v / 12 % 3 : Nat) : Int) (short6.getD (ρ.n.v % 6) ⟨#[]⟩)) (d3 d (deep + 1) free ρ.n.n).1 (d3 d (deep + 1) (free + 1) (d3 d (deep + 1) free ρ.n.n).2).1, (d3 d (deep + 1) (free + 1) (d3 d (deep + 1) free ρ.n.n).2).2)
/-- What holds of each node of a drawn tree. -/
def drP (h : Hd) (c : Nat) : Prop := numP h c ∧ levP h c ∧ leafP h c
theorem varD_ok (free k : Nat) (hf : free ≤ 1000) : (varD free k).all drP ∧ (varD free k).cnt = 1 := by
  have h1 : ∀ n : Nat, n ≤ 1000 → (varT (n : Int)).all drP := fun n hn => ⟨fun _ => ⟨by show (0 : Int) ≤ n; omega, by show (n : Int) ≤ 1000000; omega⟩, var_lev _, fun h => by omega⟩
  unfold varD
  split
  · rename_i h
    have : k / 12 % free < free := Nat.mod_lt _ h.1
    exact ⟨h1 _ (by omega), rfl⟩
  · have : k / 12 % 5 < 5 := Nat.mod_lt _ (by omega)
    exact ⟨h1 _ (by omega), rfl⟩
theorem nolv_dr {h : Hd} {c : Nat} (hl : h.lv = []) (hk : h.k ≠ 1) : drP h c := ⟨fun e => absurd e hk, ⟨fun l hm => by rw [hl] at hm; simp at hm, by rw [hl]; simp⟩, fun _ => hk⟩
theorem d3_ok : ∀ (d deep free : Nat) (ρ : Pl), free + d ≤ 1000 → (d3 d deep free ρ).1.all drP ∧ (d3 d deep free ρ).1.cnt + 1 ≤ 3 ^ (d + 1)
  | 0, deep, free, ρ, hf => by
    obtain ⟨h1, h2⟩ := varD_ok free ρ.v (by omega)
    simp only [d3]
    exact ⟨h1, by rw [h2]; decide⟩
  | d + 1, deep, free, ρ, hf => by
    have hp : 3 ^ (d + 1 + 1) = 3 * 3 ^ (d + 1) := by rw [Nat.pow_succ]; omega
    have h2 : 3 ≤ 3 ^ (d + 1) := Nat.le_trans (by decide) (Nat.pow_le_pow_right (by omega) (show 1 ≤ d + 1 by omega))
    obtain ⟨v1, v2⟩ := varD_ok free ρ.v (by omega)
    have ih := d3_ok d
    simp only [d3]
    split
    · exact ⟨v1, by rw [v2]; omega⟩
    · split
      · refine ⟨⟨fun e => by simp [sortH] at e, ⟨fun l hl => ?_, by simp [sortH]⟩, fun e => by omega⟩, by simp only [Tt.cnt]; omega⟩
        simp only [sortH, List.mem_singleton] at hl
        rw [hl]
        exact drw_valid _
      · split
        · have := lvD_len (ρ.v / 12 % 3) ρ.n
          have h3 : ρ.v / 12 % 3 < 3 := Nat.mod_lt _ (by omega)
          exact ⟨⟨fun e => by simp [constH] at e, ⟨fun l hl => lvD_valid _ _ l hl, by show (lvD (ρ.v / 12 % 3) ρ.n).1.length ≤ _; omega⟩, fun e => by omega⟩, by simp only [Tt.cnt]; omega⟩
        · split
          · obtain ⟨a1, a2⟩ := ih (deep + 1) free ρ.n (by omega)
            obtain ⟨b1, b2⟩ := ih (deep + 1) free (d3 d (deep + 1) free ρ.n).2 (by omega)
            exact ⟨⟨nolv_dr rfl (by decide), a1, b1⟩, by simp only [Tt.cnt]; omega⟩
          · split
            · obtain ⟨a1, a2⟩ := ih (deep + 1) free ρ.n.n (by omega)
              obtain ⟨b1, b2⟩ := ih (deep + 1) free (d3 d (deep + 1) free ρ.n.n).2 (by omega)
              obtain ⟨c1, c2⟩ := ih (deep + 1) (free + 1) (d3 d (deep + 1) free (d3 d (deep + 1) free ρ.n.n).2).2 (by omega)
              exact ⟨⟨nolv_dr rfl (by show (7 : Int) ≠ 1; decide), a1, b1, c1⟩, by simp only [Tt.cnt]; omega⟩
            · split
              · obtain ⟨a1, a2⟩ := ih (deep + 1) free ρ.n.n (by omega)
                exact ⟨⟨nolv_dr rfl (by show (8 : Int) ≠ 1; decide), a1⟩, by simp only [Tt.cnt]; omega⟩
              · split
                · exact ⟨nolv_dr rfl (by show (9 : Int) ≠ 1; decide), by simp only [Tt.cnt]; omega⟩
                · obtain ⟨a1, a2⟩ := ih (deep + 1) free ρ.n.n (by omega)
                  obtain ⟨b1, b2⟩ := ih (deep + 1) (free + 1) (d3 d (deep + 1) free ρ.n.n).2 (by omega)
                  exact ⟨⟨nolv_dr rfl (by show (5 : Int) + _ ≠ 1; omega), a1, b1⟩, by simp only [Tt.cnt]; omega⟩
end Go.Proofs.YtjkkojefpecbfaaGreat
