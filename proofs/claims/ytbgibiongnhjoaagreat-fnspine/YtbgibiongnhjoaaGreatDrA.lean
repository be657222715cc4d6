/- What the specification's small makers of trees and its draws of names answer, beside a reader of drawn bytes. -/
import Derived.Test.YtbgibiongnhjoaaGreatAnyA
import Derived.Test.YtbgibiongnhjoaaGreatPutP
namespace Go.Proofs.YtbgibiongnhjoaaGreat
open Go.ChangeShapes Go.WideShapes Go.ChangeAt Go.RowKit

def names9 : List ByteArray := [⟨#[78, 97, 116]⟩, ⟨#[78, 97, 116, 46, 122, 101, 114, 111]⟩, ⟨#[78, 97, 116, 46, 115, 117, 99, 99]⟩, ⟨#[97, 100, 100]⟩, ⟨#[69, 113]⟩, ⟨#[99]⟩, ⟨#[102, 46, 103]⟩, ⟨#[76, 105, 115, 116]⟩, ⟨#[95, 97, 39]⟩]
def short6 : List ByteArray := [⟨#[120]⟩, ⟨#[121]⟩, ⟨#[65]⟩, ⟨#[110]⟩, ⟨#[95]⟩, ⟨#[104, 39]⟩]
theorem lit_cells (ss : List ByteArray) (w : World) : ∀ j (hj : j < ss.length), (w.alloc (.cells (ss.map Value.string).toArray 9)).cell? ⟨w.heap.size, j, none⟩ = some (.string ss[j]) := by
  intro j hj
  rw [cell_of_row _ _ _ _ _ _ (heap_alloc_new w _)]
  simp [hj]
set_option maxRecDepth 20000 in
set_option maxHeartbeats 2000000 in
theorem l3Name_any {ρ : Pl} (R base : Nat) (w : World) (h : RdAt ρ base w R) : Calls Tryz.prog 130 #[.pointer (some ⟨R, 0, none⟩)] w fun e w' => e = .returned (.string (names9.getD (ρ.v % 9) ⟨#[]⟩)) ∧ RdAt ρ.n base w' R ∧ w.grownBy w' (some R) := by
  have hl := h.lt
  have HR := hide h
  clear h
  go_enter Tryz.func130, Tryz.ntmps130
  go_wp2_with (first
    | (go_at_call 174; refine (pick_any R base w.heap.size names9 _ (HR.out.keep (bel_alloc (Below.refl _ _) _)) (by decide) (by decide) (by omega) (lit_cells names9 w)).mono ?_; rintro e w2 ⟨s, rfl, hs, hr2, hg2, hse⟩; have HSE := hide hse; clear hse)
    | fail)
  go_ret
  exact ⟨by rw [HSE.out]; rfl, hr2, ((grown_of (bel_alloc (Below.refl w.heap.size w) _)).but (some R)).trans hg2⟩
set_option maxRecDepth 20000 in
set_option maxHeartbeats 2000000 in
theorem l3Short_any {ρ : Pl} (R base : Nat) (w : World) (h : RdAt ρ base w R) : Calls Tryz.prog 131 #[.pointer (some ⟨R, 0, none⟩)] w fun e w' => e = .returned (.string (short6.getD (ρ.v % 6) ⟨#[]⟩)) ∧ RdAt ρ.n base w' R ∧ w.grownBy w' (some R) := by
  have hl := h.lt
  have HR := hide h
  clear h
  go_enter Tryz.func131, Tryz.ntmps131
  go_wp2_with (first
    | (go_at_call 174; refine (pick_any R base w.heap.size short6 _ (HR.out.keep (bel_alloc (Below.refl _ _) _)) (by decide) (by decide) (by omega) (lit_cells short6 w)).mono ?_; rintro e w2 ⟨s, rfl, hs, hr2, hg2, hse⟩; have HSE := hide hse; clear hse)
    | fail)
  go_ret
  exact ⟨by rw [HSE.out]; rfl, hr2, ((grown_of (bel_alloc (Below.refl w.heap.size w) _)).but (some R)).trans hg2⟩
/-- What is carried where a reader goes on. -/
theorem Carry.rd {ρ : Pl} {base R : Nat} {w w' : World} (h : RdAt ρ base w R) (hg : w.grownBy w' (some R)) : Carry (fun b => b ≠ R) (fun b => b ≠ R) w w' := by
  obtain ⟨a, cap, h1, _⟩ := h
  refine ⟨fun p ys hp => World.ownsRow.kept hp hg (.inr (by simp [Value.ownBlock]; exact rows_ne hp h1 (by decide))), fun b hb hl => ⟨hb, fun o u hu => by rw [hg.cell_far ⟨b, o, none⟩ hl (by simp; exact hb)]; exact hu⟩, fun ps us ht => ⟨ht.1, fun j a1 a2 => ((ht.2 j a1 a2).grown hg (fun k hk => by simp at hk; subst hk; obtain ⟨cs, hcs⟩ := row_tag h1; exact ⟨cs, 176, by decide, hcs⟩)).mono hg.size⟩⟩
/-- A node made of a row of kids that was made ahead of it. -/
theorem mk_rowQ {Q : Nat → Prop} (h : Hd) (ts : List Tt) (ps : List Nat) (w W : World) (hW : W = w.alloc (.cells (ps.map ptrV).toArray 72)) (hq : Q w.heap.size) (hl : ps.length = ts.length) (h3 : ts.length ≤ 3) (hlv : h.lv = []) (hk : h.k ≠ 1) (hs : ∀ j (h1 : j < ps.length) (h2 : j < ts.length), SpG Q w ts[j] ps[j]) (hn : ∀ t ∈ ts, t.all numP) :
    Calls Tryz.prog 92 #[.int .i64 h.k, .int .i64 h.n, .int .i64 h.m, .string h.s, .slice none 0 0, .slice (some ⟨w.heap.size, 0, none⟩) ps.length ps.length] W fun e w' => e = .returned (ptrV W.heap.size) ∧ SpG Q w' (Tt.mk h ts) W.heap.size ∧ Below W.heap.size W w' := by
  have hbW : Below w.heap.size w W := by rw [hW]; exact bel_alloc (Below.refl _ _) _
  have hcell : ∀ j (hj : j < ps.length), W.cell? ⟨w.heap.size, 0 + j, none⟩ = some (ptrV ps[j]) := fun j hj => by
    rw [hW, Nat.zero_add, cell_of_row _ _ _ _ _ _ (heap_alloc_new w _)]
    simp [hj]
  have hrow : PtrRowQ Q W (.slice (some ⟨w.heap.size, 0, none⟩) ps.length ps.length) ps := ⟨_, _, rfl, Nat.le_refl _, by unfold maxLen; omega, fun _ => ⟨w.heap.size, 0, rfl, hq, hcell⟩⟩
  exact make_tree (Q := Q) (R := Q) hl h3 (by rw [hlv]; exact levrow_nil Q W) hrow (fun j h1 h2 => (hs j h1 h2).keep hbW) hn (fun e => absurd e hk) (fun e => absurd e hk) rfl
def bindH (k m : Int) (s : ByteArray) : Hd := ⟨k, 0, m, s, []⟩
def projH (s : ByteArray) (n : Int) : Hd := ⟨8, n, 0, s, []⟩
def letH (s : ByteArray) : Hd := ⟨7, 0, 0, s, []⟩
set_option maxRecDepth 20000 in
set_option maxHeartbeats 2000000 in
theorem l3AppQ_any {Q : Nat → Prop}  (F A : Tt) (pf pa : Nat) (w : World) (hq : Q w.heap.size) (hpf : SpG Q w F pf) (hpa : SpG Q w A pa) (npf : F.all numP) (npa : A.all numP) :
    Calls Tryz.prog 82 #[.pointer (some ⟨pf, 0, none⟩), .pointer (some ⟨pa, 0, none⟩)] w fun e w' => ∃ p, e = .returned (ptrV p) ∧ SpG Q w' (Tt.mk appH [F, A]) p ∧ Below w.heap.size w w' := by
  obtain ⟨W, hW⟩ : ∃ W, W = w.alloc (.cells #[.pointer (some ⟨pf, 0, none⟩), .pointer (some ⟨pa, 0, none⟩)] 72) := ⟨_, rfl⟩
  have hbW : Below w.heap.size w W := by rw [hW]; exact bel_alloc (Below.refl _ _) _
  have HM := hide (mk_rowQ (Q := Q) appH [F, A] [pf, pa] w W hW hq rfl (by simp) rfl (by decide) (fun j h1 h2 => by
    rcases (show j = 0 ∨ j = 1 by simp at h1; omega) with rfl | rfl
    · exact hpf
    · exact hpa) (fun t ht => by
    simp only [List.mem_cons, List.not_mem_nil, or_false] at ht
    rcases ht with rfl | rfl
    · exact npf
    · exact npa))
  have HM : Hid (Calls Tryz.prog 92 #[.int .i64 4, .int .i64 0, .int .i64 0, .string ⟨#[]⟩, .slice none 0 0, .slice (some ⟨w.heap.size, 0, none⟩) 2 2] W fun e w' => e = .returned (ptrV W.heap.size) ∧ SpG Q w' (Tt.mk appH [F, A]) W.heap.size ∧ Below W.heap.size W w') := HM.out
  have HBW := hide hbW
  have HBS := hide hbW.size
  clear hpf hpa npf npa hbW hq
  go_enter Tryz.func82, Tryz.ntmps82
  go_wp2_with fail
  first | rw [← hW] | skip
  clear hW
  generalize hsz : W.heap.size = sz at *
  clear hsz
  refine HM.out.mono ?_
  rintro e w1 ⟨rfl, h1, h2⟩
  have H1 := hide h1
  have H2 := hide (HBW.out.trans (h2.mono HBS.out))
  clear h1 h2
  unfold ptrV
  go_wp2_with fail
  go_ret
  exact ⟨_, rfl, H1.out, H2.out⟩
set_option maxRecDepth 20000 in
set_option maxHeartbeats 2000000 in
theorem l3BindQ_any {Q : Nat → Prop} (k m : Int) (s : ByteArray) (hk : k ≠ 1) (F A : Tt) (pf pa : Nat) (w : World) (hq : Q w.heap.size) (hpf : SpG Q w F pf) (hpa : SpG Q w A pa) (npf : F.all numP) (npa : A.all numP) :
    Calls Tryz.prog 134 #[.int .i64 k, .int .i64 m, .string s, .pointer (some ⟨pf, 0, none⟩), .pointer (some ⟨pa, 0, none⟩)] w fun e w' => ∃ p, e = .returned (ptrV p) ∧ SpG Q w' (Tt.mk (bindH k m s) [F, A]) p ∧ Below w.heap.size w w' := by
  obtain ⟨W, hW⟩ : ∃ W, W = w.alloc (.cells #[.pointer (some ⟨pf, 0, none⟩), .pointer (some ⟨pa, 0, none⟩)] 72) := ⟨_, rfl⟩
  have hbW : Below w.heap.size w W := by rw [hW]; exact bel_alloc (Below.refl _ _) _
  have HM := hide (mk_rowQ (Q := Q) (bindH k m s) [F, A] [pf, pa] w W hW hq rfl (by simp) rfl hk (fun j h1 h2 => by
    rcases (show j = 0 ∨ j = 1 by simp at h1; omega) with rfl | rfl
    · exact hpf
    · exact hpa) (fun t ht => by
    simp only [List.mem_cons, List.not_mem_nil, or_false] at ht
    rcases ht with rfl | rfl
    · exact npf
    · exact npa))
  have HM : Hid (Calls Tryz.prog 92 #[.int .i64 k, .int .i64 0, .int .i64 m, .string s, .slice none 0 0, .slice (some ⟨w.heap.size, 0, none⟩) 2 2] W fun e w' => e = .returned (ptrV W.heap.size) ∧ SpG Q w' (Tt.mk (bindH k m s) [F, A]) W.heap.size ∧ Below W.heap.size W w') := HM.out
  have HBW := hide hbW
  have HBS := hide hbW.size
  clear hpf hpa npf npa hbW hq hk
  go_enter Tryz.func134, Tryz.ntmps134
  go_wp2_with fail
  first | rw [← hW] | skip
  clear hW
  generalize hsz : W.heap.size = sz at *
  clear hsz
  refine HM.out.mono ?_
  rintro e w1 ⟨rfl, h1, h2⟩
  have H1 := hide h1
  have H2 := hide (HBW.out.trans (h2.mono HBS.out))
  clear h1 h2
  unfold ptrV
  go_wp2_with fail
  go_ret
  exact ⟨_, rfl, H1.out, H2.out⟩
set_option maxRecDepth 20000 in
set_option maxHeartbeats 2000000 in
theorem l3ProjQ_any {Q : Nat → Prop} (s : ByteArray) (n : Int) (F : Tt) (pf : Nat) (w : World) (hq : Q w.heap.size) (hpf : SpG Q w F pf) (npf : F.all numP) :
    Calls Tryz.prog 132 #[.string s, .int .i64 n, .pointer (some ⟨pf, 0, none⟩)] w fun e w' => ∃ p, e = .returned (ptrV p) ∧ SpG Q w' (Tt.mk (projH s n) [F]) p ∧ Below w.heap.size w w' := by
  obtain ⟨W, hW⟩ : ∃ W, W = w.alloc (.cells #[.pointer (some ⟨pf, 0, none⟩)] 72) := ⟨_, rfl⟩
  have hbW : Below w.heap.size w W := by rw [hW]; exact bel_alloc (Below.refl _ _) _
  have HM := hide (mk_rowQ (Q := Q) (projH s n) [F] [pf] w W hW hq rfl (by simp) rfl (by show (8 : Int) ≠ 1; decide) (fun j h1 h2 => by
    rcases (show j = 0 by simp at h1; omega) with rfl
    exact hpf) (fun t ht => by
    simp only [List.mem_cons, List.not_mem_nil, or_false] at ht
    rcases ht with rfl
    exact npf))
  have HM : Hid (Calls Tryz.prog 92 #[.int .i64 8, .int .i64 n, .int .i64 0, .string s, .slice none 0 0, .slice (some ⟨w.heap.size, 0, none⟩) 1 1] W fun e w' => e = .returned (ptrV W.heap.size) ∧ SpG Q w' (Tt.mk (projH s n) [F]) W.heap.size ∧ Below W.heap.size W w') := HM.out
  have HBW := hide hbW
  have HBS := hide hbW.size
  clear hpf npf hbW hq
  go_enter Tryz.func132, Tryz.ntmps132
  go_wp2_with fail
  first | rw [← hW] | skip
  clear hW
  generalize hsz : W.heap.size = sz at *
  clear hsz
  refine HM.out.mono ?_
  rintro e w1 ⟨rfl, h1, h2⟩
  have H1 := hide h1
  have H2 := hide (HBW.out.trans (h2.mono HBS.out))
  clear h1 h2
  unfold ptrV
  go_wp2_with fail
  go_ret
  exact ⟨_, rfl, H1.out, H2.out⟩
def holeH (n : Int) : Hd := ⟨9, n, 0, ⟨#[]⟩, []⟩
set_option maxRecDepth 20000 in
set_option maxHeartbeats 2000000 in
theorem l3HoleQ_any (Q : Nat → Prop) (n : Int) (w : World) : Calls Tryz.prog 133 #[.int .i64 n] w fun e w' => ∃ p, e = .returned (ptrV p) ∧ SpG Q w' (.t0 (holeH n)) p ∧ Below w.heap.size w w' := by
  have HM := hide (make_tree (Q := Q) (R := Q) (h := holeH n) (ts := []) (ps := []) (lvv := .slice none 0 0) (kdv := .slice none 0 0) (w := w) rfl (by simp) (levrow_nil Q w) (ptrrow_nil Q w) (fun j h => by simp at h) (fun t ht => by simp at ht) (fun e => by simp [holeH] at e) (fun _ => rfl) rfl)
  have HM : Hid (Calls Tryz.prog 92 #[.int .i64 9, .int .i64 n, .int .i64 0, .string ⟨#[]⟩, .slice none 0 0, .slice none 0 0] w fun e w' => e = .returned (ptrV w.heap.size) ∧ SpG Q w' (.t0 (holeH n)) w.heap.size ∧ Below w.heap.size w w') := HM.out
  go_enter Tryz.func133, Tryz.ntmps133
  go_wp2_with fail
  refine HM.out.mono ?_
  rintro e w1 ⟨rfl, h1, h2⟩
  have H1 := hide h1
  have H2 := hide h2
  clear h1 h2
  unfold ptrV
  go_wp2_with fail
  go_ret
  exact ⟨w.heap.size, rfl, H1.out, H2.out⟩
def constH (s : ByteArray) (ls : List (List Nd)) : Hd := ⟨3, 0, 0, s, ls⟩
set_option maxRecDepth 20000 in
set_option maxHeartbeats 2000000 in
theorem l3ConstQ_any (Q : Nat → Prop) (s : ByteArray) (v : Value) (ls : List (List Nd)) (w : World) (hv : LevRowF Q w v ls) : Calls Tryz.prog 129 #[.string s, v] w fun e w' => ∃ p, e = .returned (ptrV p) ∧ SpG Q w' (.t0 (constH s ls)) p ∧ Below w.heap.size w w' := by
  have HM := hide (make_tree (Q := Q) (R := Q) (h := constH s ls) (ts := []) (ps := []) (lvv := v) (kdv := .slice none 0 0) (w := w) rfl (by simp) hv (ptrrow_nil Q w) (fun j h => by simp at h) (fun t ht => by simp at ht) (fun e => by simp [constH] at e) (fun _ => rfl) rfl)
  have HM : Hid (Calls Tryz.prog 92 #[.int .i64 3, .int .i64 0, .int .i64 0, .string s, v, .slice none 0 0] w fun e w' => e = .returned (ptrV w.heap.size) ∧ SpG Q w' (.t0 (constH s ls)) w.heap.size ∧ Below w.heap.size w w') := HM.out
  obtain ⟨la, lc, lps, rfl⟩ : ∃ la lc lps, v = .slice la lps lc := by obtain ⟨ps, us, e1, ⟨a, cap, rfl, _⟩, _⟩ := hv; exact ⟨_, _, _, rfl⟩
  clear hv
  go_enter Tryz.func129, Tryz.ntmps129
  go_wp2_with fail
  refine HM.out.mono ?_
  rintro e w1 ⟨rfl, h1, h2⟩
  have H1 := hide h1
  have H2 := hide h2
  clear h1 h2
  unfold ptrV
  go_wp2_with fail
  go_ret
  exact ⟨w.heap.size, rfl, H1.out, H2.out⟩
def sortH (l : List Nd) : Hd := ⟨2, 0, 0, ⟨#[]⟩, [l]⟩
set_option maxRecDepth 20000 in
set_option maxHeartbeats 2000000 in
theorem l3SortQ_any {Q : Nat → Prop} (t : Tr) (g : Nat) (w : World) (hq : Q w.heap.size) (ht : TreeAt w.heap.size w g t) (hok : t.ok) (hf : fitsB t = true) : Calls Tryz.prog 127 #[.pointer (some ⟨g, 0, none⟩)] w fun e w' => ∃ p, e = .returned (ptrV p) ∧ SpG Q w' (.t0 (sortH (t.flat 0))) p ∧ Below w.heap.size w w' := by
  obtain ⟨W, hW⟩ : ∃ W, W = w.alloc (.cells #[.pointer (some ⟨g, 0, none⟩)] 164) := ⟨_, rfl⟩
  have hbW : Below w.heap.size w W := by rw [hW]; exact bel_alloc (Below.refl _ _) _
  have hc0 : W.cell? ⟨w.heap.size, 0, none⟩ = some (ptrV g) := by rw [hW]; simp [go_sem, ptrV]
  have hv : LevRowF Q W (.slice (some ⟨w.heap.size, 0, none⟩) 1 1) [t.flat 0] := ⟨[g], [t], rfl, ⟨_, _, rfl, Nat.le_refl _, by unfold maxLen; omega, fun _ => ⟨w.heap.size, 0, rfl, hq, fun j hj => by
    have e : j = 0 := by simp at hj; omega
    subst e
    exact hc0⟩⟩, ⟨⟨rfl, fun j h1 h2 => by
    have e : j = 0 := by simp at h1; omega
    subst e
    exact (ht.keep hbW).mono hbW.size⟩, fun u hu => by simp at hu; rw [hu]; exact hf⟩, rfl, fun q h1 h2 => by
    have e : q = 0 := by simp at h1; omega
    subst e
    exact ⟨rfl, hok, Tr.names_flat t 0 [] hok, (Tr.flat_len t 0).symm⟩⟩
  have HM := hide (make_tree (Q := Q) (R := Q) (h := sortH (t.flat 0)) (ts := []) (ps := []) (lvv := .slice (some ⟨w.heap.size, 0, none⟩) 1 1) (kdv := .slice none 0 0) (w := W) rfl (by simp) hv (ptrrow_nil Q W) (fun j h => by simp at h) (fun t ht => by simp at ht) (fun e => by simp [sortH] at e) (fun _ => rfl) rfl)
  have HM : Hid (Calls Tryz.prog 92 #[.int .i64 2, .int .i64 0, .int .i64 0, .string ⟨#[]⟩, .slice (some ⟨w.heap.size, 0, none⟩) 1 1, .slice none 0 0] W fun e w' => e = .returned (ptrV W.heap.size) ∧ SpG Q w' (.t0 (sortH (t.flat 0))) W.heap.size ∧ Below W.heap.size W w') := HM.out
  have HBW := hide hbW
  have HBS := hide hbW.size
  clear ht hbW hc0 hv hq hok hf
  go_enter Tryz.func127, Tryz.ntmps127
  go_wp2_with fail
  first | rw [← hW] | skip
  clear hW
  generalize hsz : W.heap.size = sz at *
  clear hsz
  refine HM.out.mono ?_
  rintro e w1 ⟨rfl, h1, h2⟩
  have H1 := hide h1
  have H2 := hide (HBW.out.trans (h2.mono HBS.out))
  clear h1 h2
  unfold ptrV
  go_wp2_with fail
  go_ret
  exact ⟨_, rfl, H1.out, H2.out⟩
end Go.Proofs.YtbgibiongnhjoaaGreat
