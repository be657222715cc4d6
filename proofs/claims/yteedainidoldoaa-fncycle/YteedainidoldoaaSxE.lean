/- Rows that are copied by append, and the draw of the two laws. -/
import Derived.Test.YteedainidoldoaaSxC
import Derived.Test.YteedainidoldoaaSxD
import Derived.Deep.AppendLies
namespace Go.Proofs.Yteedainidoldoaa
open Go.ChangeShapes Go.WideShapes Go.ChangeAt Go.RowKit

def pickC (c : Cn) (r : Nat) : Value := .int .i64 (if r = 0 then c.a else if r = 1 then c.n else c.b)
/-- Constraints as cells. -/
def flatC (cs : List Cn) : List Value := (List.range (cs.length * 3)).map (fun j => pickC (cs.getD (j / 3) default) (j % 3))
theorem flatC_len (cs : List Cn) : (flatC cs).length = cs.length * 3 := by simp [flatC]
theorem flatC_get (cs : List Cn) {j : Nat} (h : j < cs.length * 3) : (flatC cs)[j]? = some (pickC (cs.getD (j / 3) default) (j % 3)) := by
  unfold flatC
  rw [List.getElem?_map, List.getElem?_range h]
  rfl
theorem flatC_in (cs : List Cn) : ConsIn (flatC cs) cs cs.length := by
  intro i hi _
  have e : cs.getD i default = cs[i] := by simp [List.getD, hi]
  refine ⟨?_, ?_, ?_⟩
  · rw [flatC_get cs (by omega), show i * 3 / 3 = i by omega, show i * 3 % 3 = 0 by omega, e]; rfl
  · rw [flatC_get cs (by omega), show (i * 3 + 1) / 3 = i by omega, show (i * 3 + 1) % 3 = 1 by omega, e]; rfl
  · rw [flatC_get cs (by omega), show (i * 3 + 2) / 3 = i by omega, show (i * 3 + 2) % 3 = 2 by omega, e]; rfl
theorem flatC_one (cs : List Cn) : ∀ u ∈ flatC cs, u.oneCell' = true := by
  intro u hu
  unfold flatC at hu
  obtain ⟨j, _, rfl⟩ := List.mem_map.1 hu
  rfl
theorem flatC_cells {w : World} {b off : Nat} {cs : List Cn} (h : ∀ i (h : i < cs.length), ConAt w b (off + i * 3) cs[i]) : ∀ j u, (flatC cs)[j]? = some u → w.cell? ((⟨b, off, none⟩ : Addr).add j) = some u := by
  intro j u hu
  have hj : j < cs.length * 3 := by
    have := (List.getElem?_eq_some_iff.1 hu).1
    rw [flatC_len] at this
    exact this
  rw [flatC_get cs hj] at hu
  cases hu
  have hi : j / 3 < cs.length := by omega
  have e : cs.getD (j / 3) default = cs[j / 3] := by simp [List.getD, hi]
  obtain ⟨c1, c2, c3⟩ := h (j / 3) hi
  rw [Addr.add_lit, e]
  rcases (show j % 3 = 0 ∨ j % 3 = 1 ∨ j % 3 = 2 by omega) with e3 | e3 | e3
  · rw [e3, show off + j = off + j / 3 * 3 by omega]; exact c1
  · rw [e3, show off + j = off + j / 3 * 3 + 1 by omega]; exact c2
  · rw [e3, show off + j = off + j / 3 * 3 + 2 by omega]; exact c3
theorem ints_cells {w : World} {b off : Nat} {ks : List Int} (h : ∀ j (h : j < ks.length), w.cell? ⟨b, off + j, none⟩ = some (.int .i64 ks[j])) : ∀ j u, (ks.map (Value.int .i64))[j]? = some u → w.cell? ((⟨b, off, none⟩ : Addr).add j) = some u := by
  intro j u hu
  have hj : j < ks.length := by
    have := (List.getElem?_eq_some_iff.1 hu).1
    rw [List.length_map] at this
    exact this
  rw [List.getElem?_map, List.getElem?_eq_getElem hj] at hu
  cases hu
  rw [Addr.add_lit]
  exact h j hj
theorem ints_one (ks : List Int) : ∀ u ∈ ks.map (Value.int .i64), u.oneCell' = true := by
  intro u hu
  obtain ⟨j, _, rfl⟩ := List.mem_map.1 hu
  rfl
set_option maxRecDepth 20000 in
set_option maxHeartbeats 1000000 in
theorem drawSolve_any (a : Option Addr) (n cap : Nat) (w : World) (h : CodeAt w a n) (hn : n ≤ cap) (hc : cap ≤ maxLen) :
    Calls Try.prog 15 #[.slice a n cap] w fun e w' => ∃ (k : Int) (v : Value) (cs : List Cn), e = .returned (.tuple #[.int .i64 k, v]) ∧ ConsAt w' v cs ∧ 1 ≤ cs.length ∧ cs.length ≤ 12 ∧ Below w.heap.size w w' := by
  have HO := hide (open_b a n cap w h hn hc)
  clear h
  go_enter Try.func15, Try.ntmps15
  go_wp2_with (first
    | (go_at_call 29; refine HO.out.mono ?_; rintro e w1 ⟨rfl, hr1, hb1⟩; have HB1 := hide hb1; have HR1 := hide hr1; have hs1 := hr1.lt; clear hb1 hr1)
    | (go_at_call 28; refine (draw_b w.heap.size w.heap.size _ HR1.out).mono ?_; rintro e w2 ⟨k, v, m, rfl, hm1, hm2, hd⟩; have HD := hide hd; clear hd)
    | fail)
  refine bodyPost_ret (v := .tuple #[.int .i64 k, v]) (by simp [results, Try.results15, go_sem]) rfl ?_
  obtain ⟨⟨xs, hx1, hx2⟩, _, hgr⟩ := HD.out
  obtain ⟨cs, hcl, hcs⟩ := hx2.cons hx1.1
  obtain ⟨g, cp, rfl, _, _⟩ := hx1.form (by omega)
  refine ⟨k, _, cs, rfl, ConsIn.all hx1 hcl.symm hcs, by omega, by omega, ?_⟩
  exact HB1.out.trans ((Below.refl w.heap.size w1).grown hgr (by omega) (fun z hz => by cases hz; exact Nat.le_refl _))
end Go.Proofs.Yteedainidoldoaa
