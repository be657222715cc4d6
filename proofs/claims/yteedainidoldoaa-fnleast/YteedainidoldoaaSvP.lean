/- The heap as a set of raised sides: add and next. -/
import Derived.Test.YteedainidoldoaaSvO
namespace Go.Proofs.Yteedainidoldoaa
open Go.ChangeShapes Go.WideShapes Go.ChangeAt Go.RowKit

/-- The heap holds just these, each side once. -/
def HS (w : World) (rb : Nat) (M : Rp → Prop) : Prop := ∃ n f q, Hq w rb n f q ∧ HpF n f ∧ Dst n f ∧ (∀ p, InH n f p ↔ M p) ∧ (∀ p, M p → -1 ≤ p.2 ∧ p.2 < 30) ∧ ∀ j, j < 31 → (q j = true ↔ ∃ r, M (r, (j : Int) - 1))
theorem HS.keep {w w' : World} {rb : Nat} {M : Rp → Prop} (h : HS w rb M) (hb : Below w.heap.size w w') : HS w' rb M := by
  obtain ⟨n, f, q, h1, h2⟩ := h
  exact ⟨n, f, q, h1.keep hb, h2⟩
theorem HS.lt {w : World} {rb : Nat} {M : Rp → Prop} (h : HS w rb M) : rb < w.heap.size := by
  obtain ⟨n, f, q, h1, _⟩ := h
  exact h1.lt
theorem dst_len {n : Nat} {f : Nat → Rp} (hd : Dst n f) (hs : ∀ k, k < n → -1 ≤ (f k).2 ∧ (f k).2 < 30) : n ≤ 31 := by
  have h := nodup_le 30 ((List.range n).map (fun k => ((f k).2 + 1).toNat)) ?_ ?_
  · simpa using h
  · refine List.pairwise_map.2 (List.Pairwise.imp_of_mem ?_ (List.nodup_range (n := n)))
    intro a b ha hb hne hab
    refine hne ?_
    have ha := List.mem_range.1 ha
    have hb := List.mem_range.1 hb
    have h1 := hs a ha
    have h2 := hs b hb
    exact hd a b ha hb (by omega)
  · intro i hi
    obtain ⟨k, hk, rfl⟩ := List.mem_map.1 hi
    have := hs k (List.mem_range.1 hk)
    omega
def upB (q : Nat → Bool) (j : Nat) (b : Bool) : Nat → Bool := fun i => if i = j then b else q i
/-- Whether a side waits is written. -/
theorem Hq.wait {w : World} {rb n : Nat} {f : Nat → Rp} {q : Nat → Bool} (h : Hq w rb n f q) (j : Nat) (hj : j < 31) (b : Bool) : Hq (w.setCell ⟨rb, j + 1, none⟩ (.bool b)) rb n f (upB q j b) ∧ FrH rb w (w.setCell ⟨rb, j + 1, none⟩ (.bool b)) := by
  obtain ⟨v, xs, h1, h2, h3⟩ := h.lst
  have hgr : w.grownBy (w.setCell ⟨rb, j + 1, none⟩ (.bool b)) (some rb) := ⟨rfl, rfl, rfl, by simp, fun k _ hk => heap_setCell_other w ⟨rb, j + 1, none⟩ k _ (fun e => hk (by simp [e]))⟩
  have hne : v.ownBlock = none ∨ v.ownBlock ≠ some rb := by
    rcases h2.2 with ⟨rfl, _⟩ | ⟨g, cap, cur, rfl, hg, _⟩
    · exact .inl rfl
    · right
      show some g ≠ some rb
      intro e
      have := Option.some.inj e
      omega
  have hc0 : (w.setCell ⟨rb, j + 1, none⟩ (.bool b)).cell? ⟨rb, 0, none⟩ = some v := by rw [World.cell?_setCell_other _ _ _ _ (by simp)]; exact h1
  refine ⟨⟨⟨v, xs, hc0, h2.kept hgr hne, h3⟩, fun i hi => ?_, fun i => by rw [World.frozen?_setCell]; exact h.frz i⟩, (Below.refl rb w).setCell (p := ⟨_, _, _⟩) (Nat.le_refl _) _, fun k hk ho => ⟨hgr.block k hk (fun e => ho.1 (Option.some.inj e)), ho.1, fun x hx => ?_⟩⟩
  · unfold upB
    by_cases e : i = j
    · subst e
      rw [if_pos rfl]
      exact World.cell?_setCell_same _ _ _ (h.wts i hi)
    · rw [if_neg e, World.cell?_setCell_other _ _ _ _ (by simp <;> omega)]
      exact h.wts i hi
  · rw [hc0] at hx
    cases hx
    exact ho.2 _ h1

set_option maxRecDepth 20000 in
set_option maxHeartbeats 8000000 in
theorem add_any (rb : Nat) (M : Rp → Prop) (r s : Int) (w : World) (h : HS w rb M) (h0 : -1 ≤ s) (h1 : s < 30) :
    Calls Try.prog 36 #[.pointer (some ⟨rb, 0, none⟩), .int .i64 r, .int .i64 s] w fun e w' => (∃ v, e = .returned v) ∧ HS w' rb (fun p => M p ∨ (p = (r, s) ∧ ¬ ∃ r', M (r', s))) ∧ FrH rb w w' := by
  obtain ⟨n, f, q, g1, g2, g3, g4, g5, g6⟩ := h
  obtain ⟨j, hj⟩ : ∃ j : Nat, s = (j : Int) - 1 := ⟨(s + 1).toNat, by omega⟩
  have hj31 : j < 31 := by omega
  have hw := g1.wts j hj31
  have hfz := g1.frz (j + 1)
  have hrb := g1.lt
  have hlen : n ≤ 31 := dst_len g3 (fun k hk => g5 _ ((g4 _).1 ⟨k, hk, rfl⟩))
  have hq := g6 j hj31
  rw [← hj] at hq
  have hwj : IntKind.i64.wrap (s - -1) = (j : Int) := by rw [IntKind.wrap_i64]; omega
  have hsj : s - -1 = (j : Int) := by omega
  have hsj2 : s + 1 = (j : Int) := by omega
  have hji : (j : Int) < 31 := by omega
  cases hb : q j with
  | true =>
    rw [hb] at hw
    have hex := hq.1 hb
    have HZ : Hid (HS w rb (fun p => M p ∨ (p = (r, s) ∧ ¬ ∃ r', M (r', s)))) := by
      have e : (fun p => M p ∨ (p = (r, s) ∧ ¬ ∃ r', M (r', s))) = M := by
        funext p
        exact propext ⟨fun h => h.resolve_right (fun h => h.2 hex), .inl⟩
      rw [e]
      exact ⟨n, f, q, g1, g2, g3, g4, g5, g6⟩
    clear g1 g2 g3 g4 g5 g6 hq hex hb hj
    rw [Nat.add_comm j 1] at hw hfz
    go_enter Try.func36, Try.ntmps36
    go_wp2_with fail
    exact bodyPost_end (results_none Try.results36 _ _ _) rfl ⟨⟨_, rfl⟩, HZ.out, FrH.refl hrb⟩
  | false =>
    rw [hb] at hw
    have hno : ¬ ∃ r', M (r', s) := fun h => by rw [hq.2 h] at hb; cases hb
    have hwt := g1.wait j hj31 true
    rw [Nat.add_comm j 1] at hw hfz hwt
    have HW := hide hwt
    clear hwt
    have HP := hide (fun W (hW : Hq W rb n f (upB q j true)) => heapPush_any rb n f (upB q j true) r s W hW (by omega) g2)
    have HZ : Hid (∀ W f', Hq W rb (n + 1) f' (upB q j true) → HpF (n + 1) f' → Same (n + 1) (snF f n (r, s)) f' → HS W rb (fun p => M p ∨ (p = (r, s) ∧ ¬ ∃ r', M (r', s)))) := by
      intro W f' k1 k2 k3
      refine ⟨n + 1, f', upB q j true, k1, k2, k3.dst (dst_snoc g3 (fun x hx e => hno ⟨x.1, by have := (g4 x).1 hx; have e : x.2 = s := e; rw [← e]; exact this⟩)), fun p => ?_, fun p hp => ?_, fun i hi => ?_⟩
      · rw [k3.mem, inH_snoc, g4]
        constructor
        · rintro (h | h)
          · exact .inr ⟨h, hno⟩
          · exact .inl h
        · rintro (h | h)
          · exact .inr h
          · exact .inl h.1
      · rcases hp with hp | ⟨rfl, _⟩
        · exact g5 p hp
        · exact ⟨h0, h1⟩
      · unfold upB
        by_cases e : i = j
        · subst e
          rw [if_pos rfl]
          exact ⟨fun _ => ⟨r, .inr ⟨by rw [hj], hno⟩⟩, fun _ => rfl⟩
        · rw [if_neg e, g6 i hi]
          constructor
          · rintro ⟨x, hx⟩; exact ⟨x, .inl hx⟩
          · rintro ⟨x, hx | ⟨hx, _⟩⟩
            · exact ⟨x, hx⟩
            · exfalso
              have := congrArg Prod.snd hx
              simp only at this
              omega
    clear g1 g2 g3 g4 g5 g6 hq hno hb hj
    go_enter Try.func36, Try.ntmps36
    go_wp2_with (first
      | (go_at_call 46; refine (HP.out _ HW.out.1).mono ?_; rintro e w1 ⟨⟨v1, rfl⟩, f1, q1, u1, s1, r1⟩; have Z := hide (And.intro (HZ.out _ _ q1 u1 s1) (HW.out.2.trans r1)); clear q1 u1 s1 r1)
      | fail)
    exact bodyPost_end (results_none Try.results36 _ _ _) rfl ⟨⟨_, rfl⟩, Z.out.1, Z.out.2⟩
end Go.Proofs.Yteedainidoldoaa
