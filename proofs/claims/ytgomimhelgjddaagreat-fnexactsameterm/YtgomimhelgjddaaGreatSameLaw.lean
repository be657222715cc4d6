/- Plain facts: a level has one tree; and the program's sameNodes decides whether two levels have the same nodes. -/
import Derived.Test.YtgomimhelgjddaaGreatLeqLaw
import Derived.Test.YtgomimhelgjddaaGreatImpl
namespace Go.Proofs.YtgomimhelgjddaaGreat
open Go.ChangeShapes Go.WideShapes Go.ChangeAt Go.RowKit

theorem its_same {t1 t2 : Tr} (h1 : t1.ok) (h2 : t2.ok) (hf : t1.flat 0 = t2.flat 0) : ∀ (i : Nat) (x y : It), t1.its[i]? = some x → t2.its[i]? = some y → x = y := by
  intro i
  induction i using Nat.strongRecOn with
  | _ i ih =>
    intro x y hx hy
    have hi : i < t1.cnt := by rw [← its_len t1]; exact (List.getElem?_eq_some_iff.1 hx).1
    have hl : i < (t1.flat 0).length := by rw [Tr.flat_len]; exact hi
    have g1 : (t1.flat 0)[i]? = some ((t1.flat 0)[i]) := List.getElem?_eq_getElem hl
    have g2 : (t2.flat 0)[i]? = some ((t1.flat 0)[i]) := by rw [← hf]; exact g1
    have n1 := its_node t1 0 h1 i _ x g1 hx
    have n2 := its_node t2 0 h2 i _ y g2 hy
    generalize (t1.flat 0)[i] = nd at *
    rcases n1 with ⟨k1, rfl⟩ | ⟨k1, rfl⟩ | ⟨k1, q, a, e1, l1, m1, rfl⟩ | ⟨k1, q, r, a, b, e1, l1, l2, m1, m2, rfl⟩ | ⟨k1, q, r, a, b, e1, l1, l2, m1, m2, rfl⟩ <;>
    rcases n2 with ⟨k2, rfl⟩ | ⟨k2, rfl⟩ | ⟨k2, q', a', e1', l1', m1', rfl⟩ | ⟨k2, q', r', a', b', e1', l1', l2', m1', m2', rfl⟩ | ⟨k2, q', r', a', b', e1', l1', l2', m1', m2', rfl⟩ <;>
    first
      | (exfalso; omega)
      | rfl
      | (rw [e1] at e1'
         simp only [List.cons.injEq, and_true] at e1'
         obtain rfl : q = q' := by omega
         obtain rfl : r = r' := by omega
         rw [ih q l1 _ _ m1 m1', ih r l2 _ _ m2 m2'])
      | (rw [e1] at e1'
         simp only [List.cons.injEq, and_true] at e1'
         obtain rfl : q = q' := by omega
         rw [ih q l1 _ _ m1 m1'])
theorem it_same {ns : List Nd} {t1 t2 : Tr} (h1 : OkTree ns t1) (h2 : OkTree ns t2) : t1.it = t2.it := by
  have l1 := its_last t1
  have l2 := its_last t2
  have c : t1.cnt = t2.cnt := by rw [h1.2.2.2.1, h2.2.2.2.1]
  rw [← c] at l2
  exact its_same h1.2.1 h2.2.1 (by rw [← h1.1, ← h2.1]) _ _ _ l1 l2
theorem leqB_self (S : Sums) : leqB S S = true := by simp [leqB]
theorem cases_self (names : List ByteArray) (x : It) : casesLeq names x x = true := by
  unfold casesLeq
  rw [List.all_eq_true]
  intro z _
  exact leqB_self _

def sameN (a b : Nd) : Bool := decide (a.k = b.k ∧ a.s = b.s ∧ a.kids = b.kids)
theorem sameN_iff (a b : Nd) : sameN a b = true ↔ a = b := by
  unfold sameN
  rw [decide_eq_true_eq]
  cases a; cases b; simp

set_option maxHeartbeats 1000000 in
theorem sameNode_any (n1 n2 : Nd) (k1 k2 : Value) (w : World) (h1 : IntsAt w k1 n1.kids) (h2 : IntsAt w k2 n2.kids) :
    Calls Tryz.prog 109 #[.agg #[.int .i64 n1.k, .string n1.s, k1], .agg #[.int .i64 n2.k, .string n2.s, k2]] w fun e w' => e = .returned (.bool (sameN n1 n2)) ∧ Below w.heap.size w w' := by
  have H1 : Hid (∀ o1 o2, IntsAt ((w.alloc o1).alloc o2) k1 n1.kids) := fun o1 o2 => h1.keep (((Below.refl w.heap.size w).alloc (Nat.le_refl _) o1).alloc (by simp) o2)
  have H2 : Hid (∀ o1 o2, IntsAt ((w.alloc o1).alloc o2) k2 n2.kids) := fun o1 o2 => h2.keep (((Below.refl w.heap.size w).alloc (Nat.le_refl _) o1).alloc (by simp) o2)
  obtain ⟨a1, cap1, rfl, _, _, _⟩ := h1
  obtain ⟨a2, cap2, rfl, _, _, _⟩ := h2
  by_cases hk : n1.k = n2.k
  · by_cases hs : n1.s = n2.s
    · have HF : Hid (decide (n1.kids = n2.kids) = sameN n1 n2) := by show _ = _; simp [sameN, hk, hs]
      have hkb : (n1.k == n2.k) = true := by simp [hk]
      have hsb : (n1.s.toList == n2.s.toList) = true := by rw [beq_bytes]; simp [hs]
      clear hk hs
      go_enter Tryz.func109, Tryz.ntmps109
      go_wp2_with (go_at_call 74; refine (equal_any _ _ n1.kids n2.kids _ (H1.out _ _) (H2.out _ _)).mono ?_; rintro e w1 ⟨rfl, n, rfl⟩)
      go_ret
      exact ⟨ret_bool HF.out, below_drewN (((Below.refl w.heap.size w).alloc (Nat.le_refl _) _).alloc (by simp) _) n⟩
    · have HF : Hid (false = sameN n1 n2) := by show _ = _; simp [sameN, hs]
      have hkb : (n1.k == n2.k) = true := by simp [hk]
      have hsb : (n1.s.toList == n2.s.toList) = false := by rw [beq_bytes]; simp [hs]
      clear hk hs
      go_enter Tryz.func109, Tryz.ntmps109
      go_wp2_with fail
      go_ret
      exact ⟨ret_bool HF.out, ((Below.refl w.heap.size w).alloc (Nat.le_refl _) _).alloc (by simp) _⟩
  · have HF : Hid (false = sameN n1 n2) := by show _ = _; simp [sameN, hk]
    have hkb : (n1.k == n2.k) = false := by simp [hk]
    clear hk
    go_enter Tryz.func109, Tryz.ntmps109
    go_wp2_with fail
    go_ret
    exact ⟨ret_bool HF.out, ((Below.refl w.heap.size w).alloc (Nat.le_refl _) _).alloc (by simp) _⟩


set_option maxHeartbeats 2000000 in
theorem equalFunc_any (v1 v2 : Value) (ns1 ns2 : List Nd) (w : World) (h1 : NodesAt w v1 ns1) (h2 : NodesAt w v2 ns2) :
    Calls Tryz.prog 108 #[v1, v2, .func (.func 109) #[] #[]] w fun e w' => (∃ r : Bool, e = .returned (.bool r) ∧ (r = true → ns1 = ns2)) ∧ Below w.heap.size w w' := by
  obtain ⟨a1, cap1, rfl, hl1, hm1, hc1⟩ := h1
  obtain ⟨a2, cap2, rfl, hl2, hm2, hc2⟩ := h2
  unfold maxLen at hm1 hm2
  by_cases hlen : ns1.length = ns2.length
  · have H1 : Hid (0 < ns1.length → ∃ b off, a1 = some ⟨b, off, none⟩ ∧ ∀ i (h : i < ns1.length), NodeAt w b (off + i * 3) ns1[i]) := hc1
    have H2 : Hid (0 < ns2.length → ∃ b off, a2 = some ⟨b, off, none⟩ ∧ ∀ i (h : i < ns2.length), NodeAt w b (off + i * 3) ns2[i]) := hc2
    have hq : ((ns1.length : Int) != (ns2.length : Int)) = false := by simp [hlen]
    have HL : Hid (ns1.length = ns2.length) := hlen
    have hle : ns1.length ≤ ns2.length := by omega
    clear hc1 hc2 hlen
    go_enter Tryz.func108, Tryz.ntmps108
    go_wp2_with fail
    go_loopw [17] (fun i wr => ∃ (k : Nat), k ≤ ns1.length ∧ i = .int .i64 k ∧ Below w.heap.size w wr ∧ Hid (∀ j (h : j < ns1.length) (h2 : j < ns2.length), j < k → ns1[j] = ns2[j])) (fun i _ => ns1.length - (intOf i).toNat)
    case atStart => exact ⟨0, by omega, rfl, Below.refl _ _, fun j _ _ h => by omega⟩
    case round =>
      obtain ⟨k, hk, rfl, hbel, HA⟩ := hrel
      by_cases hlt : k < ns1.length
      · obtain ⟨b1, o1, rfl, c1⟩ := H1.out (by omega)
        obtain ⟨b2, o2, rfl, c2⟩ := H2.out (by omega)
        obtain ⟨p1, p2, kv1, p3, p4⟩ := (c1 k hlt).keep (w' := wr) hbel
        obtain ⟨q1, q2, kv2, q3, q4⟩ := (c2 k (by omega)).keep (w' := wr) hbel
        have hlt' : (k : Int) < ns1.length := by omega
        have hlt2 : (k : Int) < ns2.length := by omega
        have HN : Hid (sameN ns1[k] (ns2[k]'(by omega)) = true → ∀ j (h : j < ns1.length) (h2 : j < ns2.length), j < k + 1 → ns1[j] = ns2[j]) := by
          intro he j h h2 hj
          by_cases e : j = k
          · subst e; exact (sameN_iff _ _).1 he
          · exact HA.out j h h2 (by omega)
        have P4 := hide p4
        have Q4 := hide q4
        obtain ⟨ka1, kc1, rfl, _, _, _⟩ := p4
        obtain ⟨ka2, kc2, rfl, _, _, _⟩ := q4
        have l1 := lt_cell p1
        have l2 := lt_cell q1
        have HB := hide hbel
        clear c1 c2 H1 H2
        generalize ns1[k] = n1 at *
        generalize ns2[k]'(by omega) = n2 at *
        go_wp2_with fail
        refine (sameNode_any n1 n2 _ _ _ (P4.out.keep (bel_alloc (bel_alloc (Below.refl _ _) _) _)) (Q4.out.keep (bel_alloc (bel_alloc (Below.refl _ _) _) _))).mono ?_
        rintro e w1 ⟨rfl, hb1⟩
        have hbw := hide (bel_trans HB.out (bel_trans (bel_alloc (bel_alloc (Below.refl wr.heap.size wr) _) _) hb1))
        clear hb1 hbel
        cases hs : sameN n1 n2
        · clear hs HN
          go_wp2_with fail
          go_ret
          exact ⟨⟨false, rfl, fun h => by cases h⟩, hbw.out⟩
        · have HM := hide (HN.out hs)
          clear hs HN
          go_wp2_with fail
          go_roundw
          case rel => exact ⟨k + 1, by omega, by go_num, hbw.out, HM⟩
          case measure => simp [intOf]; omega
      · have HE : Hid (ns1 = ns2) := List.ext_getElem HL.out (fun j h h2 => HA.out j h h2 (by omega))
        go_wp2_with fail
        go_ret
        exact ⟨⟨true, rfl, fun _ => HE.out⟩, hbel⟩
  · have hq : ((ns1.length : Int) != (ns2.length : Int)) = true := by
      rw [bne_iff_ne]; omega
    clear hc1 hc2 hlen
    go_enter Tryz.func108, Tryz.ntmps108
    go_wp2_with fail
    go_ret
    exact ⟨⟨false, rfl, fun h => by cases h⟩, Below.refl _ _⟩

set_option maxHeartbeats 1000000 in
theorem sameNodes_any (v1 v2 : Value) (ns1 ns2 : List Nd) (w : World) (h1 : NodesAt w v1 ns1) (h2 : NodesAt w v2 ns2) :
    Calls Tryz.prog 64 #[.agg #[v1], .agg #[v2]] w fun e w' => (∃ r : Bool, e = .returned (.bool r) ∧ (r = true → ns1 = ns2)) ∧ Below w.heap.size w w' := by
  have HN1 := hide h1
  have HN2 := hide h2
  obtain ⟨a1, cap1, rfl, _, _, _⟩ := h1
  obtain ⟨a2, cap2, rfl, _, _, _⟩ := h2
  have HB0 : Hid (∀ o1 o2, Below w.heap.size w ((w.alloc o1).alloc o2)) := fun o1 o2 => bel_alloc (bel_alloc (Below.refl _ _) o1) o2
  go_enter Tryz.func64, Tryz.ntmps64
  go_wp2_with fail
  refine (equalFunc_any _ _ ns1 ns2 _ (HN1.out.keep (HB0.out _ _)) (HN2.out.keep (HB0.out _ _))).mono ?_
  rintro e w1 ⟨⟨r, rfl, hr⟩, hb1⟩
  have HR := hide hr
  have hbel1 := hide (bel_trans (HB0.out _ _) hb1)
  clear hb1 hr
  go_wp2_with fail
  go_ret
  exact ⟨⟨r, rfl, HR.out⟩, hbel1.out⟩
end Go.Proofs.YtgomimhelgjddaaGreat

/- What the program's LevelSame answers at valid levels. -/
namespace Go.Proofs.YtgomimhelgjddaaGreat
open Go.ChangeShapes Go.WideShapes Go.ChangeAt Go.RowKit

set_option maxRecDepth 10000 in
set_option maxHeartbeats 2000000 in
theorem implSame_any (v1 v2 : Value) (ns1 ns2 : List Nd) (t1 t2 s1 s2 : Tr) (w : World) (hn1 : NodesAt w v1 ns1) (hn2 : NodesAt w v2 ns2) (hz1 : ∀ nd ∈ ns1, nd.s.size ≤ maxLen) (hz2 : ∀ nd ∈ ns2, nd.s.size ≤ maxLen) (hl1 : lvlB ns1 = true) (hl2 : lvlB ns2 = true) (h1 : OkTree ns1 t1) (h2 : OkTree ns2 t2) (k1 : OkTree ns1 s1) (k2 : OkTree ns2 s2) :
    Calls Tryz.prog 42 #[.agg #[v1], .agg #[v2]] w fun e w' => e = .returned (.bool (casesLeq (namesOf ns1) t1.it t2.it && casesLeq (namesOf ns2) s2.it s1.it)) ∧ Below w.heap.size w w' := by
  have HN1 := hide hn1
  have HN2 := hide hn2
  have HZ1 := hide hz1
  have HZ2 := hide hz2
  have HL1 := hide hl1
  have HL2 := hide hl2
  obtain ⟨a1, cap1, rfl, _, _, _⟩ := hn1
  obtain ⟨a2, cap2, rfl, _, _, _⟩ := hn2
  have HLQ : Hid (∀ w', NodesAt w' (.slice a1 ns1.length cap1) ns1 → NodesAt w' (.slice a2 ns2.length cap2) ns2 → Calls Tryz.prog 65 #[.agg #[.slice a1 ns1.length cap1], .agg #[.slice a2 ns2.length cap2]] w' fun e w2 => e = .returned (.bool (casesLeq (namesOf ns1) t1.it t2.it)) ∧ Below w'.heap.size w' w2) := fun w' q1 q2 => implLeq_any _ _ ns1 ns2 t1 t2 w' q1 q2 h1 h2
  have HLR : Hid (∀ w', NodesAt w' (.slice a1 ns1.length cap1) ns1 → NodesAt w' (.slice a2 ns2.length cap2) ns2 → Calls Tryz.prog 65 #[.agg #[.slice a2 ns2.length cap2], .agg #[.slice a1 ns1.length cap1]] w' fun e w2 => e = .returned (.bool (casesLeq (namesOf ns2) s2.it s1.it)) ∧ Below w'.heap.size w' w2) := fun w' q1 q2 => implLeq_any _ _ ns2 ns1 s2 s1 w' q2 q1 k2 k1
  have HE : Hid (ns1 = ns2 → (casesLeq (namesOf ns1) t1.it t2.it && casesLeq (namesOf ns2) s2.it s1.it) = true) := by
    intro e
    have e1 : t1.it = t2.it := it_same (ns := ns1) h1 (by rw [e]; exact h2)
    have e2 : s1.it = s2.it := it_same (ns := ns1) k1 (by rw [e]; exact k2)
    rw [e1, e2, cases_self, cases_self]; rfl
  clear hz1 hz2 hl1 hl2 h1 h2 k1 k2
  generalize casesLeq (namesOf ns1) t1.it t2.it = r1 at *
  generalize casesLeq (namesOf ns2) s2.it s1.it = r2 at *
  have HB0 : Hid (∀ o1 o2, Below w.heap.size w ((w.alloc o1).alloc o2)) := fun o1 o2 => bel_alloc (bel_alloc (Below.refl _ _) o1) o2
  go_enter Tryz.func42, Tryz.ntmps42
  go_wp2_with fail
  refine (implLevelOk_any _ ns1 _ (HN1.out.keep (HB0.out _ _)) HZ1.out).mono ?_
  rintro e w1 ⟨rfl, hb1⟩
  rw [HL1.out]
  have d0 := keep_cell (b := w.heap.size) (o := 0) (v := .slice a1 ns1.length cap1) hb1 (by simp [go_sem])
  have d1 := keep_cell (b := w.heap.size + 1) (o := 0) (v := .slice a2 ns2.length cap2) hb1 (by simp [go_sem])
  have hbel1 := bel_trans (HB0.out _ _) hb1
  clear hb1
  go_wp2_with fail
  refine (implLevelOk_any _ ns2 _ (HN2.out.keep hbel1) HZ2.out).mono ?_
  rintro e w2 ⟨rfl, hb2⟩
  rw [HL2.out]
  have e0 := keep_cell hb2 d0
  have e1 := keep_cell hb2 d1
  have hbel2 := bel_trans hbel1 hb2
  clear hb2 d0 d1
  go_wp2_with fail
  refine (sameNodes_any _ _ ns1 ns2 _ (HN1.out.keep hbel2) (HN2.out.keep hbel2)).mono ?_
  rintro e w3 ⟨⟨r, rfl, hr⟩, hb3⟩
  have f0 := keep_cell hb3 e0
  have f1 := keep_cell hb3 e1
  have hbel3 := bel_trans hbel2 hb3
  clear hb3 e0 e1 hbel2 hbel1
  cases r
  · clear hr HE
    go_wp2_with fail
    refine (HLQ.out _ (HN1.out.keep hbel3) (HN2.out.keep hbel3)).mono ?_
    rintro e w4 ⟨rfl, hb4⟩
    have g0 := keep_cell hb4 f0
    have g1 := keep_cell hb4 f1
    have hbel4 := bel_trans hbel3 hb4
    clear hb4 f0 f1 hbel3
    cases r1
    · go_wp2_with fail
      go_ret
      exact ⟨rfl, hbel4⟩
    · go_wp2_with fail
      refine (HLR.out _ (HN1.out.keep hbel4) (HN2.out.keep hbel4)).mono ?_
      rintro e w5 ⟨rfl, hb5⟩
      have hbel5 := bel_trans hbel4 hb5
      clear hb5
      go_wp2_with fail
      go_ret
      exact ⟨rfl, hbel5⟩
  · have HT := hide (HE.out (hr rfl))
    clear hr HE
    go_wp2_with fail
    go_ret
    exact ⟨ret_bool HT.out.symm, hbel3⟩

end Go.Proofs.YtgomimhelgjddaaGreat
