import PyProof.Rows.All
import Wide.All
import OpenK.AllK
import Wide.FinOn
import Open.SpecLaws
import KE.OsHead
import KE.OsGo
import HandS.ForSpec
import HandS.Comp
import HandS.Walk
import PySem.Challenge.RW_circlenotes_s03_rub
set_option Elab.async false
set_option linter.all false
set_option maxRecDepth 100000
/-! Helpers over the hand layer: heaps that only grow, comprehensions that only make. -/
namespace Cn
open PySem PySem.Spec PyProof.Rows L2
/-! ### heaps -/
theorem sameUp {H H4 : Hp} {p : Addr} {o : HO} (s : Same H H4) (h : H p = none) : Same H (upd H4 p o) := fun b x e => by
  rw [upd_ne (ne_of_none e h)]
  exact s b x e
theorem sameNew {H : Hp} {p : Addr} {o : HO} (h : H p = none) : Same H (upd H p o) := sameUp (Same.refl H) h
/-! ### comprehensions that only make -/
theorem mapRangeSucc {A : Type} (f : Nat → A) (i : Nat) : (List.range i).map f ++ [f i] = (List.range (i + 1)).map f := by
  rw [List.range_succ, List.map_append]
  rfl
/-- what a comprehension over J asks, its list at D -/
def LcGoal (J : It) (j : Nat) (te : TE) (vs : List Nat) (s0 : L2.St) (H1 : Hp) (Qd : Addr → Hp → Prop) : Prop :=
  ∀ D, H1 D = none →
    ∃ W : Nat → Nat → Hp → Prop,
      (∃ m, W 0 m (upd H1 D (.lst []))) ∧
      ∀ i m H, W i m H →
        (J.stop i H ∧ Qd D H) ∨
        (J.go i H ∧
          ∃ Nx : Hp → Prop,
            (∀ H', Nx H' → ∃ m', m' < m ∧ W (i + 1) m' H') ∧
            ∀ x H', J.yld i H x H' →
              gName j x (wipe s0 vs) H' fun s2 H2 =>
                wipe s2 vs = wipe s0 vs ∧
                tYes s2 H2 fun b H3 =>
                  if b = true then
                    te s2 H3 fun y H4 => ∃ acc, H4 D = some (.lst acc) ∧ acc.length < sizeLine ∧ Nx (upd H4 D (.lst (acc ++ [y])))
                  else Nx H3)
theorem lcL {K : PySem.W.Frag} {a : Addr} {xs : List V} {j : Nat} {te : TE} {vs : List Nat} {s0 : L2.St} {H1 : Hp} {Qd : Addr → Hp → Prop} (f : Nat → V)
    (hS : SqL K H1 a xs) (hl : xs.length ≤ 1000) (hw : ∀ x, wipe ((wipe s0 vs).set j (some x)) vs = wipe s0 vs)
    (hs : ∀ i x H, xs[i]? = some x → Same H1 H → ∀ Q' : V → Hp → Prop, (∀ H4, Same H H4 → Q' (f i) H4) → te ((wipe s0 vs).set j (some x)) H Q')
    (hd : ∀ D H, H1 D = none → Same H1 H → H D = some (.lst ((List.range xs.length).map f)) → Qd D H) :
    LcGoal (Itl K a) j te vs s0 H1 Qd := fun D hD =>
  lc_list (K := K) (a := a) (xs := xs) (fun i H => Same H1 H ∧ H D = some (.lst ((List.range i).map f)))
    ⟨sameNew hD, upd_same⟩ (fun i H _ q => q.1.seq hS)
    (fun i x H hx q => ⟨hw x, (hs i x H hx q.1 _ fun H4 s4 => ⟨_, s4 _ _ q.2, by
      rw [List.length_map, List.length_range]
      have h : i < xs.length := by
        rcases Nat.lt_or_ge i xs.length with h | h
        · exact h
        · rw [List.getElem?_eq_none h] at hx
          cases hx
      exact small1000 (by omega), sameUp (q.1.trans s4) hD, by rw [upd_same, mapRangeSucc]⟩)⟩)
    (fun H q => hd D H hD q.1 q.2)
theorem lcR {n : Nat} {lo : Int} {j : Nat} {te : TE} {vs : List Nat} {s0 : L2.St} {H1 : Hp} {Qd : Addr → Hp → Prop} (f : Nat → V)
    (hl : n ≤ 1000) (hw : ∀ x, wipe ((wipe s0 vs).set j (some x)) vs = wipe s0 vs)
    (hs : ∀ (i : Nat) H, i < n → Same H1 H → ∀ Q' : V → Hp → Prop, (∀ H4, Same H H4 → Q' (f i) H4) → te ((wipe s0 vs).set j (some (.int (lo + i)))) H Q')
    (hd : ∀ D H, H1 D = none → Same H1 H → H D = some (.lst ((List.range n).map f)) → Qd D H) :
    LcGoal (Itr lo n) j te vs s0 H1 Qd := fun D hD =>
  lc_range (lo := lo) (n := n) (fun i H => Same H1 H ∧ H D = some (.lst ((List.range i).map f)))
    ⟨sameNew hD, upd_same⟩
    (fun i H hi q => ⟨hw _, (hs i H hi q.1 _ fun H4 s4 => ⟨_, s4 _ _ q.2, by
      rw [List.length_map, List.length_range]
      exact small1000 (by omega), sameUp (q.1.trans s4) hD, by rw [upd_same, mapRangeSucc]⟩)⟩)
    (fun H q => hd D H hD q.1 q.2)
/-- a comprehension over a range whose items are new lists of whole numbers -/
theorem lcRr {n : Nat} {lo : Int} {j : Nat} {te : TE} {vs : List Nat} {s0 : L2.St} {H1 : Hp} {Qd : Addr → Hp → Prop} (L : Nat → List Int)
    (hl : n ≤ 1000) (hw : ∀ x, wipe ((wipe s0 vs).set j (some x)) vs = wipe s0 vs)
    (hs : ∀ (i : Nat) H, i < n → Same H1 H → ∀ Q' : V → Hp → Prop, (∀ H4 q, Same H H4 → H q = none → H4 q = some (.lst ((L i).map V.int)) → Q' (.ref q) H4) → te ((wipe s0 vs).set j (some (.int (lo + i)))) H Q')
    (hd : ∀ D H (ps : List Addr), H1 D = none → Same H1 H → H D = some (.lst (ps.map V.ref)) → ps.length = n → (∀ i q, ps[i]? = some q → H q = some (.lst ((L i).map V.int))) → Qd D H) :
    LcGoal (Itr lo n) j te vs s0 H1 Qd := fun D hD =>
  lc_range (lo := lo) (n := n) (fun i H => ∃ ps : List Addr, Same H1 H ∧ H D = some (.lst (ps.map V.ref)) ∧ ps.length = i ∧ ∀ k q, ps[k]? = some q → q ≠ D ∧ H q = some (.lst ((L k).map V.int)))
    ⟨[], sameNew hD, upd_same, rfl, fun k q e => by simp at e⟩
    (fun i H hi ⟨ps, sm, eD, el, ep⟩ => ⟨hw _, (hs i H hi sm _ fun H4 q s4 hq eq => ⟨_, s4 _ _ eD, by
      rw [List.length_map, el]
      exact small1000 (by omega), ps ++ [q], sameUp (sm.trans s4) hD, by rw [upd_same, List.map_append]; rfl, by rw [List.length_append, el]; rfl, fun k p e => by
        have nD : q ≠ D := fun z => by
          rw [z, eD] at hq
          cases hq
        rcases Nat.lt_or_ge k ps.length with h | h
        · rw [List.getElem?_append_left h] at e
          obtain ⟨n1, n2⟩ := ep k p e
          exact ⟨n1, by rw [upd_ne n1]; exact s4 _ _ n2⟩
        · rw [List.getElem?_append_right h] at e
          have hk : k = ps.length := by
            have := (List.getElem?_eq_some_iff.mp e).1
            simp at this
            omega
          subst hk
          rw [Nat.sub_self] at e
          obtain rfl : q = p := Option.some.inj e
          exact ⟨nD, by rw [upd_ne nD, el]; exact eq⟩⟩)⟩)
    (fun H ⟨ps, sm, eD, el, ep⟩ => hd D H ps hD sm eD el fun i q e => (ep i q e).2)
/-- len of a list, its frame named -/
def rLenS (K : PySem.W.Frag) : List V → Hp → (V → Hp → Prop) → Prop := fun xs H Q =>
  ∃ p ys, xs = [.ref p] ∧
    (SqL K H p ys ∨ SqT K H p ys) ∧ Q (.int ys.length) H
theorem rangeGet {A B : Type} (xs : List A) (g : A → B) (d : A) : (List.range xs.length).map (fun i => g (xs.getD i d)) = xs.map g := by
  apply List.ext_getElem
  · simp
  · intro i h1 h2
    simp at h1 h2
    simp [h1]
theorem getDof {A : Type} {xs : List A} {i : Nat} {x d : A} (h : xs[i]? = some x) : xs.getD i d = x := by
  rw [List.getD_eq_getElem?_getD, h]
  rfl
theorem atGet {A : Type} {xs : List A} {i : Nat} {d : A} (h : i < xs.length) : xs[i]? = some (xs.getD i d) := by
  rw [List.getD_eq_getElem?_getD, List.getElem?_eq_getElem h]
  rfl
theorem intAt {ns : List Int} {i : Nat} {x : V} (h : (ns.map V.int)[i]? = some x) : x = .int (ns.getD i 0) ∧ i < ns.length := by
  rw [List.getElem?_map] at h
  cases e : ns[i]? with
  | none =>
    rw [e] at h
    cases h
  | some z =>
    rw [e] at h
    refine ⟨?_, (List.getElem?_eq_some_iff.mp e).1⟩
    rw [getDof e]
    exact (Option.some.inj h).symm
end Cn

namespace Cn
open PySem PySem.Spec PyProof.Rows L2
/-! ### a comprehension over zip of two lists, its items made of the pair's two -/
theorem lcZ {K : PySem.W.Frag} {a b : Addr} {xs ys : List V} {i1 i2 : Nat} {te : TE} {vs : List Nat} {s0 : L2.St} {H1 : Hp} {Qd : Addr → Hp → Prop} (f : Nat → V)
    (hX : SqL K H1 a xs) (hY : SqL K H1 b ys) (hl : min xs.length ys.length ≤ 1000)
    (hw : ∀ x y, wipe (((wipe s0 vs).set i1 (some x)).set i2 (some y)) vs = wipe s0 vs)
    (hs : ∀ i x y H, xs[i]? = some x → ys[i]? = some y → Same H1 H → ∀ Q' : V → Hp → Prop, (∀ H4, Same H H4 → Q' (f i) H4) → te (((wipe s0 vs).set i1 (some x)).set i2 (some y)) H Q')
    (hd : ∀ D H, H1 D = none → Same H1 H → H D = some (.lst ((List.range (min xs.length ys.length)).map f)) → Qd D H) :
    ∀ D, H1 D = none →
    ∃ W : Nat → Nat → Hp → Prop,
      (∃ m, W 0 m (upd H1 D (.lst []))) ∧
      ∀ i m H, W i m H →
        ((Itz K a b).stop i H ∧ Qd D H) ∨
        ((Itz K a b).go i H ∧
          ∃ Nx : Hp → Prop,
            (∀ H', Nx H' → ∃ m', m' < m ∧ W (i + 1) m' H') ∧
            ∀ x H', (Itz K a b).yld i H x H' →
              gTup K 2 (gCons (gName i1) (gCons (gName i2) gNil)) x (wipe s0 vs) H' fun s2 H2 =>
                wipe s2 vs = wipe s0 vs ∧
                tYes s2 H2 fun b H3 =>
                  if b = true then
                    te s2 H3 fun y H4 => ∃ acc, H4 D = some (.lst acc) ∧ acc.length < sizeLine ∧ Nx (upd H4 D (.lst (acc ++ [y])))
                  else Nx H3) := fun D hD =>
  lc_it (walk_zip (K := K) (a := a) (b := b) (xs := xs) (ys := ys) rfl) (fun i H => Same H1 H ∧ H D = some (.lst ((List.range i).map f)))
    ⟨sameNew hD, upd_same⟩ (fun i H _ q => ⟨q.1.seq hX, q.1.seq hY⟩)
    (fun i x H H' hi q ⟨T, u, v, ex, hT, eH, eu, ev⟩ => by
      subst ex
      subst eH
      refine ⟨T, [u, v], rfl, SqT.of upd_same, rfl, u, [v], rfl, v, [], rfl, rfl, hw u v, ?_⟩
      have sT : Same H (upd H T (.tup [u, v])) := sameNew hT
      refine hs i u v _ eu ev (q.1.trans sT) _ fun H4 s4 => ⟨_, (sT.trans s4) _ _ q.2, ?_, sameUp (q.1.trans (sT.trans s4)) hD, by rw [upd_same, mapRangeSucc]⟩
      rw [List.length_map, List.length_range]
      exact small1000 (by omega))
    (fun H q => hd D H hD q.1 q.2)
end Cn

set_option linter.all false
namespace Cn
/-! ### the mathematics of gaps -/
def circ (n : Int) : Bool := decide (1 ≤ n) && decide (n ≤ 128)
def liesOn (n : Int) (ns : List Int) : Bool := (ns.map fun x => decide (x < n)).all id
def marksL (n : Nat) (ns : List Int) : List Int := (List.range n).map fun (i : Nat) => if (i : Int) ∈ ns then (1 : Int) else 0
def gapI (n : Int) (ns : List Int) (d : Nat) : Int := (ns.map fun x => (marksL n.toNat ns).getD ((x + d) % n).toNat 0).sum
def gapsL (n : Int) (ns : List Int) : List Int := (List.range n.toNat).map (gapI n ns)
def gapsM (n : Int) (ns : List Int) : List Int := if circ n = false then [-2] else if liesOn n ns = false then [-3] else (ns.length : Int) :: gapsL n ns
theorem marks_len (n : Nat) (ns : List Int) : (marksL n ns).length = n := by simp [marksL]
theorem marks_nil (n : Nat) : marksL n [] = List.replicate n 0 := by
  apply List.ext_getElem
  · simp [marksL]
  · intro i h1 h2
    simp [marksL]
theorem marks_snoc (n : Nat) (ns : List Int) (x : Int) (h0 : 0 ≤ x) : (marksL n ns).set x.toNat 1 = marksL n (ns ++ [x]) := by
  apply List.ext_getElem
  · simp [marksL]
  · intro i h1 h2
    rw [List.getElem_set]
    simp only [marksL, List.getElem_map, List.getElem_range, List.mem_append, List.mem_singleton]
    by_cases e : x.toNat = i
    · have : (i : Int) = x := by omega
      rw [if_pos e, if_pos (.inr this)]
    · have : ¬ (i : Int) = x := by omega
      rw [if_neg e]
      simp only [this, or_false]
theorem marks_get (n : Nat) (ns : List Int) (j : Nat) (h : j < n) : (marksL n ns).getD j 0 = if (j : Int) ∈ ns then 1 else 0 := by
  rw [List.getD_eq_getElem?_getD]
  simp [marksL, h]
theorem circ_among (n : Int) (h0 : 0 ≤ n) : Sh15.among n.toNat 1 128 = circ n := by
  unfold Sh15.among circ
  congr 1
  · exact decide_eq_decide.mpr (by omega)
  · exact decide_eq_decide.mpr (by omega)
theorem lies_isIn (n : Int) (h0 : 0 ≤ n) : ∀ ns : List Int, (∀ x ∈ ns, 0 ≤ x) → Sh15.isIn n.toNat (Sh15Neutral.nats ns) = liesOn n ns
  | [], _ => rfl
  | x :: r, h => by
    have ih := lies_isIn n h0 r fun y hy => h y (List.mem_cons_of_mem _ hy)
    have hx := h x List.mem_cons_self
    show (decide (x.toNat < n.toNat) && Sh15.isIn n.toNat (Sh15Neutral.nats r)) = (decide (x < n) && liesOn n r)
    rw [ih]
    congr 1
    exact decide_eq_decide.mpr (by omega)
theorem lies_all {n : Int} {ns : List Int} (h : liesOn n ns = true) : ∀ x ∈ ns, x < n := by
  intro x hx
  unfold liesOn at h
  rw [List.all_eq_true] at h
  exact of_decide_eq_true (h _ (List.mem_map_of_mem hx))
theorem sum_ind {A : Type} (p : A → Bool) : ∀ l : List A, (l.map fun x => if p x = true then (1 : Int) else 0).sum = ((l.filter p).length : Int)
  | [] => rfl
  | x :: r => by
    rw [List.map_cons, List.sum_cons, sum_ind p r]
    cases e : p x with
    | true => rw [List.filter_cons_of_pos e]; simp; omega
    | false => rw [List.filter_cons_of_neg (by rw [e]; exact Bool.false_ne_true)]; simp
theorem mem_nats {ns : List Int} (hb : ∀ x ∈ ns, 0 ≤ x) (j : Nat) : (Sh15Neutral.nats ns).contains j = decide ((j : Int) ∈ ns) := by
  rw [Bool.eq_iff_iff, List.contains_iff_mem, decide_eq_true_iff]
  unfold Sh15Neutral.nats
  rw [List.mem_map]
  constructor
  · rintro ⟨z, hz, e⟩
    have := hb z hz
    have e2 : (j : Int) = z := by omega
    rw [e2]
    exact hz
  · intro h
    exact ⟨_, h, by simp⟩
theorem gapI_spec (n : Int) (hn : 1 ≤ n) (ns : List Int) (hb : ∀ x ∈ ns, 0 ≤ x) (d : Nat) : gapI n ns d = ((Sh15.gap n.toNat (Sh15Neutral.nats ns) d : Nat) : Int) := by
  unfold gapI Sh15.gap
  rw [← sum_ind]
  have key : ∀ l : List Int, (∀ x ∈ l, 0 ≤ x) → (l.map fun x => (marksL n.toNat ns).getD ((x + d) % n).toNat 0) = (Sh15Neutral.nats l).map fun x => if (Sh15Neutral.nats ns).contains ((x + d) % n.toNat) = true then (1 : Int) else 0 := by
    intro l hl
    unfold Sh15Neutral.nats
    rw [List.map_map]
    apply List.map_congr_left
    intro x hx
    have h0 := hl x hx
    have e : ((x + d) % n).toNat = (x.toNat + d) % n.toNat := by
      have : (x + d) % n = (((x.toNat + d) % n.toNat : Nat) : Int) := by
        rw [Int.natCast_emod]
        congr 1 <;> omega
      omega
    have hlt : (x.toNat + d) % n.toNat < n.toNat := Nat.mod_lt _ (by omega)
    rw [e, marks_get _ _ _ hlt]
    show _ = if (Sh15Neutral.nats ns).contains ((x.toNat + d) % n.toNat) = true then (1 : Int) else 0
    rw [mem_nats hb]
    simp only [decide_eq_true_iff]
  rw [key ns hb]
theorem gapsL_spec (n : Int) (hn : 1 ≤ n) (ns : List Int) (hb : ∀ x ∈ ns, 0 ≤ x) : gapsL n ns = (Sh15.gaps n.toNat (Sh15Neutral.nats ns)).map fun (x : Nat) => (x : Int) := by
  unfold gapsL Sh15.gaps
  rw [List.map_map]
  apply List.map_congr_left
  intro d _
  exact gapI_spec n hn ns hb d
theorem gapsM_spec (n : Int) (h0 : 0 ≤ n) (ns : List Int) (hb : ∀ x ∈ ns, 0 ≤ x) : gapsM n ns = PySh15.gaps n ns := by
  have e : PySh15.gaps n ns = (let a := (if Sh15.among n.toNat 1 128 = false then Sh15.ok (-2) else if Sh15.isIn n.toNat (Sh15Neutral.nats ns) = false then Sh15.ok (-3) else ⟨((Sh15Neutral.nats ns).length : Nat), (Sh15.gaps n.toNat (Sh15Neutral.nats ns)).map (fun (x : Nat) => (x : Int)), []⟩); a.v :: (a.l ++ Sh15Neutral.ints a.a)) := rfl
  rw [e, circ_among n h0, lies_isIn n h0 ns hb]
  unfold gapsM
  cases c : circ n with
  | false => rfl
  | true =>
    cases l : liesOn n ns with
    | false => rfl
    | true =>
      have hn : 1 ≤ n := by
        unfold circ at c
        rw [Bool.and_eq_true] at c
        exact of_decide_eq_true c.1
      show (ns.length : Int) :: gapsL n ns = ((Sh15Neutral.nats ns).length : Int) :: (_ ++ [])
      rw [gapsL_spec n hn ns hb, List.append_nil]
      unfold Sh15Neutral.nats
      rw [List.length_map]
      rfl
end Cn

set_option linter.all false
namespace Cn
/-! ### the mathematics of rub -/
def weighL (c w : List Int) : Int := ((List.range (min (c.drop 1).length (w.drop 1).length)).map fun i => (c.drop 1).getD i 0 * (w.drop 1).getD i 0).sum
def rubM (n : Int) (ns w : List Int) : List Int := if circ n = false then [-2] else if liesOn n ns = false then [-3] else [0, weighL (gapsL n ns) w]
theorem sum_zero {A : Type} (l : List A) (f : A → Int) (h : ∀ x ∈ l, f x = 0) : (l.map f).sum = 0 := by
  induction l with
  | nil => rfl
  | cons x r ih => rw [List.map_cons, List.sum_cons, h x List.mem_cons_self, ih fun y hy => h y (List.mem_cons_of_mem _ hy)]; rfl
theorem sum_min (c w : List Int) : ((List.range (min c.length w.length)).map fun i => c.getD i 0 * w.getD i 0).sum = ((List.range c.length).map fun i => c.getD i 0 * w.getD i 0).sum := by
  rcases Nat.le_total c.length w.length with h | h
  · rw [Nat.min_eq_left h]
  · rw [Nat.min_eq_right h]
    obtain ⟨k, hk⟩ := Nat.exists_eq_add_of_le h
    rw [hk, List.range_add, List.map_append, List.sum_append, List.map_map, sum_zero (List.range k), Int.add_zero]
    intro x _
    show c.getD (w.length + x) 0 * w.getD (w.length + x) 0 = 0
    have e : w.getD (w.length + x) 0 = 0 := by
      rw [List.getD_eq_getElem?_getD, List.getElem?_eq_none (by omega)]
      rfl
    rw [e, Int.mul_zero]
theorem weighL_spec (n : Int) (hn : 1 ≤ n) (ns : List Int) (hb : ∀ x ∈ ns, 0 ≤ x) (w : List Int) : weighL (gapsL n ns) w = Sh15.rub n.toNat (Sh15Neutral.nats ns) w := by
  unfold weighL Sh15.rub
  rw [sum_min]
  obtain ⟨k, hk⟩ : ∃ k, n.toNat = k + 1 := ⟨n.toNat - 1, by omega⟩
  have hl : ((gapsL n ns).drop 1).length = k := by
    unfold gapsL
    rw [List.length_drop, List.length_map, List.length_range]
    omega
  rw [hl, hk, List.range_succ_eq_map, List.map_cons, List.sum_cons, if_pos rfl, Int.zero_add, List.map_map]
  congr 1
  apply List.map_congr_left
  intro i hi
  rw [List.mem_range] at hi
  show ((gapsL n ns).drop 1).getD i 0 * (w.drop 1).getD i 0 = if i + 1 = 0 then 0 else ((Sh15.gap (k + 1) (Sh15Neutral.nats ns) (i + 1) : Nat) : Int) * w.getD (i + 1) 0
  rw [if_neg (by omega)]
  have e1 : (w.drop 1).getD i 0 = w.getD (i + 1) 0 := by
    rw [List.getD_eq_getElem?_getD, List.getD_eq_getElem?_getD, List.getElem?_drop, Nat.add_comm]
  have e2 : ((gapsL n ns).drop 1).getD i 0 = ((Sh15.gap (k + 1) (Sh15Neutral.nats ns) (i + 1) : Nat) : Int) := by
    rw [List.getD_eq_getElem?_getD, List.getElem?_drop, Nat.add_comm]
    unfold gapsL
    rw [List.getElem?_map, List.getElem?_range (by omega), ← hk]
    exact gapI_spec n hn ns hb (i + 1)
  rw [e1, e2]
theorem rubM_spec (n : Int) (h0 : 0 ≤ n) (ns : List Int) (hb : ∀ x ∈ ns, 0 ≤ x) (w : List Int) : rubM n ns w = PySh15.rub n ns w := by
  have e : PySh15.rub n ns w = (let a := (if Sh15.among n.toNat 1 128 = false then Sh15.ok (-2) else if Sh15.isIn n.toNat (Sh15Neutral.nats ns) = false then Sh15.ok (-3) else ⟨0, [Sh15.rub n.toNat (Sh15Neutral.nats ns) w], []⟩); a.v :: (a.l ++ Sh15Neutral.ints a.a)) := rfl
  rw [e, circ_among n h0, lies_isIn n h0 ns hb]
  unfold rubM
  cases c : circ n with
  | false => rfl
  | true =>
    cases l : liesOn n ns with
    | false => rfl
    | true =>
      have hn : 1 ≤ n := by
        unfold circ at c
        rw [Bool.and_eq_true] at c
        exact of_decide_eq_true c.1
      show [0, weighL (gapsL n ns) w] = [0, Sh15.rub n.toNat (Sh15Neutral.nats ns) w]
      rw [weighL_spec n hn ns hb]
end Cn

namespace Cn
open PySem PySem.Spec PyProof.Rows L2
/-! ### the text -/
def topS (i : Nat) : Stmt := PySem.Challenge.pw_circlenotes_s03_rub.main.body.getD i (.Pass ⟨0, 0, 0, 0⟩)
abbrev sRub : Stmt := topS 4
abbrev sCirc : Stmt := topS 5
abbrev sLies : Stmt := topS 6
abbrev sGcs : Stmt := topS 7
abbrev sGc : Stmt := topS 8
abbrev sWei : Stmt := topS 9
abbrev sMark : Stmt := topS 10
theorem scRub : FnScope ["n", "a", "w"] ["n", "a", "w"] (defScope sRub) := ⟨rfl, rfl, rfl, by decide +kernel, rfl, by decide +kernel, by decide +kernel⟩
theorem scCirc : FnScope ["n"] ["n"] (defScope sCirc) := ⟨rfl, rfl, rfl, by decide +kernel, rfl, by decide +kernel, by decide +kernel⟩
theorem scLies : FnScope ["n", "places", "place"] ["n", "places"] (defScope sLies) := ⟨rfl, rfl, rfl, by decide +kernel, rfl, by decide +kernel, by decide +kernel⟩
theorem scGcs : FnScope ["n", "places", "marks", "d"] ["n", "places"] (defScope sGcs) := ⟨rfl, rfl, rfl, by decide +kernel, rfl, by decide +kernel, by decide +kernel⟩
theorem scGc : FnScope ["places", "marks", "d", "place"] ["places", "marks", "d"] (defScope sGc) := ⟨rfl, rfl, rfl, by decide +kernel, rfl, by decide +kernel, by decide +kernel⟩
theorem scWei : FnScope ["counts", "weights", "count", "weight"] ["counts", "weights"] (defScope sWei) := ⟨rfl, rfl, rfl, by decide +kernel, rfl, by decide +kernel, by decide +kernel⟩
theorem scMark : FnScope ["n", "places", "marks", "place"] ["n", "places"] (defScope sMark) := ⟨rfl, rfl, rfl, by decide +kernel, rfl, by decide +kernel, by decide +kernel⟩
end Cn

namespace Cn
open PySem PySem.Spec PyProof.Rows L2
section
variable {P : Program} {w : World} {K : PySem.W.Frag} {mg : Str → Option Value} {base : Heap}
/-! ### is_circle -/
def spCirc : Sp := fun vs H Q _ => ∃ n : Int, vs = [.int n] ∧ Q (.bl (circ n)) H
theorem ok_circ {f : Addr} {fd : FuncData} {k : Nat} {t : Tok} (F : Fun K "is_circle" "is_circle" sCirc f fd) (mM : mg "MOST_PLACES" = some (.int 128 t)) : FnOk P w K mg base CX0 (k + 1) f fd ["n"] spCirc := by
  refine F.ok scCirc (fun vs H Q E h => ?_) (fun cdv A outer s H vs Q E hr h => ?_)
  · obtain ⟨n, rfl, _⟩ := h
    rfl
  · obtain ⟨n, rfl, q⟩ := h
    refine ⟨_, pss_one (ps_ret (pe_chain op_le op_le pe_int (pv 0) (pe_glob (v := .int 128) rfl mM ⟨_, rfl⟩))), ?_⟩
    refine ⟨.int n, rfl, 1, n, rfl, rfl, decide (1 ≤ n), rfl, ?_⟩
    unfold circ at q
    refine ite2 (fun e => ?_) (fun e => ?_)
    · rw [e] at q
      exact ⟨n, 128, rfl, rfl, q⟩
    · rw [Bool.eq_false_iff.mpr e] at q
      exact q
end
end Cn

namespace Cn
open PySem PySem.Spec PyProof.Rows L2
section
variable {P : Program} {w : World} {K : PySem.W.Frag} {mg : Str → Option Value} {base : Heap}
/-! ### lies_on -/
def spLies (K : PySem.W.Frag) : Sp := fun vs H Q _ => ∃ (n : Int) (a : Addr) (ns : List Int), vs = [.int n, .ref a] ∧ SqL K H a (ns.map V.int) ∧ ns.length ≤ 1000 ∧ ∀ H', Same H H' → Q (.bl (liesOn n ns)) H'
theorem ok_lies {f : Addr} {fd : FuncData} {k : Nat} (F : Fun K "lies_on" "lies_on" sLies f fd) (mA : mg "all" = none) : FnOk P w K mg base CX0 (k + 1) f fd ["n", "places"] (spLies K) := by
  refine F.ok scLies (fun vs H Q E h => ?_) (fun cdv A outer s H vs Q E hr h => ?_)
  · obtain ⟨n, a, ns, rfl, _⟩ := h
    rfl
  · obtain ⟨n, a, ns, rfl, hS, hl, q⟩ := h
    refine ⟨_, pss_one (ps_ret (pe_callB (cr_all rfl) (by rfl) mA (by decide +kernel) (pa_cons
      (pe_lc (own := [("place", 2)]) (g := gName 2) (tt := tYes) rfl scLies.nd (pi_list (pv 1)) (blkOk_by (N := ["n", "places", "place"]) (sc := defScope sLies) (by decide +kernel))
        (fun _ _ _ _ _ => pg_name (i := 2) scLies.nd rfl (Or.inl rfl)) (fun _ _ _ _ _ => pts_nil) (fun _ _ _ _ _ => pe_cmpR op_lt (pv 2) (pv 0) (nomark _))) pa_nil))), ?_⟩
    refine ⟨.ref a, rfl, a, rfl, ⟨_, hS⟩, lcL (xs := ns.map V.int) (fun i => .bl (decide (ns.getD i 0 < n))) hS (by rw [List.length_map]; exact hl) (fun _ => rfl) (fun i x H2 hx s2 Q' hq => ?_) (fun D H2 hD s2 eD => ?_)⟩
    · obtain ⟨rfl, hi⟩ := intAt hx
      exact ⟨_, rfl, .int n, rfl, _, n, rfl, rfl, hq _ (Same.refl _)⟩
    · rw [List.length_map] at eD
      have e : (List.range ns.length).map (fun i => V.bl (decide (ns.getD i 0 < n))) = (ns.map fun x => decide (x < n)).map V.bl := by
        rw [rangeGet ns (fun x => V.bl (decide (x < n))) 0, List.map_map]
        rfl
      rw [e] at eD
      exact ⟨D, _, rfl, SqL.of eD, q _ s2⟩
end
end Cn

namespace Cn
open PySem PySem.Spec PyProof.Rows L2
section
variable {P : Program} {w : World} {K : PySem.W.Frag} {mg : Str → Option Value} {base : Heap}
/-! ### marks_of -/
def spMark (K : PySem.W.Frag) : Sp := fun vs H Q _ => ∃ (n : Int) (a : Addr) (ns : List Int), vs = [.int n, .ref a] ∧ SqL K H a (ns.map V.int) ∧ 0 ≤ n ∧ n ≤ 1000 ∧ (∀ x ∈ ns, 0 ≤ x ∧ x < n) ∧
  ∀ H' p, Same H H' → H p = none → H' p = some (.lst ((marksL n.toNat ns).map V.int)) → Q (.ref p) H'
theorem ok_mark {f : Addr} {fd : FuncData} {k : Nat} (F : Fun K "marks_of" "marks_of" sMark f fd) : FnOk P w K mg base CX0 (k + 1) f fd ["n", "places"] (spMark K) := by
  refine F.ok scMark (fun vs H Q E h => ?_) (fun cdv A outer s H vs Q E hr h => ?_)
  · obtain ⟨n, a, ns, rfl, _⟩ := h
    rfl
  · obtain ⟨n, a, ns, rfl, hS, h0, h1, hb, q⟩ := h
    refine ⟨_, pss_cons (ps_set (i := 2) scMark.nd rfl (Or.inl rfl) (pe_op op_rep (pe_lst (pa_cons pe_int pa_nil)) (pv 0)))
      (pss_cons (ps_for PassesOwn.never rfl (pi_list (pv 1)) (pg_name (i := 3) scMark.nd rfl (Or.inl rfl))
        (pss_one (ps_asg pe_int (pg_sub (pv 2) (pv 3) set_list))))
      (pss_one (ps_ret (pv 2)))), ?_⟩
    -- marks = [0] * n
    refine ⟨(by show 1 ≤ sizeLine; decide), fun z hz => ?_⟩
    refine ⟨.int n, rfl, z, n, _, rfl, rfl, upd_same, by omega, by omega, ?_, fun m hm => ?_⟩
    · show 1 * n.toNat ≤ sizeLine
      have := small1000 (n := n.toNat) (by omega)
      omega
    have s1 : Same H (upd H z (.lst [.int 0])) := sameNew hz
    have hm0 : H m = none := s1.free hm
    have s2 := s1.trans (sameNew (o := .lst (List.replicate n.toNat [V.int 0]).flatten) hm)
    have e0 : (List.replicate n.toNat [V.int 0]).flatten = (marksL n.toNat []).map V.int := by
      rw [marks_nil, List.map_replicate]
      exact List.flatten_replicate_singleton
    -- for place in places
    refine ⟨.ref a, rfl, a, rfl, ⟨_, s2.seq hS⟩, for_list (K := K) (a := a) (xs := ns.map V.int) (fun i st H' => ∃ v : Option V, st = [some (.int n), some (.ref a), some (.ref m), v] ∧ Same H H' ∧ H' m = some (.lst ((marksL n.toNat (ns.take i)).map V.int)))
      ⟨none, rfl, s2, ?_⟩ (fun i st H' _ ⟨_, _, s5, _⟩ => s5.seq hS) ?_ ?_⟩
    · rw [upd_same, e0]
      rfl
    · rintro i x st H' hx ⟨v, rfl, s5, em⟩
      obtain ⟨rfl, hi⟩ := intAt hx
      have hg : ns[i]? = some (ns.getD i 0) := atGet hi
      have hy := hb _ (List.mem_of_getElem? hg)
      refine ⟨.ref m, rfl, .int (ns.getD i 0), rfl, m, _, ns.getD i 0, (ns.getD i 0).toNat, rfl, rfl, em, ?_, ?_⟩
      · unfold ixN
        rw [if_pos hy.1, if_pos (by rw [List.length_map, marks_len]; omega)]
      · refine ⟨some (.int (ns.getD i 0)), rfl, sameUp s5 hm0, ?_⟩
        rw [upd_same, List.take_add_one, hg, Option.toList_some, ← marks_snoc n.toNat (ns.take i) _ hy.1, List.map_set]
    · rintro st H' ⟨v, rfl, s5, em⟩
      rw [List.length_map, List.take_length] at em
      exact ⟨.ref m, rfl, q H' m s5 hm0 em⟩
end
end Cn

namespace Cn
open PySem PySem.Spec PyProof.Rows L2
section
variable {P : Program} {w : World} {K : PySem.W.Frag} {mg : Str → Option Value} {base : Heap}
/-! ### gap_count -/
def spGc (K : PySem.W.Frag) : Sp := fun vs H Q _ => ∃ (a m : Addr) (ns ms : List Int) (d : Int), vs = [.ref a, .ref m, .int d] ∧ SqL K H a (ns.map V.int) ∧ SqL K H m (ms.map V.int) ∧ ns.length ≤ 1000 ∧ 0 < ms.length ∧
  ∀ H', Same H H' → Q (.int (ns.map fun x => ms.getD ((x + d) % (ms.length : Int)).toNat 0).sum) H'
theorem ok_gc {f : Addr} {fd : FuncData} {k : Nat} (F : Fun K "gap_count" "gap_count" sGc f fd) (mS : mg "sum" = none) (mL : mg "len" = none) : FnOk P w K mg base CX0 (k + 1) f fd ["places", "marks", "d"] (spGc K) := by
  refine F.ok scGc (fun vs H Q E h => ?_) (fun cdv A outer s H vs Q E hr h => ?_)
  · obtain ⟨a, m, ns, ms, d, rfl, _⟩ := h
    rfl
  · obtain ⟨a, m, ns, ms, d, rfl, hS, hM, hl, hp, q⟩ := h
    refine ⟨_, pss_one (ps_ret (pe_callB (cr_sum rfl) (by rfl) mS (by decide +kernel) (pa_cons
      (pe_lc (own := [("place", 3)]) (g := gName 3) (tt := tYes) rfl scGc.nd (pi_list (pv 0)) (blkOk_by (N := ["places", "marks", "d", "place"]) (sc := defScope sGc) (by decide +kernel))
        (fun _ _ _ _ _ => pg_name (i := 3) scGc.nd rfl (Or.inl rfl)) (fun _ _ _ _ _ => pts_nil)
        (fun _ _ _ _ _ => pe_ix (show IxR _ (rIxL K) from ix_list) (pv 1) (pe_op op_mod (pe_op op_add (pv 3) (pv 2)) (pe_callB (show CallR _ (.builtin "len") (rLenS K) from call_len_seq) (by rfl) mL PySem.boot_len (pa_cons (pv 1) pa_nil))) (fun _ _ => rfl))) pa_nil))), ?_⟩
    refine ⟨.ref a, rfl, a, rfl, ⟨_, hS⟩, lcL (xs := ns.map V.int) (fun i => .int (ms.getD ((ns.getD i 0 + d) % (ms.length : Int)).toNat 0)) hS (by rw [List.length_map]; exact hl) (fun _ => rfl) (fun i x H2 hx s2 Q' hq => ?_) (fun D H2 hD s2 eD => ?_)⟩
    · obtain ⟨rfl, hi⟩ := intAt hx
      have hpos : (0 : Int) < (ms.length : Int) := by omega
      have g0 := Int.emod_nonneg (ns.getD i 0 + d) (show (ms.length : Int) ≠ 0 by omega)
      have g1 := Int.emod_lt_of_pos (ns.getD i 0 + d) hpos
      have hj : ((ns.getD i 0 + d) % (ms.length : Int)).toNat < ms.length := by omega
      have e1 : ((((ms.map V.int).length : Nat)) : Int) = (ms.length : Int) := by rw [List.length_map]
      refine ⟨.ref m, rfl, .int (ns.getD i 0), rfl, .int d, rfl, _, _, rfl, rfl, .ref m, rfl, m, _, rfl, .inl (s2.seq hM), _, _, rfl, rfl, ?_, m, _, _, .int (ms.getD ((ns.getD i 0 + d) % (ms.length : Int)).toNat 0), rfl, rfl, s2.seq hM, ?_, hq _ (Same.refl _)⟩
      · rw [e1]
        exact hpos
      · refine at_of (j := ((ns.getD i 0 + d) % (ms.length : Int)).toNat) ?_ ?_
        · rw [e1]
          omega
        · rw [List.getElem?_map, atGet (d := 0) hj]
          rfl
    · rw [List.length_map] at eD
      have e : (List.range ns.length).map (fun i => V.int (ms.getD ((ns.getD i 0 + d) % (ms.length : Int)).toNat 0)) = (ns.map fun x => ms.getD ((x + d) % (ms.length : Int)).toNat 0).map V.int := by
        rw [rangeGet ns (fun x => V.int (ms.getD ((x + d) % (ms.length : Int)).toNat 0)) 0, List.map_map]
        rfl
      rw [e] at eD
      exact ⟨D, _, rfl, SqL.of eD, q _ s2⟩
end
end Cn

namespace Cn
open PySem PySem.Spec PyProof.Rows L2
section
variable {P : Program} {w : World} {K : PySem.W.Frag} {mg : Str → Option Value} {base : Heap}
/-! ### gap_counts -/
def spGcs (K : PySem.W.Frag) : Sp := fun vs H Q _ => ∃ (n : Int) (a : Addr) (ns : List Int), vs = [.int n, .ref a] ∧ SqL K H a (ns.map V.int) ∧ ns.length ≤ 1000 ∧ 1 ≤ n ∧ n ≤ 1000 ∧ (∀ x ∈ ns, 0 ≤ x ∧ x < n) ∧
  ∀ H' p, Same H H' → H p = none → H' p = some (.lst ((gapsL n ns).map V.int)) → Q (.ref p) H'
theorem ok_gcs {f f1 f2 : Addr} {fd fd1 fd2 : FuncData} (F : Fun K "gap_counts" "gap_counts" sGcs f fd)
    (FM : Fun K "marks_of" "marks_of" sMark f1 fd1) (bM : Binds K fd1 ["n", "places"] []) (gM : mg "marks_of" = some (.ref f1))
    (FG : Fun K "gap_count" "gap_count" sGc f2 fd2) (bG : Binds K fd2 ["places", "marks", "d"] []) (gG : mg "gap_count" = some (.ref f2))
    (mS : mg "sum" = none) (mL : mg "len" = none) (mR : mg "range" = none) : FnOk P w K mg base CX0 2 f fd ["n", "places"] (spGcs K) := by
  have GM : FnOk P w K mg base CX0 1 f1 fd1 ["n", "places"] (spMark K) := ok_mark FM
  have GG : FnOk P w K mg base CX0 1 f2 fd2 ["places", "marks", "d"] (spGc K) := ok_gc FG mS mL
  refine F.ok scGcs (fun vs H Q E h => ?_) (fun cdv A outer s H vs Q E hr h => ?_)
  · obtain ⟨n, a, ns, rfl, _⟩ := h
    rfl
  · obtain ⟨n, a, ns, rfl, hS, hl, h1, h2, hb, q⟩ := h
    refine ⟨_, pss_cons (ps_set (i := 2) scGcs.nd rfl (Or.inr rfl) (pe_call GM hr (by rfl) gM FM.kp bM .nil pass0 (pa_cons (pv 0) (pa_cons (pv 1) pa_nil))))
      (pss_one (ps_ret (pe_lc (own := [("d", 3)]) (g := gName 3) (tt := tYes) rfl scGcs.nd (pi_range1 rfl mR (pa_cons (pv 0) pa_nil)) (blkOk_by (N := ["n", "places", "marks", "d"]) (sc := defScope sGcs) (by decide +kernel))
        (fun _ _ _ _ _ => pg_name (i := 3) scGcs.nd rfl (Or.inl rfl)) (fun _ _ _ _ _ => pts_nil)
        (fun _ _ _ _ _ => pe_call GG hr (by rfl) gG FG.kp bG .nil pass0 (pa_cons (pv 1) (pa_cons (pv 2) (pa_cons (pv 3) pa_nil))))))), ?_⟩
    refine ⟨.int n, rfl, .ref a, rfl, n, a, ns, rfl, hS, by omega, h2, hb, fun H1 m s1 hm em => ?_⟩
    have hM : SqL K H1 m ((marksL n.toNat ns).map V.int) := SqL.of em
    refine ⟨.int n, rfl, n, rfl, by omega, by omega, lcR (n := n.toNat) (lo := 0) (fun i => .int (gapI n ns i)) (by omega) (fun _ => rfl) (fun i H2 hi s2 Q' hq => ?_) (fun D H2 hD s2 eD => ?_)⟩
    · refine ⟨.ref a, rfl, .ref m, rfl, .int (0 + (i : Int)), rfl, a, m, ns, marksL n.toNat ns, _, rfl, (s1.trans s2).seq hS, s2.seq hM, hl, (by rw [marks_len]; omega), fun H3 s3 => ?_⟩
      have := hq H3 s3
      rw [marks_len, Int.zero_add, Int.toNat_of_nonneg (by omega)]
      exact this
    · refine q H2 D (s1.trans s2) (s1.free hD) ?_
      rw [eD]
      unfold gapsL
      rw [List.map_map]
      rfl
end
end Cn

namespace Cn
open PySem PySem.Spec PyProof.Rows L2
section
variable {P : Program} {w : World} {K : PySem.W.Frag} {mg : Str → Option Value} {base : Heap}
/-! ### weighed -/
theorem cut1 (xs : List V) : cutV xs (some 1) none = xs.drop 1 := by
  have e : HT.sIx xs.length 0 (some 1) = min 1 xs.length := HT.sIx_nat _ _ 1
  show (xs.drop (HT.sIx xs.length 0 (some 1))).take (xs.length - HT.sIx xs.length 0 (some 1)) = xs.drop 1
  rw [e]
  cases xs with
  | nil => rfl
  | cons x r => simp
def spWei (K : PySem.W.Frag) : Sp := fun vs H Q _ => ∃ (a b : Addr) (c ws : List Int), vs = [.ref a, .ref b] ∧ SqL K H a (c.map V.int) ∧ SqL K H b (ws.map V.int) ∧ c.length ≤ 1000 ∧ (∀ x ∈ ws, -2147483648 ≤ x ∧ x ≤ 2147483647) ∧
  ∀ H', Same H H' → Q (.int (weighL c ws)) H'
theorem ok_wei {f : Addr} {fd : FuncData} {k : Nat} (F : Fun K "weighed" "weighed" sWei f fd) (mS : mg "sum" = none) (mZ : mg "zip" = none) : FnOk P w K mg base CX0 (k + 1) f fd ["counts", "weights"] (spWei K) := by
  refine F.ok scWei (fun vs H Q E h => ?_) (fun cdv A outer s H vs Q E hr h => ?_)
  · obtain ⟨a, b, c, ws, rfl, _⟩ := h
    rfl
  · obtain ⟨a, b, c, ws, rfl, hA, hB, hl, hb, q⟩ := h
    refine ⟨_, pss_one (ps_ret (pe_callB (cr_sum rfl) (by rfl) mS (by decide +kernel) (pa_cons
      (pe_lc (own := [("count", 2), ("weight", 3)]) (g := gTup K 2 (gCons (gName 2) (gCons (gName 3) gNil))) (tt := tYes) rfl scWei.nd
        (pi_zip rfl mZ (pa_cons (pe_slice sl_list (pv 0) (po_some pe_int) po_none) (pa_cons (pe_slice sl_list (pv 1) (po_some pe_int) po_none) pa_nil)))
        (blkOk_by (N := ["counts", "weights", "count", "weight"]) (sc := defScope sWei) (by decide +kernel))
        (fun _ _ _ _ _ => pg_tup rfl (pgs_cons (pg_name (i := 2) scWei.nd rfl (Or.inl rfl)) (pgs_cons (pg_name (i := 3) scWei.nd rfl (Or.inl rfl)) pgs_nil))) (fun _ _ _ _ _ => pts_nil)
        (fun _ _ _ _ _ => pe_op op_mul (pv 2) (pv 3))) pa_nil))), ?_⟩
    refine ⟨.ref a, rfl, 1, rfl, a, _, rfl, hA, fun p hp => ?_⟩
    have s1 : Same H (upd H p (.lst (cutV (c.map V.int) (some 1) none))) := sameNew hp
    refine ⟨.ref b, rfl, 1, rfl, b, _, rfl, s1.seq hB, fun r hr2 => ?_⟩
    have s2 := s1.trans (sameNew (o := .lst (cutV (ws.map V.int) (some 1) none)) hr2)
    have eC : cutV (c.map V.int) (some 1) none = (c.drop 1).map V.int := by rw [cut1, List.map_drop]
    have eW : cutV (ws.map V.int) (some 1) none = (ws.drop 1).map V.int := by rw [cut1, List.map_drop]
    rw [eC, eW] at s2
    rw [eC] at hr2
    rw [eC, eW]
    refine ⟨p, r, _, _, rfl, SqL.of (by rw [upd_ne (ne_of_none upd_same hr2)]; exact upd_same), SqL.of upd_same, lcZ (xs := (c.drop 1).map V.int) (ys := (ws.drop 1).map V.int) (fun i => .int ((c.drop 1).getD i 0 * (ws.drop 1).getD i 0)) ?_ ?_ ?_ (fun _ _ => rfl) (fun i x y H2 hx hy s3 Q' hq => ?_) (fun D H2 hD s3 eD => ?_)⟩
    · exact SqL.of (by rw [upd_ne (ne_of_none upd_same hr2)]; exact upd_same)
    · exact SqL.of upd_same
    · rw [List.length_map, List.length_drop]
      omega
    · obtain ⟨rfl, hi⟩ := intAt hx
      obtain ⟨rfl, hj⟩ := intAt hy
      have hm := hb _ (List.mem_of_mem_drop (List.mem_of_getElem? (atGet (d := 0) hj)))
      exact ⟨_, rfl, _, rfl, _, _, rfl, rfl, .inr ⟨by omega, by omega⟩, hq _ (Same.refl _)⟩
    · rw [List.length_map, List.length_map] at eD
      have e : (List.range (min (c.drop 1).length (ws.drop 1).length)).map (fun i => V.int ((c.drop 1).getD i 0 * (ws.drop 1).getD i 0)) = ((List.range (min (c.drop 1).length (ws.drop 1).length)).map fun i => (c.drop 1).getD i 0 * (ws.drop 1).getD i 0).map V.int := by
        rw [List.map_map]
        rfl
      rw [e] at eD
      exact ⟨D, _, rfl, SqL.of eD, q _ (s2.trans s3)⟩
end
end Cn

namespace Cn
open PySem PySem.Spec PyProof.Rows L2
section
variable {P : Program} {w : World} {K : PySem.W.Frag} {mg : Str → Option Value} {base : Heap}
/-! ### rub -/
theorem gapsL_len (n : Int) (ns : List Int) : (gapsL n ns).length = n.toNat := by
  unfold gapsL
  rw [List.length_map, List.length_range]
def spRub (K : PySem.W.Frag) : Sp := fun vs H Q _ => ∃ (n : Int) (a b : Addr) (ns ws : List Int), vs = [.int n, .ref a, .ref b] ∧ SqL K H a (ns.map V.int) ∧ SqL K H b (ws.map V.int) ∧ ns.length ≤ 1000 ∧ 0 ≤ n ∧ (∀ x ∈ ns, 0 ≤ x) ∧ (∀ x ∈ ws, -2147483648 ≤ x ∧ x ≤ 2147483647) ∧
  ∀ H' p, H' p = some (.lst ((rubM n ns ws).map V.int)) → Q (.ref p) H'
theorem ok_rub {f f1 f2 f3 f4 f5 f6 : Addr} {fd fd1 fd2 fd3 fd4 fd5 fd6 : FuncData} {t1 t2 t3 : Tok} (F : Fun K "rub" "rub" sRub f fd)
    (FC : Fun K "is_circle" "is_circle" sCirc f1 fd1) (bC : Binds K fd1 ["n"] []) (gC : mg "is_circle" = some (.ref f1))
    (FL : Fun K "lies_on" "lies_on" sLies f2 fd2) (bL : Binds K fd2 ["n", "places"] []) (gL : mg "lies_on" = some (.ref f2))
    (FS : Fun K "gap_counts" "gap_counts" sGcs f3 fd3) (bS : Binds K fd3 ["n", "places"] []) (gS : mg "gap_counts" = some (.ref f3))
    (FG : Fun K "gap_count" "gap_count" sGc f4 fd4) (bG : Binds K fd4 ["places", "marks", "d"] []) (gG : mg "gap_count" = some (.ref f4))
    (FW : Fun K "weighed" "weighed" sWei f5 fd5) (bW : Binds K fd5 ["counts", "weights"] []) (gW : mg "weighed" = some (.ref f5))
    (FM : Fun K "marks_of" "marks_of" sMark f6 fd6) (bM : Binds K fd6 ["n", "places"] []) (gM : mg "marks_of" = some (.ref f6))
    (c1 : mg "MOST_PLACES" = some (.int 128 t1)) (c2 : mg "NOT_IN_RANGE" = some (.int (-2) t2)) (c3 : mg "NOT_SUCH_A_SET" = some (.int (-3) t3))
    (mA : mg "all" = none) (mS : mg "sum" = none) (mL : mg "len" = none) (mR : mg "range" = none) (mZ : mg "zip" = none) : FnOk P w K mg base CX0 3 f fd ["n", "a", "w"] (spRub K) := by
  have GC : FnOk P w K mg base CX0 1 f1 fd1 ["n"] spCirc := ok_circ FC c1
  have GL : FnOk P w K mg base CX0 1 f2 fd2 ["n", "places"] (spLies K) := ok_lies FL mA
  have GS : FnOk P w K mg base CX0 2 f3 fd3 ["n", "places"] (spGcs K) := ok_gcs FS FM bM gM FG bG gG mS mL mR
  have GW : FnOk P w K mg base CX0 1 f5 fd5 ["counts", "weights"] (spWei K) := ok_wei FW mS mZ
  refine F.ok scRub (fun vs H Q E h => ?_) (fun cdv A outer s H vs Q E hr h => ?_)
  · obtain ⟨n, a, b, ns, ws, rfl, _⟩ := h
    rfl
  · obtain ⟨n, a, b, ns, ws, rfl, hS, hB, hl, h0, hb, hw, q⟩ := h
    refine ⟨_, pss_cons (ps_if (pt_not (pt_val (pe_call GC (hr.mono (by decide)) (by rfl) gC FC.kp bC .nil pass0 (pa_cons (pv 0) pa_nil)))) (pss_one (ps_ret (pe_lst (pa_cons (pe_glob (v := .int (-2)) rfl c2 ⟨_, rfl⟩) pa_nil)))) pss_nil)
      (pss_cons (ps_if (pt_not (pt_val (pe_call GL (hr.mono (by decide)) (by rfl) gL FL.kp bL .nil pass0 (pa_cons (pv 0) (pa_cons (pv 1) pa_nil))))) (pss_one (ps_ret (pe_lst (pa_cons (pe_glob (v := .int (-3)) rfl c3 ⟨_, rfl⟩) pa_nil)))) pss_nil)
      (pss_one (ps_ret (pe_lst (pa_cons pe_int (pa_cons (pe_call GW (hr.mono (by decide)) (by rfl) gW FW.kp bW .nil pass0 (pa_cons (pe_call GS hr (by rfl) gS FS.kp bS .nil pass0 (pa_cons (pv 0) (pa_cons (pv 1) pa_nil))) (pa_cons (pv 2) pa_nil))) pa_nil)))))), ?_⟩
    refine ⟨.int n, rfl, n, rfl, circ n, rfl, ?_⟩
    unfold rubM at q
    cases c : circ n with
    | false =>
      rw [c] at q
      exact iteT ⟨(by show 1 ≤ sizeLine; decide), fun p hp => q _ p upd_same⟩
    | true =>
      rw [c] at q
      refine iteF ?_
      refine ⟨.int n, rfl, .ref a, rfl, n, a, ns, rfl, hS, hl, fun H1 s1 => ⟨liesOn n ns, rfl, ?_⟩⟩
      cases l : liesOn n ns with
      | false =>
        rw [l] at q
        exact iteT ⟨(by show 1 ≤ sizeLine; decide), fun p hp => q _ p upd_same⟩
      | true =>
        rw [l] at q
        refine iteF ?_
        have hn : 1 ≤ n ∧ n ≤ 128 := by
          unfold circ at c
          rw [Bool.and_eq_true] at c
          exact ⟨of_decide_eq_true c.1, of_decide_eq_true c.2⟩
        refine ⟨.int n, rfl, .ref a, rfl, n, a, ns, rfl, s1.seq hS, hl, hn.1, by omega, fun x hx => ⟨hb x hx, lies_all l x hx⟩, fun H2 p s2 hp ep => ?_⟩
        refine ⟨.ref b, rfl, p, b, gapsL n ns, ws, rfl, SqL.of ep, (s1.trans s2).seq hB, (by rw [gapsL_len]; omega), hw, fun H3 s3 => ?_⟩
        exact ⟨(by show 2 ≤ sizeLine; decide), fun r hr2 => q _ r upd_same⟩
end
end Cn

namespace Cn
open PySem PySem.Spec PyProof.Rows L2
/-! ### what the top has written -/
theorem all_mk {P : Program} {w : World} {K : PySem.W.Frag} {h : Heap} {mg : Str → Option Value} {fa f1 f2 f3 f4 f5 f6 f7 : Addr} (X : K.In h) (G : h.Ns mainGlobals mg) (hfa : mg "rub" = some (.ref fa))
    {od1 an1 od2 an2 od3 an3 od4 an4 od5 an5 od6 an6 od7 an7 : Option Addr} {sl1 sl2 sl3 sl4 sl5 sl6 sl7 : Array (Option Value)} {oc1 kV1 dc1 pm1 cd1 ct1 oc2 kV2 dc2 pm2 cd2 ct2 oc3 kV3 dc3 pm3 cd3 ct3 oc4 kV4 dc4 pm4 cd4 ct4 oc5 kV5 dc5 pm5 cd5 ct5 oc6 kV6 dc6 pm6 cd6 ct6 oc7 kV7 dc7 pm7 cd7 ct7 : Value} {t1 t2 t3 : Tok}
    (a1 : PySem.W.nsIn K mainGlobals "rub" = some (some (.ref f1)))
    (l1 : K.lookup f1 = some ⟨oc1, od1, .func (PySem.W.fnOf "rub" "rub" (defArgs sRub) (defBody sRub) (defScope sRub) .none kV1 dc1 pm1 an1 cd1 ct1), sl1⟩)
    (c1 : PySem.W.codeIn K cd1 "rub" = true) (k1 : PySem.W.keepIn K (.ref f1) = true)
    (a2 : PySem.W.nsIn K mainGlobals "is_circle" = some (some (.ref f2)))
    (l2 : K.lookup f2 = some ⟨oc2, od2, .func (PySem.W.fnOf "is_circle" "is_circle" (defArgs sCirc) (defBody sCirc) (defScope sCirc) .none kV2 dc2 pm2 an2 cd2 ct2), sl2⟩)
    (c2 : PySem.W.codeIn K cd2 "is_circle" = true) (k2 : PySem.W.keepIn K (.ref f2) = true)
    (a3 : PySem.W.nsIn K mainGlobals "lies_on" = some (some (.ref f3)))
    (l3 : K.lookup f3 = some ⟨oc3, od3, .func (PySem.W.fnOf "lies_on" "lies_on" (defArgs sLies) (defBody sLies) (defScope sLies) .none kV3 dc3 pm3 an3 cd3 ct3), sl3⟩)
    (c3 : PySem.W.codeIn K cd3 "lies_on" = true) (k3 : PySem.W.keepIn K (.ref f3) = true)
    (a4 : PySem.W.nsIn K mainGlobals "gap_counts" = some (some (.ref f4)))
    (l4 : K.lookup f4 = some ⟨oc4, od4, .func (PySem.W.fnOf "gap_counts" "gap_counts" (defArgs sGcs) (defBody sGcs) (defScope sGcs) .none kV4 dc4 pm4 an4 cd4 ct4), sl4⟩)
    (c4 : PySem.W.codeIn K cd4 "gap_counts" = true) (k4 : PySem.W.keepIn K (.ref f4) = true)
    (a5 : PySem.W.nsIn K mainGlobals "gap_count" = some (some (.ref f5)))
    (l5 : K.lookup f5 = some ⟨oc5, od5, .func (PySem.W.fnOf "gap_count" "gap_count" (defArgs sGc) (defBody sGc) (defScope sGc) .none kV5 dc5 pm5 an5 cd5 ct5), sl5⟩)
    (c5 : PySem.W.codeIn K cd5 "gap_count" = true) (k5 : PySem.W.keepIn K (.ref f5) = true)
    (a6 : PySem.W.nsIn K mainGlobals "weighed" = some (some (.ref f6)))
    (l6 : K.lookup f6 = some ⟨oc6, od6, .func (PySem.W.fnOf "weighed" "weighed" (defArgs sWei) (defBody sWei) (defScope sWei) .none kV6 dc6 pm6 an6 cd6 ct6), sl6⟩)
    (c6 : PySem.W.codeIn K cd6 "weighed" = true) (k6 : PySem.W.keepIn K (.ref f6) = true)
    (a7 : PySem.W.nsIn K mainGlobals "marks_of" = some (some (.ref f7)))
    (l7 : K.lookup f7 = some ⟨oc7, od7, .func (PySem.W.fnOf "marks_of" "marks_of" (defArgs sMark) (defBody sMark) (defScope sMark) .none kV7 dc7 pm7 an7 cd7 ct7), sl7⟩)
    (c7 : PySem.W.codeIn K cd7 "marks_of" = true) (k7 : PySem.W.keepIn K (.ref f7) = true)
    (n1 : PySem.W.nsIn K mainGlobals "MOST_PLACES" = some (some (.int 128 t1)))
    (n2 : PySem.W.nsIn K mainGlobals "NOT_IN_RANGE" = some (some (.int (-2) t2)))
    (n3 : PySem.W.nsIn K mainGlobals "NOT_SUCH_A_SET" = some (some (.int (-3) t3)))
    (z1 : PySem.W.nsIn K mainGlobals "all" = some none)
    (z2 : PySem.W.nsIn K mainGlobals "sum" = some none)
    (z3 : PySem.W.nsIn K mainGlobals "len" = some none)
    (z4 : PySem.W.nsIn K mainGlobals "range" = some none)
    (z5 : PySem.W.nsIn K mainGlobals "zip" = some none)
    : ∃ fd : FuncData,
      (∀ (s : Shared) (us : List Value), us.length = (["n", "a", "w"] : List Str).length → BindsTo s fd ⟨us, []⟩ ((["n", "a", "w"] : List Str).zip us)) ∧
      ∀ base : Heap, K.In base → base.Ns mainGlobals mg → FnOk P w K mg base CX0 3 fa fd ["n", "a", "w"] (spRub K) := by
  have e := hfa.symm.trans (PySem.W.mg_of X G a1)
  cases e
  have F1 := fun_mk (st := sRub) l1 c1 k1
  have F2 := fun_mk (st := sCirc) l2 c2 k2
  have b2 := F2.binds (ps := ["n"]) fun _ _ _ _ _ _ us hl => match us, hl with | [_], _ => rfl
  have F3 := fun_mk (st := sLies) l3 c3 k3
  have b3 := F3.binds (ps := ["n", "places"]) fun _ _ _ _ _ _ us hl => match us, hl with | [_, _], _ => rfl
  have F4 := fun_mk (st := sGcs) l4 c4 k4
  have b4 := F4.binds (ps := ["n", "places"]) fun _ _ _ _ _ _ us hl => match us, hl with | [_, _], _ => rfl
  have F5 := fun_mk (st := sGc) l5 c5 k5
  have b5 := F5.binds (ps := ["places", "marks", "d"]) fun _ _ _ _ _ _ us hl => match us, hl with | [_, _, _], _ => rfl
  have F6 := fun_mk (st := sWei) l6 c6 k6
  have b6 := F6.binds (ps := ["counts", "weights"]) fun _ _ _ _ _ _ us hl => match us, hl with | [_, _], _ => rfl
  have F7 := fun_mk (st := sMark) l7 c7 k7
  have b7 := F7.binds (ps := ["n", "places"]) fun _ _ _ _ _ _ us hl => match us, hl with | [_, _], _ => rfl
  exact ⟨PySem.W.fnOf "rub" "rub" (defArgs sRub) (defBody sRub) (defScope sRub) .none kV1 dc1 pm1 an1 cd1 ct1,
    fun s us hu => match us, hu with | [_, _, _], _ => .of_eq rfl,
    fun base _ _ => ok_rub F1 F2 b2 (PySem.W.mg_of X G a2) F3 b3 (PySem.W.mg_of X G a3) F4 b4 (PySem.W.mg_of X G a4) F5 b5 (PySem.W.mg_of X G a5) F6 b6 (PySem.W.mg_of X G a6) F7 b7 (PySem.W.mg_of X G a7) (PySem.W.mg_of X G n1) (PySem.W.mg_of X G n2) (PySem.W.mg_of X G n3) (PySem.W.mg_none_of X G z1) (PySem.W.mg_none_of X G z2) (PySem.W.mg_none_of X G z3) (PySem.W.mg_none_of X G z4) (PySem.W.mg_none_of X G z5)⟩
end Cn
open PySem PySem.W PyProof.Rows
set_option maxRecDepth 100000 in
set_option maxHeartbeats 0 in
theorem PySem.Challenge.cw_circlenotes_s03_rub_holds : PySem.Challenge.rw_circlenotes_s03_rub.Holds := by
  w_on; k_headS; (case hw => exact ⟨[.int 0, .list [], .list []], by decide +kernel, by decide +kernel⟩)
  k_fillS
  refine L2.walk_specK (r := PySem.Challenge.rw_circlenotes_s03_rub) (k := 3) (CX := L2.CX0) (ps := ["n", "a", "w"]) (sp := Cn.spRub) (by decide +kernel) rfl rfl ⟨rfl, by decide, by decide⟩ (fun w h Y => PySem.W.kIn_of Y) ?F ?S (fun _ _ _ _ z => z)
  case F =>
    intro w mg fa h Y KX G hmg
    refine' Cn.all_mk KX G hmg ?a1 ?l1 ?c1 ?k1 ?a2 ?l2 ?c2 ?k2 ?a3 ?l3 ?c3 ?k3 ?a4 ?l4 ?c4 ?k4 ?a5 ?l5 ?c5 ?k5 ?a6 ?l6 ?c6 ?k6 ?a7 ?l7 ?c7 ?k7 ?n1 ?n2 ?n3 ?z1 ?z2 ?z3 ?z4 ?z5
    (case a1 => k_is); (case l1 => k_is); (case c1 => k_is); (case k1 => k_is)
    (case a2 => k_is); (case l2 => k_is); (case c2 => k_is); (case k2 => k_is)
    (case a3 => k_is); (case l3 => k_is); (case c3 => k_is); (case k3 => k_is)
    (case a4 => k_is); (case l4 => k_is); (case c4 => k_is); (case k4 => k_is)
    (case a5 => k_is); (case l5 => k_is); (case c5 => k_is); (case k5 => k_is)
    (case a6 => k_is); (case l6 => k_is); (case c6 => k_is); (case k6 => k_is)
    (case a7 => k_is); (case l7 => k_is); (case c7 => k_is); (case k7 => k_is)
    (case n1 => k_is); (case n2 => k_is); (case n3 => k_is); (case z1 => k_is)
    (case z2 => k_is); (case z3 => k_is); (case z4 => k_is); (case z5 => k_is)
  case S =>
    intro K H xs a hO hwi hask hx
    obtain ⟨n, ns, ws, u⟩ := a
    cases hx with
    | cons h1 h2 =>
      cases h2 with
      | cons h3 h4 =>
        cases h4 with
        | cons h5 h6 =>
          cases h6
          cases h1
          cases h3 with
          | lst hs ha =>
            cases h5 with
            | lst hs2 ha2 =>
              have e := L2.ints_dw ns _ ha
              subst e
              have e2 := L2.ints_dw ws _ ha2
              subst e2
              have q : (Codec.inInt 0 4294967295 n && ((Codec.inLen 0 128 ns && ns.all (Codec.inInt 0 127)) && ((Codec.inLen 0 128 ws && ws.all (Codec.inInt (-2147483648) 2147483647)) && true))) = true := hwi
              rw [Bool.and_eq_true, Bool.and_eq_true, Bool.and_eq_true, Bool.and_eq_true, Bool.and_eq_true] at q
              have b0 := (Codec.inInt_iff.mp q.1).1
              have bl := (Codec.inNat_iff.mp q.2.1.1).2
              have bx : ∀ x ∈ ns, 0 ≤ x := fun x hx => (Codec.inInt_iff.mp (List.all_eq_true.mp q.2.1.2 x hx)).1
              have bw : ∀ x ∈ ws, -2147483648 ≤ x ∧ x ≤ 2147483647 := fun x hx => Codec.inInt_iff.mp (List.all_eq_true.mp q.2.2.1.2 x hx)
              refine ⟨n, _, _, ns, ws, rfl, hs, hs2, by omega, b0, bx, bw, fun H' p hp => ?_⟩
              rw [Cn.rubM_spec n b0 ns bx ws] at hp
              exact .lst (L2.SqL.of hp) (L2.dw_ints _)
#print axioms PySem.Challenge.cw_circlenotes_s03_rub_holds
