import PyProof.Rows.All
import Wide.All
import OpenK.AllK
import Wide.FinOn
import Open.SpecLaws
import KE.OsHead
import KE.OsGo
import HandS.ForSpec
import HandS.Comp
import HandS.Walk
import PySem.Challenge.RW_circlenotes_s05_spread
set_option Elab.async false
set_option linter.all false
set_option maxRecDepth 100000
/-! Helpers over the hand layer: heaps that only grow, comprehensions that only make. -/
namespace Cn
open PySem PySem.Spec PyProof.Rows L2
/-! ### heaps -/
theorem sameUp {H H4 : Hp} {p : Addr} {o : HO} (s : Same H H4) (h : H p = none) : Same H (upd H4 p o) := fun b x e => by
  rw [upd_ne (ne_of_none e h)]
  exact s b x e
theorem sameNew {H : Hp} {p : Addr} {o : HO} (h : H p = none) : Same H (upd H p o) := sameUp (Same.refl H) h
/-! ### comprehensions that only make -/
theorem mapRangeSucc {A : Type} (f : Nat → A) (i : Nat) : (List.range i).map f ++ [f i] = (List.range (i + 1)).map f := by
  rw [List.range_succ, List.map_append]
  rfl
/-- what a comprehension over J asks, its list at D -/
def LcGoal (J : It) (j : Nat) (te : TE) (vs : List Nat) (s0 : L2.St) (H1 : Hp) (Qd : Addr → Hp → Prop) : Prop :=
  ∀ D, H1 D = none →
    ∃ W : Nat → Nat → Hp → Prop,
      (∃ m, W 0 m (upd H1 D (.lst []))) ∧
      ∀ i m H, W i m H →
        (J.stop i H ∧ Qd D H) ∨
        (J.go i H ∧
          ∃ Nx : Hp → Prop,
            (∀ H', Nx H' → ∃ m', m' < m ∧ W (i + 1) m' H') ∧
            ∀ x H', J.yld i H x H' →
              gName j x (wipe s0 vs) H' fun s2 H2 =>
                wipe s2 vs = wipe s0 vs ∧
                tYes s2 H2 fun b H3 =>
                  if b = true then
                    te s2 H3 fun y H4 => ∃ acc, H4 D = some (.lst acc) ∧ acc.length < sizeLine ∧ Nx (upd H4 D (.lst (acc ++ [y])))
                  else Nx H3)
theorem lcL {K : PySem.W.Frag} {a : Addr} {xs : List V} {j : Nat} {te : TE} {vs : List Nat} {s0 : L2.St} {H1 : Hp} {Qd : Addr → Hp → Prop} (f : Nat → V)
    (hS : SqL K H1 a xs) (hl : xs.length ≤ 1000) (hw : ∀ x, wipe ((wipe s0 vs).set j (some x)) vs = wipe s0 vs)
    (hs : ∀ i x H, xs[i]? = some x → Same H1 H → ∀ Q' : V → Hp → Prop, (∀ H4, Same H H4 → Q' (f i) H4) → te ((wipe s0 vs).set j (some x)) H Q')
    (hd : ∀ D H, H1 D = none → Same H1 H → H D = some (.lst ((List.range xs.length).map f)) → Qd D H) :
    LcGoal (Itl K a) j te vs s0 H1 Qd := fun D hD =>
  lc_list (K := K) (a := a) (xs := xs) (fun i H => Same H1 H ∧ H D = some (.lst ((List.range i).map f)))
    ⟨sameNew hD, upd_same⟩ (fun i H _ q => q.1.seq hS)
    (fun i x H hx q => ⟨hw x, (hs i x H hx q.1 _ fun H4 s4 => ⟨_, s4 _ _ q.2, by
      rw [List.length_map, List.length_range]
      have h : i < xs.length := by
        rcases Nat.lt_or_ge i xs.length with h | h
        · exact h
        · rw [List.getElem?_eq_none h] at hx
          cases hx
      exact small1000 (by omega), sameUp (q.1.trans s4) hD, by rw [upd_same, mapRangeSucc]⟩)⟩)
    (fun H q => hd D H hD q.1 q.2)
theorem lcR {n : Nat} {lo : Int} {j : Nat} {te : TE} {vs : List Nat} {s0 : L2.St} {H1 : Hp} {Qd : Addr → Hp → Prop} (f : Nat → V)
    (hl : n ≤ 1000) (hw : ∀ x, wipe ((wipe s0 vs).set j (some x)) vs = wipe s0 vs)
    (hs : ∀ (i : Nat) H, i < n → Same H1 H → ∀ Q' : V → Hp → Prop, (∀ H4, Same H H4 → Q' (f i) H4) → te ((wipe s0 vs).set j (some (.int (lo + i)))) H Q')
    (hd : ∀ D H, H1 D = none → Same H1 H → H D = some (.lst ((List.range n).map f)) → Qd D H) :
    LcGoal (Itr lo n) j te vs s0 H1 Qd := fun D hD =>
  lc_range (lo := lo) (n := n) (fun i H => Same H1 H ∧ H D = some (.lst ((List.range i).map f)))
    ⟨sameNew hD, upd_same⟩
    (fun i H hi q => ⟨hw _, (hs i H hi q.1 _ fun H4 s4 => ⟨_, s4 _ _ q.2, by
      rw [List.length_map, List.length_range]
      exact small1000 (by omega), sameUp (q.1.trans s4) hD, by rw [upd_same, mapRangeSucc]⟩)⟩)
    (fun H q => hd D H hD q.1 q.2)
/-- a comprehension over a range whose items are new lists of whole numbers -/
theorem lcRr {n : Nat} {lo : Int} {j : Nat} {te : TE} {vs : List Nat} {s0 : L2.St} {H1 : Hp} {Qd : Addr → Hp → Prop} (L : Nat → List Int)
    (hl : n ≤ 1000) (hw : ∀ x, wipe ((wipe s0 vs).set j (some x)) vs = wipe s0 vs)
    (hs : ∀ (i : Nat) H, i < n → Same H1 H → ∀ Q' : V → Hp → Prop, (∀ H4 q, Same H H4 → H q = none → H4 q = some (.lst ((L i).map V.int)) → Q' (.ref q) H4) → te ((wipe s0 vs).set j (some (.int (lo + i)))) H Q')
    (hd : ∀ D H (ps : List Addr), H1 D = none → Same H1 H → H D = some (.lst (ps.map V.ref)) → ps.length = n → (∀ i q, ps[i]? = some q → H q = some (.lst ((L i).map V.int))) → Qd D H) :
    LcGoal (Itr lo n) j te vs s0 H1 Qd := fun D hD =>
  lc_range (lo := lo) (n := n) (fun i H => ∃ ps : List Addr, Same H1 H ∧ H D = some (.lst (ps.map V.ref)) ∧ ps.length = i ∧ ∀ k q, ps[k]? = some q → q ≠ D ∧ H q = some (.lst ((L k).map V.int)))
    ⟨[], sameNew hD, upd_same, rfl, fun k q e => by simp at e⟩
    (fun i H hi ⟨ps, sm, eD, el, ep⟩ => ⟨hw _, (hs i H hi sm _ fun H4 q s4 hq eq => ⟨_, s4 _ _ eD, by
      rw [List.length_map, el]
      exact small1000 (by omega), ps ++ [q], sameUp (sm.trans s4) hD, by rw [upd_same, List.map_append]; rfl, by rw [List.length_append, el]; rfl, fun k p e => by
        have nD : q ≠ D := fun z => by
          rw [z, eD] at hq
          cases hq
        rcases Nat.lt_or_ge k ps.length with h | h
        · rw [List.getElem?_append_left h] at e
          obtain ⟨n1, n2⟩ := ep k p e
          exact ⟨n1, by rw [upd_ne n1]; exact s4 _ _ n2⟩
        · rw [List.getElem?_append_right h] at e
          have hk : k = ps.length := by
            have := (List.getElem?_eq_some_iff.mp e).1
            simp at this
            omega
          subst hk
          rw [Nat.sub_self] at e
          obtain rfl : q = p := Option.some.inj e
          exact ⟨nD, by rw [upd_ne nD, el]; exact eq⟩⟩)⟩)
    (fun H ⟨ps, sm, eD, el, ep⟩ => hd D H ps hD sm eD el fun i q e => (ep i q e).2)
/-- len of a list, its frame named -/
def rLenS (K : PySem.W.Frag) : List V → Hp → (V → Hp → Prop) → Prop := fun xs H Q =>
  ∃ p ys, xs = [.ref p] ∧
    (SqL K H p ys ∨ SqT K H p ys) ∧ Q (.int ys.length) H
theorem rangeGet {A B : Type} (xs : List A) (g : A → B) (d : A) : (List.range xs.length).map (fun i => g (xs.getD i d)) = xs.map g := by
  apply List.ext_getElem
  · simp
  · intro i h1 h2
    simp at h1 h2
    simp [h1]
theorem getDof {A : Type} {xs : List A} {i : Nat} {x d : A} (h : xs[i]? = some x) : xs.getD i d = x := by
  rw [List.getD_eq_getElem?_getD, h]
  rfl
theorem atGet {A : Type} {xs : List A} {i : Nat} {d : A} (h : i < xs.length) : xs[i]? = some (xs.getD i d) := by
  rw [List.getD_eq_getElem?_getD, List.getElem?_eq_getElem h]
  rfl
theorem intAt {ns : List Int} {i : Nat} {x : V} (h : (ns.map V.int)[i]? = some x) : x = .int (ns.getD i 0) ∧ i < ns.length := by
  rw [List.getElem?_map] at h
  cases e : ns[i]? with
  | none =>
    rw [e] at h
    cases h
  | some z =>
    rw [e] at h
    refine ⟨?_, (List.getElem?_eq_some_iff.mp e).1⟩
    rw [getDof e]
    exact (Option.some.inj h).symm
end Cn

namespace Cn
open PySem PySem.Spec PyProof.Rows L2
/-! ### a comprehension over zip of two lists, its items made of the pair's two -/
theorem lcZ {K : PySem.W.Frag} {a b : Addr} {xs ys : List V} {i1 i2 : Nat} {te : TE} {vs : List Nat} {s0 : L2.St} {H1 : Hp} {Qd : Addr → Hp → Prop} (f : Nat → V)
    (hX : SqL K H1 a xs) (hY : SqL K H1 b ys) (hl : min xs.length ys.length ≤ 1000)
    (hw : ∀ x y, wipe (((wipe s0 vs).set i1 (some x)).set i2 (some y)) vs = wipe s0 vs)
    (hs : ∀ i x y H, xs[i]? = some x → ys[i]? = some y → Same H1 H → ∀ Q' : V → Hp → Prop, (∀ H4, Same H H4 → Q' (f i) H4) → te (((wipe s0 vs).set i1 (some x)).set i2 (some y)) H Q')
    (hd : ∀ D H, H1 D = none → Same H1 H → H D = some (.lst ((List.range (min xs.length ys.length)).map f)) → Qd D H) :
    ∀ D, H1 D = none →
    ∃ W : Nat → Nat → Hp → Prop,
      (∃ m, W 0 m (upd H1 D (.lst []))) ∧
      ∀ i m H, W i m H →
        ((Itz K a b).stop i H ∧ Qd D H) ∨
        ((Itz K a b).go i H ∧
          ∃ Nx : Hp → Prop,
            (∀ H', Nx H' → ∃ m', m' < m ∧ W (i + 1) m' H') ∧
            ∀ x H', (Itz K a b).yld i H x H' →
              gTup K 2 (gCons (gName i1) (gCons (gName i2) gNil)) x (wipe s0 vs) H' fun s2 H2 =>
                wipe s2 vs = wipe s0 vs ∧
                tYes s2 H2 fun b H3 =>
                  if b = true then
                    te s2 H3 fun y H4 => ∃ acc, H4 D = some (.lst acc) ∧ acc.length < sizeLine ∧ Nx (upd H4 D (.lst (acc ++ [y])))
                  else Nx H3) := fun D hD =>
  lc_it (walk_zip (K := K) (a := a) (b := b) (xs := xs) (ys := ys) rfl) (fun i H => Same H1 H ∧ H D = some (.lst ((List.range i).map f)))
    ⟨sameNew hD, upd_same⟩ (fun i H _ q => ⟨q.1.seq hX, q.1.seq hY⟩)
    (fun i x H H' hi q ⟨T, u, v, ex, hT, eH, eu, ev⟩ => by
      subst ex
      subst eH
      refine ⟨T, [u, v], rfl, SqT.of upd_same, rfl, u, [v], rfl, v, [], rfl, rfl, hw u v, ?_⟩
      have sT : Same H (upd H T (.tup [u, v])) := sameNew hT
      refine hs i u v _ eu ev (q.1.trans sT) _ fun H4 s4 => ⟨_, (sT.trans s4) _ _ q.2, ?_, sameUp (q.1.trans (sT.trans s4)) hD, by rw [upd_same, mapRangeSucc]⟩
      rw [List.length_map, List.length_range]
      exact small1000 (by omega))
    (fun H q => hd D H hD q.1 q.2)
end Cn

set_option linter.all false
namespace Cn
/-! ### the mathematics of gaps -/
def circ (n : Int) : Bool := decide (1 ≤ n) && decide (n ≤ 128)
def liesOn (n : Int) (ns : List Int) : Bool := (ns.map fun x => decide (x < n)).all id
def marksL (n : Nat) (ns : List Int) : List Int := (List.range n).map fun (i : Nat) => if (i : Int) ∈ ns then (1 : Int) else 0
def gapI (n : Int) (ns : List Int) (d : Nat) : Int := (ns.map fun x => (marksL n.toNat ns).getD ((x + d) % n).toNat 0).sum
def gapsL (n : Int) (ns : List Int) : List Int := (List.range n.toNat).map (gapI n ns)
def gapsM (n : Int) (ns : List Int) : List Int := if circ n = false then [-2] else if liesOn n ns = false then [-3] else (ns.length : Int) :: gapsL n ns
theorem marks_len (n : Nat) (ns : List Int) : (marksL n ns).length = n := by simp [marksL]
theorem marks_nil (n : Nat) : marksL n [] = List.replicate n 0 := by
  apply List.ext_getElem
  · simp [marksL]
  · intro i h1 h2
    simp [marksL]
theorem marks_snoc (n : Nat) (ns : List Int) (x : Int) (h0 : 0 ≤ x) : (marksL n ns).set x.toNat 1 = marksL n (ns ++ [x]) := by
  apply List.ext_getElem
  · simp [marksL]
  · intro i h1 h2
    rw [List.getElem_set]
    simp only [marksL, List.getElem_map, List.getElem_range, List.mem_append, List.mem_singleton]
    by_cases e : x.toNat = i
    · have : (i : Int) = x := by omega
      rw [if_pos e, if_pos (.inr this)]
    · have : ¬ (i : Int) = x := by omega
      rw [if_neg e]
      simp only [this, or_false]
theorem marks_get (n : Nat) (ns : List Int) (j : Nat) (h : j < n) : (marksL n ns).getD j 0 = if (j : Int) ∈ ns then 1 else 0 := by
  rw [List.getD_eq_getElem?_getD]
  simp [marksL, h]
theorem circ_among (n : Int) (h0 : 0 ≤ n) : Sh15.among n.toNat 1 128 = circ n := by
  unfold Sh15.among circ
  congr 1
  · exact decide_eq_decide.mpr (by omega)
  · exact decide_eq_decide.mpr (by omega)
theorem lies_isIn (n : Int) (h0 : 0 ≤ n) : ∀ ns : List Int, (∀ x ∈ ns, 0 ≤ x) → Sh15.isIn n.toNat (Sh15Neutral.nats ns) = liesOn n ns
  | [], _ => rfl
  | x :: r, h => by
    have ih := lies_isIn n h0 r fun y hy => h y (List.mem_cons_of_mem _ hy)
    have hx := h x List.mem_cons_self
    show (decide (x.toNat < n.toNat) && Sh15.isIn n.toNat (Sh15Neutral.nats r)) = (decide (x < n) && liesOn n r)
    rw [ih]
    congr 1
    exact decide_eq_decide.mpr (by omega)
theorem lies_all {n : Int} {ns : List Int} (h : liesOn n ns = true) : ∀ x ∈ ns, x < n := by
  intro x hx
  unfold liesOn at h
  rw [List.all_eq_true] at h
  exact of_decide_eq_true (h _ (List.mem_map_of_mem hx))
theorem sum_ind {A : Type} (p : A → Bool) : ∀ l : List A, (l.map fun x => if p x = true then (1 : Int) else 0).sum = ((l.filter p).length : Int)
  | [] => rfl
  | x :: r => by
    rw [List.map_cons, List.sum_cons, sum_ind p r]
    cases e : p x with
    | true => rw [List.filter_cons_of_pos e]; simp; omega
    | false => rw [List.filter_cons_of_neg (by rw [e]; exact Bool.false_ne_true)]; simp
theorem mem_nats {ns : List Int} (hb : ∀ x ∈ ns, 0 ≤ x) (j : Nat) : (Sh15Neutral.nats ns).contains j = decide ((j : Int) ∈ ns) := by
  rw [Bool.eq_iff_iff, List.contains_iff_mem, decide_eq_true_iff]
  unfold Sh15Neutral.nats
  rw [List.mem_map]
  constructor
  · rintro ⟨z, hz, e⟩
    have := hb z hz
    have e2 : (j : Int) = z := by omega
    rw [e2]
    exact hz
  · intro h
    exact ⟨_, h, by simp⟩
theorem gapI_spec (n : Int) (hn : 1 ≤ n) (ns : List Int) (hb : ∀ x ∈ ns, 0 ≤ x) (d : Nat) : gapI n ns d = ((Sh15.gap n.toNat (Sh15Neutral.nats ns) d : Nat) : Int) := by
  unfold gapI Sh15.gap
  rw [← sum_ind]
  have key : ∀ l : List Int, (∀ x ∈ l, 0 ≤ x) → (l.map fun x => (marksL n.toNat ns).getD ((x + d) % n).toNat 0) = (Sh15Neutral.nats l).map fun x => if (Sh15Neutral.nats ns).contains ((x + d) % n.toNat) = true then (1 : Int) else 0 := by
    intro l hl
    unfold Sh15Neutral.nats
    rw [List.map_map]
    apply List.map_congr_left
    intro x hx
    have h0 := hl x hx
    have e : ((x + d) % n).toNat = (x.toNat + d) % n.toNat := by
      have : (x + d) % n = (((x.toNat + d) % n.toNat : Nat) : Int) := by
        rw [Int.natCast_emod]
        congr 1 <;> omega
      omega
    have hlt : (x.toNat + d) % n.toNat < n.toNat := Nat.mod_lt _ (by omega)
    rw [e, marks_get _ _ _ hlt]
    show _ = if (Sh15Neutral.nats ns).contains ((x.toNat + d) % n.toNat) = true then (1 : Int) else 0
    rw [mem_nats hb]
    simp only [decide_eq_true_iff]
  rw [key ns hb]
theorem gapsL_spec (n : Int) (hn : 1 ≤ n) (ns : List Int) (hb : ∀ x ∈ ns, 0 ≤ x) : gapsL n ns = (Sh15.gaps n.toNat (Sh15Neutral.nats ns)).map fun (x : Nat) => (x : Int) := by
  unfold gapsL Sh15.gaps
  rw [List.map_map]
  apply List.map_congr_left
  intro d _
  exact gapI_spec n hn ns hb d
theorem gapsM_spec (n : Int) (h0 : 0 ≤ n) (ns : List Int) (hb : ∀ x ∈ ns, 0 ≤ x) : gapsM n ns = PySh15.gaps n ns := by
  have e : PySh15.gaps n ns = (let a := (if Sh15.among n.toNat 1 128 = false then Sh15.ok (-2) else if Sh15.isIn n.toNat (Sh15Neutral.nats ns) = false then Sh15.ok (-3) else ⟨((Sh15Neutral.nats ns).length : Nat), (Sh15.gaps n.toNat (Sh15Neutral.nats ns)).map (fun (x : Nat) => (x : Int)), []⟩); a.v :: (a.l ++ Sh15Neutral.ints a.a)) := rfl
  rw [e, circ_among n h0, lies_isIn n h0 ns hb]
  unfold gapsM
  cases c : circ n with
  | false => rfl
  | true =>
    cases l : liesOn n ns with
    | false => rfl
    | true =>
      have hn : 1 ≤ n := by
        unfold circ at c
        rw [Bool.and_eq_true] at c
        exact of_decide_eq_true c.1
      show (ns.length : Int) :: gapsL n ns = ((Sh15Neutral.nats ns).length : Int) :: (_ ++ [])
      rw [gapsL_spec n hn ns hb, List.append_nil]
      unfold Sh15Neutral.nats
      rw [List.length_map]
      rfl
end Cn

set_option linter.all false
namespace Cn
/-! ### the mathematics of spread -/
def behL (ns : List Int) (i : Nat) : List Int := ns.drop i ++ ns.take i
def spanI (n : Int) (ns : List Int) (i j : Nat) : Int := ((behL ns i).getD j 0 - ns.getD j 0) % n
def spansL (n : Int) (ns : List Int) (i : Nat) : List Int := (List.range ns.length).map (spanI n ns i)
def downI (n : Int) (ns : List Int) (i : Int) : Int := n * i / (ns.length : Int)
def upI (n : Int) (ns : List Int) (i : Int) : Int := (n * i + (ns.length : Int) - 1) / (ns.length : Int)
def isLev (n : Int) (ns : List Int) (i s : Int) : Bool := decide (s = downI n ns i) || decide (s = upI n ns i)
def levB (n : Int) (ns : List Int) (i : Nat) : Bool := ((spansL n ns i).map (isLev n ns i)).all id
def spreadB (n : Int) (ns : List Int) : Bool := ((List.range (ns.length - 1)).map fun i => levB n ns (1 + i)).all id
def spreadM (n : Int) (ns : List Int) : List Int := if circ n = false then [-2] else if (decide (ns.length = 0) || !liesOn n ns) = true then [-3] else if spreadB n ns = true then [1] else [0]
theorem behL_len (ns : List Int) (i : Nat) (h : i ≤ ns.length) : (behL ns i).length = ns.length := by
  unfold behL
  rw [List.length_append, List.length_drop, List.length_take]
  omega
theorem beh_get (ns : List Int) (i j : Nat) (hi : i < ns.length) (hj : j < ns.length) : (behL ns i).getD j 0 = ns.getD ((j + i) % ns.length) 0 := by
  unfold behL
  rw [List.getD_eq_getElem?_getD, List.getD_eq_getElem?_getD, List.getElem?_append, List.length_drop]
  split
  · rename_i h
    rw [List.getElem?_drop, Nat.mod_eq_of_lt (by omega), Nat.add_comm]
  · rename_i h
    have e : (j + i) % ns.length = j - (ns.length - i) := by
      rw [Nat.mod_eq_sub_mod (by omega), Nat.mod_eq_of_lt (by omega)]
      omega
    rw [e, List.getElem?_take, if_pos (by omega)]
theorem nats_len (ns : List Int) : (Sh15Neutral.nats ns).length = ns.length := List.length_map ..
theorem nats_get (ns : List Int) (j : Nat) : (Sh15Neutral.nats ns).getD j 0 = (ns.getD j 0).toNat := by
  unfold Sh15Neutral.nats
  rw [List.getD_eq_getElem?_getD, List.getD_eq_getElem?_getD, List.getElem?_map]
  cases ns[j]? <;> rfl
theorem getD_mem (ns : List Int) (j : Nat) (h : j < ns.length) : ns.getD j 0 ∈ ns := by
  rw [List.getD_eq_getElem?_getD, List.getElem?_eq_getElem h]
  exact List.getElem_mem _
theorem span_spec {n : Int} (hn : 1 ≤ n) {ns : List Int} (hb : ∀ x ∈ ns, 0 ≤ x ∧ x < n) {i j : Nat} (hi : i < ns.length) (hj : j < ns.length) : spanI n ns i j = ((Sh15.span n.toNat (Sh15Neutral.nats ns) j i : Nat) : Int) := by
  unfold spanI Sh15.span
  rw [beh_get ns i j hi hj, nats_len, nats_get, nats_get]
  have h1 := hb _ (getD_mem ns ((j + i) % ns.length) (Nat.mod_lt _ (by omega)))
  have h2 := hb _ (getD_mem ns j hj)
  generalize ns.getD ((j + i) % ns.length) 0 = x at *
  generalize ns.getD j 0 = y at *
  rw [Int.natCast_emod, Int.toNat_of_nonneg (by omega)]
  have e : ((x.toNat + n.toNat - y.toNat : Nat) : Int) = (x - y) + n := by omega
  rw [e, Int.add_emod_right]
theorem down_spec {n : Int} (hn : 1 ≤ n) (ns : List Int) (i : Nat) : downI n ns i = ((n.toNat * i / ns.length : Nat) : Int) := by
  unfold downI
  rw [Int.natCast_ediv, Int.natCast_mul, Int.toNat_of_nonneg (by omega)]
theorem up_spec {n : Int} (hn : 1 ≤ n) (ns : List Int) (h : 0 < ns.length) (i : Nat) : upI n ns i = (((n.toNat * i + ns.length - 1) / ns.length : Nat) : Int) := by
  unfold upI
  rw [Int.natCast_ediv]
  congr 1
  have e : ((n.toNat * i : Nat) : Int) = n * i := by rw [Int.natCast_mul, Int.toNat_of_nonneg (by omega)]
  omega
theorem lev_spec {n : Int} (hn : 1 ≤ n) {ns : List Int} (hb : ∀ x ∈ ns, 0 ≤ x ∧ x < n) {i : Nat} (hi : i < ns.length) :
    levB n ns i = (List.range (Sh15Neutral.nats ns).length).all fun j => (Sh15.span n.toNat (Sh15Neutral.nats ns) j i == n.toNat * i / (Sh15Neutral.nats ns).length || Sh15.span n.toNat (Sh15Neutral.nats ns) j i == (n.toNat * i + (Sh15Neutral.nats ns).length - 1) / (Sh15Neutral.nats ns).length) := by
  unfold levB spansL
  rw [List.map_map, List.all_map, nats_len, Bool.eq_iff_iff, List.all_eq_true, List.all_eq_true]
  refine forall_congr' fun j => forall_congr' fun hj => ?_
  rw [List.mem_range] at hj
  show (isLev n ns i (spanI n ns i j)) = true ↔ _
  unfold isLev
  rw [span_spec hn hb hi hj, down_spec hn, up_spec hn ns (by omega), Bool.or_eq_true, Bool.or_eq_true, decide_eq_true_iff, decide_eq_true_iff, beq_iff_eq, beq_iff_eq]
  constructor
  · rintro (h | h)
    · exact .inl (Int.ofNat.inj h)
    · exact .inr (Int.ofNat.inj h)
  · rintro (h | h)
    · exact .inl (congrArg _ h)
    · exact .inr (congrArg _ h)
theorem spreadB_spec {n : Int} (hn : 1 ≤ n) {ns : List Int} (hb : ∀ x ∈ ns, 0 ≤ x ∧ x < n) : spreadB n ns = Sh15.spread n.toNat (Sh15Neutral.nats ns) := by
  unfold spreadB Sh15.spread
  rw [List.all_map, Bool.eq_iff_iff, List.all_eq_true, List.all_eq_true]
  constructor
  · intro h i hi
    rw [List.mem_range, nats_len] at hi
    by_cases h0 : i = 0
    · rw [h0]
      rfl
    · have := h (i - 1) (by rw [List.mem_range]; omega)
      have e : levB n ns (1 + (i - 1)) = true := this
      rw [show 1 + (i - 1) = i by omega, lev_spec hn hb hi] at e
      rw [Bool.or_eq_true]
      exact .inr e
  · intro h i hi
    rw [List.mem_range] at hi
    have := h (1 + i) (by rw [List.mem_range, nats_len]; omega)
    rw [Bool.or_eq_true] at this
    show levB n ns (1 + i) = true
    rw [lev_spec hn hb (by omega)]
    rcases this with e | e
    · rw [beq_iff_eq] at e
      omega
    · exact e
theorem spreadM_spec {n : Int} (h0 : 0 ≤ n) {ns : List Int} (hb : ∀ x ∈ ns, 0 ≤ x) : spreadM n ns = PySh15.spread n ns := by
  have e : PySh15.spread n ns = (let a := (if Sh15.among n.toNat 1 128 = false then Sh15.ok (-2) else if (Sh15.isIn n.toNat (Sh15Neutral.nats ns) && !(Sh15Neutral.nats ns).isEmpty) = false then Sh15.ok (-3) else Sh15.ok (if Sh15.spread n.toNat (Sh15Neutral.nats ns) = true then 1 else 0)); a.v :: (a.l ++ Sh15Neutral.ints a.a)) := rfl
  have ee : (Sh15Neutral.nats ns).isEmpty = decide (ns.length = 0) := by
    cases ns with
    | nil => rfl
    | cons x r => rfl
  rw [e, circ_among n h0, lies_isIn n h0 ns hb, ee]
  unfold spreadM
  cases c : circ n with
  | false => rfl
  | true =>
    have hn : 1 ≤ n := by
      unfold circ at c
      rw [Bool.and_eq_true] at c
      exact of_decide_eq_true c.1
    cases d : decide (ns.length = 0) with
    | true =>
      cases l : liesOn n ns <;> rfl
    | false =>
      cases l : liesOn n ns with
      | false => rfl
      | true =>
        rw [← spreadB_spec hn fun x hx => ⟨hb x hx, lies_all l x hx⟩]
        cases spreadB n ns <;> rfl
end Cn

namespace Cn
open PySem PySem.Spec PyProof.Rows L2
/-! ### the text -/
def topS (i : Nat) : Stmt := PySem.Challenge.pw_circlenotes_s05_spread.main.body.getD i (.Pass ⟨0, 0, 0, 0⟩)
abbrev sSpread : Stmt := topS 4
abbrev sCirc : Stmt := topS 5
abbrev sLies : Stmt := topS 6
abbrev sLev : Stmt := topS 7
abbrev sSpans : Stmt := topS 8
theorem scSpread : FnScope ["n", "a", "i"] ["n", "a"] (defScope sSpread) := ⟨rfl, rfl, rfl, by decide +kernel, rfl, by decide +kernel, by decide +kernel⟩
theorem scCirc : FnScope ["n"] ["n"] (defScope sCirc) := ⟨rfl, rfl, rfl, by decide +kernel, rfl, by decide +kernel, by decide +kernel⟩
theorem scLies : FnScope ["n", "places", "place"] ["n", "places"] (defScope sLies) := ⟨rfl, rfl, rfl, by decide +kernel, rfl, by decide +kernel, by decide +kernel⟩
theorem scLev : FnScope ["n", "places", "i", "size", "rounded_down", "rounded_up", "span"] ["n", "places", "i"] (defScope sLev) := ⟨rfl, rfl, rfl, by decide +kernel, rfl, by decide +kernel, by decide +kernel⟩
theorem scSpans : FnScope ["n", "places", "i", "behind", "start", "end"] ["n", "places", "i"] (defScope sSpans) := ⟨rfl, rfl, rfl, by decide +kernel, rfl, by decide +kernel, by decide +kernel⟩
end Cn

namespace Cn
open PySem PySem.Spec PyProof.Rows L2
section
variable {P : Program} {w : World} {K : PySem.W.Frag} {mg : Str → Option Value} {base : Heap}
/-! ### is_circle -/
def spCirc : Sp := fun vs H Q _ => ∃ n : Int, vs = [.int n] ∧ Q (.bl (circ n)) H
theorem ok_circ {f : Addr} {fd : FuncData} {k : Nat} {t : Tok} (F : Fun K "is_circle" "is_circle" sCirc f fd) (mM : mg "MOST_PLACES" = some (.int 128 t)) : FnOk P w K mg base CX0 (k + 1) f fd ["n"] spCirc := by
  refine F.ok scCirc (fun vs H Q E h => ?_) (fun cdv A outer s H vs Q E hr h => ?_)
  · obtain ⟨n, rfl, _⟩ := h
    rfl
  · obtain ⟨n, rfl, q⟩ := h
    refine ⟨_, pss_one (ps_ret (pe_chain op_le op_le pe_int (pv 0) (pe_glob (v := .int 128) rfl mM ⟨_, rfl⟩))), ?_⟩
    refine ⟨.int n, rfl, 1, n, rfl, rfl, decide (1 ≤ n), rfl, ?_⟩
    unfold circ at q
    refine ite2 (fun e => ?_) (fun e => ?_)
    · rw [e] at q
      exact ⟨n, 128, rfl, rfl, q⟩
    · rw [Bool.eq_false_iff.mpr e] at q
      exact q
end
end Cn

namespace Cn
open PySem PySem.Spec PyProof.Rows L2
section
variable {P : Program} {w : World} {K : PySem.W.Frag} {mg : Str → Option Value} {base : Heap}
/-! ### lies_on -/
def spLies (K : PySem.W.Frag) : Sp := fun vs H Q _ => ∃ (n : Int) (a : Addr) (ns : List Int), vs = [.int n, .ref a] ∧ SqL K H a (ns.map V.int) ∧ ns.length ≤ 1000 ∧ ∀ H', Same H H' → Q (.bl (liesOn n ns)) H'
theorem ok_lies {f : Addr} {fd : FuncData} {k : Nat} (F : Fun K "lies_on" "lies_on" sLies f fd) (mA : mg "all" = none) : FnOk P w K mg base CX0 (k + 1) f fd ["n", "places"] (spLies K) := by
  refine F.ok scLies (fun vs H Q E h => ?_) (fun cdv A outer s H vs Q E hr h => ?_)
  · obtain ⟨n, a, ns, rfl, _⟩ := h
    rfl
  · obtain ⟨n, a, ns, rfl, hS, hl, q⟩ := h
    refine ⟨_, pss_one (ps_ret (pe_callB (cr_all rfl) (by rfl) mA (by decide +kernel) (pa_cons
      (pe_lc (own := [("place", 2)]) (g := gName 2) (tt := tYes) rfl scLies.nd (pi_list (pv 1)) (blkOk_by (N := ["n", "places", "place"]) (sc := defScope sLies) (by decide +kernel))
        (fun _ _ _ _ _ => pg_name (i := 2) scLies.nd rfl (Or.inl rfl)) (fun _ _ _ _ _ => pts_nil) (fun _ _ _ _ _ => pe_cmpR op_lt (pv 2) (pv 0) (nomark _))) pa_nil))), ?_⟩
    refine ⟨.ref a, rfl, a, rfl, ⟨_, hS⟩, lcL (xs := ns.map V.int) (fun i => .bl (decide (ns.getD i 0 < n))) hS (by rw [List.length_map]; exact hl) (fun _ => rfl) (fun i x H2 hx s2 Q' hq => ?_) (fun D H2 hD s2 eD => ?_)⟩
    · obtain ⟨rfl, hi⟩ := intAt hx
      exact ⟨_, rfl, .int n, rfl, _, n, rfl, rfl, hq _ (Same.refl _)⟩
    · rw [List.length_map] at eD
      have e : (List.range ns.length).map (fun i => V.bl (decide (ns.getD i 0 < n))) = (ns.map fun x => decide (x < n)).map V.bl := by
        rw [rangeGet ns (fun x => V.bl (decide (x < n))) 0, List.map_map]
        rfl
      rw [e] at eD
      exact ⟨D, _, rfl, SqL.of eD, q _ s2⟩
end
end Cn

namespace Cn
open PySem PySem.Spec PyProof.Rows L2
section
variable {P : Program} {w : World} {K : PySem.W.Frag} {mg : Str → Option Value} {base : Heap}
/-! ### spans -/
theorem cutFrom (ns : List Int) (i : Nat) (h : i ≤ ns.length) : cutV (ns.map V.int) (some (i : Int)) none = (ns.drop i).map V.int := by
  have e : HT.sIx (ns.map V.int).length 0 (some (i : Int)) = i := by
    rw [HT.sIx_nat, List.length_map]
    omega
  show ((ns.map V.int).drop (HT.sIx (ns.map V.int).length 0 (some (i : Int)))).take ((ns.map V.int).length - HT.sIx (ns.map V.int).length 0 (some (i : Int))) = _
  rw [e, List.map_drop, List.take_of_length_le]
  rw [List.length_drop]
  omega
theorem cutTo (ns : List Int) (i : Nat) (h : i ≤ ns.length) : cutV (ns.map V.int) none (some (i : Int)) = (ns.take i).map V.int := by
  have e : HT.sIx (ns.map V.int).length (ns.map V.int).length (some (i : Int)) = i := by
    rw [HT.sIx_nat, List.length_map]
    omega
  show ((ns.map V.int).drop 0).take (HT.sIx (ns.map V.int).length (ns.map V.int).length (some (i : Int)) - 0) = _
  rw [e, List.map_take]
  rfl
def spSpans (K : PySem.W.Frag) : Sp := fun vs H Q _ => ∃ (n : Int) (i : Nat) (a : Addr) (ns : List Int), vs = [.int n, .ref a, .int (i : Int)] ∧ SqL K H a (ns.map V.int) ∧ ns.length ≤ 1000 ∧ 1 ≤ n ∧ i ≤ ns.length ∧
  ∀ H' p, Same H H' → H p = none → H' p = some (.lst ((spansL n ns i).map V.int)) → Q (.ref p) H'
theorem ok_spans {f : Addr} {fd : FuncData} {k : Nat} (F : Fun K "spans" "spans" sSpans f fd) (mZ : mg "zip" = none) : FnOk P w K mg base CX0 (k + 1) f fd ["n", "places", "i"] (spSpans K) := by
  refine F.ok scSpans (fun vs H Q E h => ?_) (fun cdv A outer s H vs Q E hr h => ?_)
  · obtain ⟨n, i, a, ns, rfl, _⟩ := h
    rfl
  · obtain ⟨n, i, a, ns, rfl, hS, hl, hn, hi, q⟩ := h
    refine ⟨_, pss_cons (ps_set (i := 3) scSpans.nd rfl (Or.inl rfl) (pe_op op_cat (pe_slice sl_list (pv 1) (po_some (pv 2)) po_none) (pe_slice sl_list (pv 1) po_none (po_some (pv 2)))))
      (pss_one (ps_ret (pe_lc (own := [("start", 4), ("end", 5)]) (g := gTup K 2 (gCons (gName 4) (gCons (gName 5) gNil))) (tt := tYes) rfl scSpans.nd
        (pi_zip rfl mZ (pa_cons (pv 1) (pa_cons (pv 3) pa_nil)))
        (blkOk_by (N := ["n", "places", "i", "behind", "start", "end"]) (sc := defScope sSpans) (by decide +kernel))
        (fun _ _ _ _ _ => pg_tup rfl (pgs_cons (pg_name (i := 4) scSpans.nd rfl (Or.inl rfl)) (pgs_cons (pg_name (i := 5) scSpans.nd rfl (Or.inl rfl)) pgs_nil))) (fun _ _ _ _ _ => pts_nil)
        (fun _ _ _ _ _ => pe_op op_mod (pe_op op_sub (pv 5) (pv 4)) (pv 0))))), ?_⟩
    -- behind = places[i:] + places[:i]
    refine ⟨.ref a, rfl, .int (i : Int), rfl, (i : Int), rfl, a, _, rfl, hS, fun p hp => ?_⟩
    rw [cutFrom ns i hi]
    have s1 : Same H (upd H p (.lst ((ns.drop i).map V.int))) := sameNew hp
    refine ⟨.ref a, rfl, .int (i : Int), rfl, (i : Int), rfl, a, _, rfl, s1.seq hS, fun r hr2 => ?_⟩
    rw [cutTo ns i hi]
    have s2 := s1.trans (sameNew (o := .lst ((ns.take i).map V.int)) hr2)
    refine ⟨p, r, _, _, rfl, rfl, (by rw [upd_ne (ne_of_none upd_same hr2)]; exact upd_same), upd_same, ?_, fun b hb => ?_⟩
    · rw [List.length_map, List.length_map, List.length_drop, List.length_take]
      exact Nat.le_of_lt (small1000 (by omega))
    have s3 := s2.trans (sameNew (o := .lst ((ns.drop i).map V.int ++ (ns.take i).map V.int)) hb)
    have eB : (ns.drop i).map V.int ++ (ns.take i).map V.int = (behL ns i).map V.int := by
      unfold behL
      rw [List.map_append]
    rw [eB] at s3
    rw [eB]
    refine ⟨.ref a, rfl, .ref b, rfl, a, b, _, _, rfl, s3.seq hS, SqL.of upd_same, lcZ (xs := ns.map V.int) (ys := (behL ns i).map V.int) (fun j => .int (spanI n ns i j)) (s3.seq hS) (SqL.of upd_same) ?_ (fun _ _ => rfl) (fun j x y H2 hx hy s4 Q' hq => ?_) (fun D H2 hD s4 eD => ?_)⟩
    · rw [List.length_map]
      omega
    · obtain ⟨rfl, hj⟩ := intAt hx
      obtain ⟨rfl, hj2⟩ := intAt hy
      exact ⟨_, rfl, _, rfl, _, _, rfl, rfl, .int n, rfl, _, n, rfl, rfl, by omega, hq _ (Same.refl _)⟩
    · rw [List.length_map, List.length_map, behL_len ns i hi, Nat.min_self] at eD
      refine q H2 D (s3.trans s4) (s3.free hD) ?_
      rw [eD]
      unfold spansL
      rw [List.map_map]
      rfl
end
end Cn

namespace Cn
open PySem PySem.Spec PyProof.Rows L2
section
variable {P : Program} {w : World} {K : PySem.W.Frag} {mg : Str → Option Value} {base : Heap}
/-! ### is_level -/
theorem inVLev (n : Int) (ns : List Int) (i : Nat) (s : Int) : inV (.int s) [.int (downI n ns i), .int (upI n ns i)] = isLev n ns i s := by
  show ((downI n ns i == s) || ((upI n ns i == s) || false)) = _
  unfold isLev
  rw [Bool.or_false, Bool.eq_iff_iff, Bool.or_eq_true, Bool.or_eq_true, beq_iff_eq, beq_iff_eq, decide_eq_true_iff, decide_eq_true_iff]
  constructor <;> (intro h; omega)
def spLev (K : PySem.W.Frag) : Sp := fun vs H Q _ => ∃ (n : Int) (i : Nat) (a : Addr) (ns : List Int), vs = [.int n, .ref a, .int (i : Int)] ∧ SqL K H a (ns.map V.int) ∧ ns.length ≤ 1000 ∧ 1 ≤ n ∧ n ≤ 1000 ∧ i ≤ ns.length ∧ 0 < ns.length ∧
  ∀ H', Same H H' → Q (.bl (levB n ns i)) H'
theorem ok_lev {f f1 : Addr} {fd fd1 : FuncData} (F : Fun K "is_level" "is_level" sLev f fd)
    (FS : Fun K "spans" "spans" sSpans f1 fd1) (bS : Binds K fd1 ["n", "places", "i"] []) (gS : mg "spans" = some (.ref f1))
    (mA : mg "all" = none) (mL : mg "len" = none) (mZ : mg "zip" = none) : FnOk P w K mg base CX0 2 f fd ["n", "places", "i"] (spLev K) := by
  have GS : FnOk P w K mg base CX0 1 f1 fd1 ["n", "places", "i"] (spSpans K) := ok_spans FS mZ
  refine F.ok scLev (fun vs H Q E h => ?_) (fun cdv A outer s H vs Q E hr h => ?_)
  · obtain ⟨n, i, a, ns, rfl, _⟩ := h
    rfl
  · obtain ⟨n, i, a, ns, rfl, hS, hl, hn, hn2, hi, hp, q⟩ := h
    refine ⟨_, pss_cons (ps_set (i := 3) scLev.nd rfl (Or.inl rfl) (pe_callB call_len_seq (by rfl) mL PySem.boot_len (pa_cons (pv 1) pa_nil)))
      (pss_cons (ps_set (i := 4) scLev.nd rfl (Or.inr rfl) (pe_op op_fdiv (pe_op op_mul (pv 0) (pv 2)) (pv 3)))
      (pss_cons (ps_set (i := 5) scLev.nd rfl (Or.inr rfl) (pe_op op_fdiv (pe_op op_sub (pe_op op_add (pe_op op_mul (pv 0) (pv 2)) (pv 3)) pe_int) (pv 3)))
      (pss_one (ps_ret (pe_callB (cr_all rfl) (by rfl) mA (by decide +kernel) (pa_cons
        (pe_lc (own := [("span", 6)]) (g := gName 6) (tt := tYes) rfl scLev.nd (pi_list (pe_call GS hr (by rfl) gS FS.kp bS .nil pass0 (pa_cons (pv 0) (pa_cons (pv 1) (pa_cons (pv 2) pa_nil)))))
          (blkOk_by (N := ["n", "places", "i", "size", "rounded_down", "rounded_up", "span"]) (sc := defScope sLev) (by decide +kernel))
          (fun _ _ _ _ _ => pg_name (i := 6) scLev.nd rfl (Or.inl rfl)) (fun _ _ _ _ _ => pts_nil)
          (fun _ _ _ _ _ => pe_cmpR (show OpR _ _ (rIn K false) from op_in_seq) (pv 6) (pe_tup (pa_cons (pv 4) (pa_cons (pv 5) pa_nil))) (by rfl))) pa_nil)))))), ?_⟩
    have e1 : ((((ns.map V.int).length : Nat)) : Int) = (ns.length : Int) := by rw [List.length_map]
    have bm : -(2 ^ 64) < n ∧ n < 2 ^ 64 := ⟨by omega, by omega⟩
    have bd : 0 < (ns.length : Int) ∧ (ns.length : Int) < 1073741824 := ⟨by omega, by omega⟩
    refine ⟨.ref a, rfl, a, _, rfl, .inl hS, ?_⟩
    rw [e1]
    refine ⟨.int n, rfl, .int (i : Int), rfl, n, _, rfl, rfl, .inl bm, .int (ns.length : Int), rfl, _, (ns.length : Int), rfl, rfl, bd, ?_⟩
    refine ⟨.int n, rfl, .int (i : Int), rfl, n, _, rfl, rfl, .inl bm, .int (ns.length : Int), rfl, _, (ns.length : Int), rfl, rfl, _, 1, rfl, rfl, .int (ns.length : Int), rfl, _, (ns.length : Int), rfl, rfl, bd, ?_⟩
    refine ⟨.int n, rfl, .ref a, rfl, .int (i : Int), rfl, n, i, a, ns, rfl, hS, hl, hn, hi, fun H1 p s1 np ep => ?_⟩
    refine ⟨p, rfl, ⟨_, SqL.of ep⟩, lcL (xs := (spansL n ns i).map V.int) (fun j => .bl (isLev n ns i ((spansL n ns i).getD j 0))) (SqL.of ep) ?_ (fun _ => rfl) (fun j x H2 hx s2 Q' hq => ?_) (fun D H2 hD s2 eD => ?_)⟩
    · rw [List.length_map]
      unfold spansL
      rw [List.length_map, List.length_range]
      exact hl
    · obtain ⟨rfl, hj⟩ := intAt hx
      refine ⟨_, rfl, .int (downI n ns i), rfl, .int (upI n ns i), rfl, (by show 2 ≤ sizeLine; decide), fun t ht => ⟨t, _, rfl, .inr (SqT.of upd_same), rfl, rfl, ?_⟩⟩
      have := hq _ (sameNew (o := .tup [.int (downI n ns i), .int (upI n ns i)]) ht)
      rw [← inVLev] at this
      exact this
    · rw [List.length_map] at eD
      have e : (List.range (spansL n ns i).length).map (fun j => V.bl (isLev n ns i ((spansL n ns i).getD j 0))) = ((spansL n ns i).map (isLev n ns i)).map V.bl := by
        rw [rangeGet (spansL n ns i) (fun x => V.bl (isLev n ns i x)) 0, List.map_map]
        rfl
      rw [e] at eD
      exact ⟨D, _, rfl, SqL.of eD, q _ (s1.trans s2)⟩
end
end Cn

namespace Cn
open PySem PySem.Spec PyProof.Rows L2
section
variable {P : Program} {w : World} {K : PySem.W.Frag} {mg : Str → Option Value} {base : Heap}
/-! ### spread -/
def spSpread (K : PySem.W.Frag) : Sp := fun vs H Q _ => ∃ (n : Int) (a : Addr) (ns : List Int), vs = [.int n, .ref a] ∧ SqL K H a (ns.map V.int) ∧ ns.length ≤ 1000 ∧
  ∀ H' p, H' p = some (.lst ((spreadM n ns).map V.int)) → Q (.ref p) H'
theorem ok_spread {f f1 f2 f3 f4 : Addr} {fd fd1 fd2 fd3 fd4 : FuncData} {t1 t2 t3 : Tok} (F : Fun K "spread" "spread" sSpread f fd)
    (FC : Fun K "is_circle" "is_circle" sCirc f1 fd1) (bC : Binds K fd1 ["n"] []) (gC : mg "is_circle" = some (.ref f1))
    (FL : Fun K "lies_on" "lies_on" sLies f2 fd2) (bL : Binds K fd2 ["n", "places"] []) (gL : mg "lies_on" = some (.ref f2))
    (FV : Fun K "is_level" "is_level" sLev f3 fd3) (bV : Binds K fd3 ["n", "places", "i"] []) (gV : mg "is_level" = some (.ref f3))
    (FS : Fun K "spans" "spans" sSpans f4 fd4) (bS : Binds K fd4 ["n", "places", "i"] []) (gS : mg "spans" = some (.ref f4))
    (c1 : mg "MOST_PLACES" = some (.int 128 t1)) (c2 : mg "NOT_IN_RANGE" = some (.int (-2) t2)) (c3 : mg "NOT_SUCH_A_SET" = some (.int (-3) t3))
    (mA : mg "all" = none) (mL : mg "len" = none) (mR : mg "range" = none) (mZ : mg "zip" = none) : FnOk P w K mg base CX0 3 f fd ["n", "a"] (spSpread K) := by
  have GC : FnOk P w K mg base CX0 1 f1 fd1 ["n"] spCirc := ok_circ FC c1
  have GL : FnOk P w K mg base CX0 1 f2 fd2 ["n", "places"] (spLies K) := ok_lies FL mA
  have GV : FnOk P w K mg base CX0 2 f3 fd3 ["n", "places", "i"] (spLev K) := ok_lev FV FS bS gS mA mL mZ
  refine F.ok scSpread (fun vs H Q E h => ?_) (fun cdv A outer s H vs Q E hr h => ?_)
  · obtain ⟨n, a, ns, rfl, _⟩ := h
    rfl
  · obtain ⟨n, a, ns, rfl, hS, hl, q⟩ := h
    refine ⟨_, pss_cons (ps_if (pt_not (pt_val (pe_call GC (hr.mono (by decide)) (by rfl) gC FC.kp bC .nil pass0 (pa_cons (pv 0) pa_nil)))) (pss_one (ps_ret (pe_lst (pa_cons (pe_glob (v := .int (-2)) rfl c2 ⟨_, rfl⟩) pa_nil)))) pss_nil)
      (pss_cons (ps_if (PW.pt (pw_or (pt_cmpR op_eq (pe_callB call_len_seq (by rfl) mL PySem.boot_len (pa_cons (pv 1) pa_nil)) pe_int (nomark _))
          (pw_or1 (pt_not (pt_val (pe_call GL (hr.mono (by decide)) (by rfl) gL FL.kp bL .nil pass0 (pa_cons (pv 0) (pa_cons (pv 1) pa_nil))))))))
        (pss_one (ps_ret (pe_lst (pa_cons (pe_glob (v := .int (-3)) rfl c3 ⟨_, rfl⟩) pa_nil)))) pss_nil)
      (pss_cons (ps_if (pt_val (pe_callB (cr_all rfl) (by rfl) mA (by decide +kernel) (pa_cons
        (pe_lc (own := [("i", 2)]) (g := gName 2) (tt := tYes) rfl scSpread.nd (pi_range2 rfl mR (pa_cons pe_int (pa_cons (pe_callB call_len_seq (by rfl) mL PySem.boot_len (pa_cons (pv 1) pa_nil)) pa_nil)))
          (blkOk_by (N := ["n", "a", "i"]) (sc := defScope sSpread) (by decide +kernel))
          (fun _ _ _ _ _ => pg_name (i := 2) scSpread.nd rfl (Or.inl rfl)) (fun _ _ _ _ _ => pts_nil)
          (fun _ _ _ _ _ => pe_call GV hr (by rfl) gV FV.kp bV .nil pass0 (pa_cons (pv 0) (pa_cons (pv 1) (pa_cons (pv 2) pa_nil))))) pa_nil)))
        (pss_one (ps_ret (pe_lst (pa_cons pe_int pa_nil)))) pss_nil)
      (pss_one (ps_ret (pe_lst (pa_cons pe_int pa_nil)))))), ?_⟩
    have e1 : ((((ns.map V.int).length : Nat)) : Int) = (ns.length : Int) := by rw [List.length_map]
    refine ⟨.int n, rfl, n, rfl, circ n, rfl, ?_⟩
    unfold spreadM at q
    cases c : circ n with
    | false =>
      rw [c] at q
      exact iteT ⟨(by show 1 ≤ sizeLine; decide), fun p hp => q _ p upd_same⟩
    | true =>
      rw [c] at q
      refine iteF ?_
      have hn : 1 ≤ n ∧ n ≤ 128 := by
        unfold circ at c
        rw [Bool.and_eq_true] at c
        exact ⟨of_decide_eq_true c.1, of_decide_eq_true c.2⟩
      refine ⟨.ref a, rfl, a, _, rfl, .inl hS, rfl, _, rfl, ?_⟩
      rw [e1]
      refine ite2 (fun e => ?_) (fun e => ?_)
      · have ez : ns.length = 0 := by
          have := V.int.inj (of_decide_eq_true e)
          omega
        rw [decide_eq_true ez] at q
        exact iteT ⟨(by show 1 ≤ sizeLine; decide), fun p hp => q _ p upd_same⟩
      · have ez : ¬ ns.length = 0 := fun z => e (by rw [z]; rfl)
        rw [decide_eq_false ez] at q
        refine ⟨.int n, rfl, .ref a, rfl, n, a, ns, rfl, hS, hl, fun H1 s1 => ⟨liesOn n ns, rfl, ?_⟩⟩
        cases l : liesOn n ns with
        | false =>
          rw [l] at q
          exact iteT ⟨(by show 1 ≤ sizeLine; decide), fun p hp => q _ p upd_same⟩
        | true =>
          rw [l] at q
          refine iteF ?_
          have en : ((((ns.map V.int).length : Nat) : Int) - 1).toNat = ns.length - 1 := by
            rw [e1]
            omega
          refine ⟨.ref a, rfl, a, _, rfl, .inl (s1.seq hS), 1, _, rfl, ⟨by omega, by omega, by omega, by omega⟩, lcR (n := ((((ns.map V.int).length : Nat) : Int) - 1).toNat) (lo := 1) (fun i => .bl (levB n ns (1 + i))) (by omega) (fun _ => rfl) (fun i H2 hi s2 Q' hq => ?_) (fun D H2 hD s2 eD => ?_)⟩
          · refine ⟨.int n, rfl, .ref a, rfl, .int (1 + (i : Int)), rfl, n, 1 + i, a, ns, ?_, (s1.trans s2).seq hS, hl, hn.1, by omega, by omega, by omega, fun H3 s3 => hq H3 s3⟩
            rw [Int.natCast_add]
            rfl
          · have e2 : (List.range (ns.length - 1)).map (fun i => V.bl (levB n ns (1 + i))) = ((List.range (ns.length - 1)).map fun i => levB n ns (1 + i)).map V.bl := by
              rw [List.map_map]
              rfl
            rw [en, e2] at eD
            refine ⟨D, _, rfl, SqL.of eD, spreadB n ns, rfl, ?_⟩
            cases b : spreadB n ns with
            | true =>
              rw [b] at q
              exact iteT ⟨(by show 1 ≤ sizeLine; decide), fun p hp => q _ p upd_same⟩
            | false =>
              rw [b] at q
              exact iteF ⟨(by show 1 ≤ sizeLine; decide), fun p hp => q _ p upd_same⟩
end
end Cn

namespace Cn
open PySem PySem.Spec PyProof.Rows L2
/-! ### what the top has written -/
theorem all_mk {P : Program} {w : World} {K : PySem.W.Frag} {h : Heap} {mg : Str → Option Value} {fa f1 f2 f3 f4 f5 : Addr} (X : K.In h) (G : h.Ns mainGlobals mg) (hfa : mg "spread" = some (.ref fa))
    {od1 an1 od2 an2 od3 an3 od4 an4 od5 an5 : Option Addr} {sl1 sl2 sl3 sl4 sl5 : Array (Option Value)} {oc1 kV1 dc1 pm1 cd1 ct1 oc2 kV2 dc2 pm2 cd2 ct2 oc3 kV3 dc3 pm3 cd3 ct3 oc4 kV4 dc4 pm4 cd4 ct4 oc5 kV5 dc5 pm5 cd5 ct5 : Value} {t1 t2 t3 : Tok}
    (a1 : PySem.W.nsIn K mainGlobals "spread" = some (some (.ref f1)))
    (l1 : K.lookup f1 = some ⟨oc1, od1, .func (PySem.W.fnOf "spread" "spread" (defArgs sSpread) (defBody sSpread) (defScope sSpread) .none kV1 dc1 pm1 an1 cd1 ct1), sl1⟩)
    (c1 : PySem.W.codeIn K cd1 "spread" = true) (k1 : PySem.W.keepIn K (.ref f1) = true)
    (a2 : PySem.W.nsIn K mainGlobals "is_circle" = some (some (.ref f2)))
    (l2 : K.lookup f2 = some ⟨oc2, od2, .func (PySem.W.fnOf "is_circle" "is_circle" (defArgs sCirc) (defBody sCirc) (defScope sCirc) .none kV2 dc2 pm2 an2 cd2 ct2), sl2⟩)
    (c2 : PySem.W.codeIn K cd2 "is_circle" = true) (k2 : PySem.W.keepIn K (.ref f2) = true)
    (a3 : PySem.W.nsIn K mainGlobals "lies_on" = some (some (.ref f3)))
    (l3 : K.lookup f3 = some ⟨oc3, od3, .func (PySem.W.fnOf "lies_on" "lies_on" (defArgs sLies) (defBody sLies) (defScope sLies) .none kV3 dc3 pm3 an3 cd3 ct3), sl3⟩)
    (c3 : PySem.W.codeIn K cd3 "lies_on" = true) (k3 : PySem.W.keepIn K (.ref f3) = true)
    (a4 : PySem.W.nsIn K mainGlobals "is_level" = some (some (.ref f4)))
    (l4 : K.lookup f4 = some ⟨oc4, od4, .func (PySem.W.fnOf "is_level" "is_level" (defArgs sLev) (defBody sLev) (defScope sLev) .none kV4 dc4 pm4 an4 cd4 ct4), sl4⟩)
    (c4 : PySem.W.codeIn K cd4 "is_level" = true) (k4 : PySem.W.keepIn K (.ref f4) = true)
    (a5 : PySem.W.nsIn K mainGlobals "spans" = some (some (.ref f5)))
    (l5 : K.lookup f5 = some ⟨oc5, od5, .func (PySem.W.fnOf "spans" "spans" (defArgs sSpans) (defBody sSpans) (defScope sSpans) .none kV5 dc5 pm5 an5 cd5 ct5), sl5⟩)
    (c5 : PySem.W.codeIn K cd5 "spans" = true) (k5 : PySem.W.keepIn K (.ref f5) = true)
    (n1 : PySem.W.nsIn K mainGlobals "MOST_PLACES" = some (some (.int 128 t1)))
    (n2 : PySem.W.nsIn K mainGlobals "NOT_IN_RANGE" = some (some (.int (-2) t2)))
    (n3 : PySem.W.nsIn K mainGlobals "NOT_SUCH_A_SET" = some (some (.int (-3) t3)))
    (z1 : PySem.W.nsIn K mainGlobals "all" = some none)
    (z2 : PySem.W.nsIn K mainGlobals "len" = some none)
    (z3 : PySem.W.nsIn K mainGlobals "range" = some none)
    (z4 : PySem.W.nsIn K mainGlobals "zip" = some none)
    : ∃ fd : FuncData,
      (∀ (s : Shared) (us : List Value), us.length = (["n", "a"] : List Str).length → BindsTo s fd ⟨us, []⟩ ((["n", "a"] : List Str).zip us)) ∧
      ∀ base : Heap, K.In base → base.Ns mainGlobals mg → FnOk P w K mg base CX0 3 fa fd ["n", "a"] (spSpread K) := by
  have e := hfa.symm.trans (PySem.W.mg_of X G a1)
  cases e
  have F1 := fun_mk (st := sSpread) l1 c1 k1
  have F2 := fun_mk (st := sCirc) l2 c2 k2
  have b2 := F2.binds (ps := ["n"]) fun _ _ _ _ _ _ us hl => match us, hl with | [_], _ => rfl
  have F3 := fun_mk (st := sLies) l3 c3 k3
  have b3 := F3.binds (ps := ["n", "places"]) fun _ _ _ _ _ _ us hl => match us, hl with | [_, _], _ => rfl
  have F4 := fun_mk (st := sLev) l4 c4 k4
  have b4 := F4.binds (ps := ["n", "places", "i"]) fun _ _ _ _ _ _ us hl => match us, hl with | [_, _, _], _ => rfl
  have F5 := fun_mk (st := sSpans) l5 c5 k5
  have b5 := F5.binds (ps := ["n", "places", "i"]) fun _ _ _ _ _ _ us hl => match us, hl with | [_, _, _], _ => rfl
  exact ⟨PySem.W.fnOf "spread" "spread" (defArgs sSpread) (defBody sSpread) (defScope sSpread) .none kV1 dc1 pm1 an1 cd1 ct1,
    fun s us hu => match us, hu with | [_, _], _ => .of_eq rfl,
    fun base _ _ => ok_spread F1 F2 b2 (PySem.W.mg_of X G a2) F3 b3 (PySem.W.mg_of X G a3) F4 b4 (PySem.W.mg_of X G a4) F5 b5 (PySem.W.mg_of X G a5) (PySem.W.mg_of X G n1) (PySem.W.mg_of X G n2) (PySem.W.mg_of X G n3) (PySem.W.mg_none_of X G z1) (PySem.W.mg_none_of X G z2) (PySem.W.mg_none_of X G z3) (PySem.W.mg_none_of X G z4)⟩
end Cn
open PySem PySem.W PyProof.Rows
set_option maxRecDepth 100000 in
set_option maxHeartbeats 0 in
theorem PySem.Challenge.cw_circlenotes_s05_spread_holds : PySem.Challenge.rw_circlenotes_s05_spread.Holds := by
  w_on; k_headS; (case hw => exact ⟨[.int 0, .list []], by decide +kernel, by decide +kernel⟩)
  k_fillS
  refine L2.walk_specK (r := PySem.Challenge.rw_circlenotes_s05_spread) (k := 3) (CX := L2.CX0) (ps := ["n", "a"]) (sp := Cn.spSpread) (by decide +kernel) rfl rfl ⟨rfl, by decide, by decide⟩ (fun w h Y => PySem.W.kIn_of Y) ?F ?S (fun _ _ _ _ z => z)
  case F =>
    intro w mg fa h Y KX G hmg
    refine' Cn.all_mk KX G hmg ?a1 ?l1 ?c1 ?k1 ?a2 ?l2 ?c2 ?k2 ?a3 ?l3 ?c3 ?k3 ?a4 ?l4 ?c4 ?k4 ?a5 ?l5 ?c5 ?k5 ?n1 ?n2 ?n3 ?z1 ?z2 ?z3 ?z4
    (case a1 => k_is); (case l1 => k_is); (case c1 => k_is); (case k1 => k_is)
    (case a2 => k_is); (case l2 => k_is); (case c2 => k_is); (case k2 => k_is)
    (case a3 => k_is); (case l3 => k_is); (case c3 => k_is); (case k3 => k_is)
    (case a4 => k_is); (case l4 => k_is); (case c4 => k_is); (case k4 => k_is)
    (case a5 => k_is); (case l5 => k_is); (case c5 => k_is); (case k5 => k_is)
    (case n1 => k_is); (case n2 => k_is); (case n3 => k_is); (case z1 => k_is)
    (case z2 => k_is); (case z3 => k_is); (case z4 => k_is)
  case S =>
    intro K H xs a hO hwi hask hx
    obtain ⟨n, ns, u⟩ := a
    cases hx with
    | cons h1 h2 =>
      cases h2 with
      | cons h3 h4 =>
        cases h4
        cases h1
        cases h3 with
        | lst hs ha =>
          have e := L2.ints_dw ns _ ha
          subst e
          have q : (Codec.inInt 0 4294967295 n && ((Codec.inLen 0 128 ns && ns.all (Codec.inInt 0 127)) && true)) = true := hwi
          rw [Bool.and_eq_true, Bool.and_eq_true, Bool.and_eq_true] at q
          have b0 := (Codec.inInt_iff.mp q.1).1
          have bl := (Codec.inNat_iff.mp q.2.1.1).2
          have bx : ∀ x ∈ ns, 0 ≤ x := fun x hx => (Codec.inInt_iff.mp (List.all_eq_true.mp q.2.1.2 x hx)).1
          refine ⟨n, _, ns, rfl, hs, by omega, fun H' p hp => ?_⟩
          rw [Cn.spreadM_spec b0 bx] at hp
          exact .lst (L2.SqL.of hp) (L2.dw_ints _)
#print axioms PySem.Challenge.cw_circlenotes_s05_spread_holds
