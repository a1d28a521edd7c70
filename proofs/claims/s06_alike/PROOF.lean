import PyProof.Rows.All
import Wide.All
import OpenK.AllK
import Wide.FinOn
import Open.SpecLaws
import KE.OsHead
import KE.OsGo
import HandS.ForSpec
import HandS.Comp
import HandS.Deep
import HandS.SortInts
import PySem.Challenge.RW_circlenotes_s06_alike
set_option Elab.async false
set_option linter.all false
set_option maxRecDepth 100000
/-! Helpers over the hand layer: heaps that only grow, comprehensions that only make. -/
namespace Cn
open PySem PySem.Spec PyProof.Rows L2
/-! ### heaps -/
theorem sameUp {H H4 : Hp} {p : Addr} {o : HO} (s : Same H H4) (h : H p = none) : Same H (upd H4 p o) := fun b x e => by
  rw [upd_ne (ne_of_none e h)]
  exact s b x e
theorem sameNew {H : Hp} {p : Addr} {o : HO} (h : H p = none) : Same H (upd H p o) := sameUp (Same.refl H) h
/-! ### comprehensions that only make -/
theorem mapRangeSucc {A : Type} (f : Nat → A) (i : Nat) : (List.range i).map f ++ [f i] = (List.range (i + 1)).map f := by
  rw [List.range_succ, List.map_append]
  rfl
/-- what a comprehension over J asks, its list at D -/
def LcGoal (J : It) (j : Nat) (te : TE) (vs : List Nat) (s0 : L2.St) (H1 : Hp) (Qd : Addr → Hp → Prop) : Prop :=
  ∀ D, H1 D = none →
    ∃ W : Nat → Nat → Hp → Prop,
      (∃ m, W 0 m (upd H1 D (.lst []))) ∧
      ∀ i m H, W i m H →
        (J.stop i H ∧ Qd D H) ∨
        (J.go i H ∧
          ∃ Nx : Hp → Prop,
            (∀ H', Nx H' → ∃ m', m' < m ∧ W (i + 1) m' H') ∧
            ∀ x H', J.yld i H x H' →
              gName j x (wipe s0 vs) H' fun s2 H2 =>
                wipe s2 vs = wipe s0 vs ∧
                tYes s2 H2 fun b H3 =>
                  if b = true then
                    te s2 H3 fun y H4 => ∃ acc, H4 D = some (.lst acc) ∧ acc.length < sizeLine ∧ Nx (upd H4 D (.lst (acc ++ [y])))
                  else Nx H3)
theorem lcL {K : PySem.W.Frag} {a : Addr} {xs : List V} {j : Nat} {te : TE} {vs : List Nat} {s0 : L2.St} {H1 : Hp} {Qd : Addr → Hp → Prop} (f : Nat → V)
    (hS : SqL K H1 a xs) (hl : xs.length ≤ 1000) (hw : ∀ x, wipe ((wipe s0 vs).set j (some x)) vs = wipe s0 vs)
    (hs : ∀ i x H, xs[i]? = some x → Same H1 H → ∀ Q' : V → Hp → Prop, (∀ H4, Same H H4 → Q' (f i) H4) → te ((wipe s0 vs).set j (some x)) H Q')
    (hd : ∀ D H, H1 D = none → Same H1 H → H D = some (.lst ((List.range xs.length).map f)) → Qd D H) :
    LcGoal (Itl K a) j te vs s0 H1 Qd := fun D hD =>
  lc_list (K := K) (a := a) (xs := xs) (fun i H => Same H1 H ∧ H D = some (.lst ((List.range i).map f)))
    ⟨sameNew hD, upd_same⟩ (fun i H _ q => q.1.seq hS)
    (fun i x H hx q => ⟨hw x, (hs i x H hx q.1 _ fun H4 s4 => ⟨_, s4 _ _ q.2, by
      rw [List.length_map, List.length_range]
      have h : i < xs.length := by
        rcases Nat.lt_or_ge i xs.length with h | h
        · exact h
        · rw [List.getElem?_eq_none h] at hx
          cases hx
      exact small1000 (by omega), sameUp (q.1.trans s4) hD, by rw [upd_same, mapRangeSucc]⟩)⟩)
    (fun H q => hd D H hD q.1 q.2)
theorem lcR {n : Nat} {lo : Int} {j : Nat} {te : TE} {vs : List Nat} {s0 : L2.St} {H1 : Hp} {Qd : Addr → Hp → Prop} (f : Nat → V)
    (hl : n ≤ 1000) (hw : ∀ x, wipe ((wipe s0 vs).set j (some x)) vs = wipe s0 vs)
    (hs : ∀ (i : Nat) H, i < n → Same H1 H → ∀ Q' : V → Hp → Prop, (∀ H4, Same H H4 → Q' (f i) H4) → te ((wipe s0 vs).set j (some (.int (lo + i)))) H Q')
    (hd : ∀ D H, H1 D = none → Same H1 H → H D = some (.lst ((List.range n).map f)) → Qd D H) :
    LcGoal (Itr lo n) j te vs s0 H1 Qd := fun D hD =>
  lc_range (lo := lo) (n := n) (fun i H => Same H1 H ∧ H D = some (.lst ((List.range i).map f)))
    ⟨sameNew hD, upd_same⟩
    (fun i H hi q => ⟨hw _, (hs i H hi q.1 _ fun H4 s4 => ⟨_, s4 _ _ q.2, by
      rw [List.length_map, List.length_range]
      exact small1000 (by omega), sameUp (q.1.trans s4) hD, by rw [upd_same, mapRangeSucc]⟩)⟩)
    (fun H q => hd D H hD q.1 q.2)
/-- a comprehension over a range whose items are new lists of whole numbers -/
theorem lcRr {n : Nat} {lo : Int} {j : Nat} {te : TE} {vs : List Nat} {s0 : L2.St} {H1 : Hp} {Qd : Addr → Hp → Prop} (L : Nat → List Int)
    (hl : n ≤ 1000) (hw : ∀ x, wipe ((wipe s0 vs).set j (some x)) vs = wipe s0 vs)
    (hs : ∀ (i : Nat) H, i < n → Same H1 H → ∀ Q' : V → Hp → Prop, (∀ H4 q, Same H H4 → H q = none → H4 q = some (.lst ((L i).map V.int)) → Q' (.ref q) H4) → te ((wipe s0 vs).set j (some (.int (lo + i)))) H Q')
    (hd : ∀ D H (ps : List Addr), H1 D = none → Same H1 H → H D = some (.lst (ps.map V.ref)) → ps.length = n → (∀ i q, ps[i]? = some q → H q = some (.lst ((L i).map V.int))) → Qd D H) :
    LcGoal (Itr lo n) j te vs s0 H1 Qd := fun D hD =>
  lc_range (lo := lo) (n := n) (fun i H => ∃ ps : List Addr, Same H1 H ∧ H D = some (.lst (ps.map V.ref)) ∧ ps.length = i ∧ ∀ k q, ps[k]? = some q → q ≠ D ∧ H q = some (.lst ((L k).map V.int)))
    ⟨[], sameNew hD, upd_same, rfl, fun k q e => by simp at e⟩
    (fun i H hi ⟨ps, sm, eD, el, ep⟩ => ⟨hw _, (hs i H hi sm _ fun H4 q s4 hq eq => ⟨_, s4 _ _ eD, by
      rw [List.length_map, el]
      exact small1000 (by omega), ps ++ [q], sameUp (sm.trans s4) hD, by rw [upd_same, List.map_append]; rfl, by rw [List.length_append, el]; rfl, fun k p e => by
        have nD : q ≠ D := fun z => by
          rw [z, eD] at hq
          cases hq
        rcases Nat.lt_or_ge k ps.length with h | h
        · rw [List.getElem?_append_left h] at e
          obtain ⟨n1, n2⟩ := ep k p e
          exact ⟨n1, by rw [upd_ne n1]; exact s4 _ _ n2⟩
        · rw [List.getElem?_append_right h] at e
          have hk : k = ps.length := by
            have := (List.getElem?_eq_some_iff.mp e).1
            simp at this
            omega
          subst hk
          rw [Nat.sub_self] at e
          obtain rfl : q = p := Option.some.inj e
          exact ⟨nD, by rw [upd_ne nD, el]; exact eq⟩⟩)⟩)
    (fun H ⟨ps, sm, eD, el, ep⟩ => hd D H ps hD sm eD el fun i q e => (ep i q e).2)
/-- len of a list, its frame named -/
def rLenS (K : PySem.W.Frag) : List V → Hp → (V → Hp → Prop) → Prop := fun xs H Q =>
  ∃ p ys, xs = [.ref p] ∧
    (SqL K H p ys ∨ SqT K H p ys) ∧ Q (.int ys.length) H
theorem rangeGet {A B : Type} (xs : List A) (g : A → B) (d : A) : (List.range xs.length).map (fun i => g (xs.getD i d)) = xs.map g := by
  apply List.ext_getElem
  · simp
  · intro i h1 h2
    simp at h1 h2
    simp [h1]
theorem getDof {A : Type} {xs : List A} {i : Nat} {x d : A} (h : xs[i]? = some x) : xs.getD i d = x := by
  rw [List.getD_eq_getElem?_getD, h]
  rfl
theorem atGet {A : Type} {xs : List A} {i : Nat} {d : A} (h : i < xs.length) : xs[i]? = some (xs.getD i d) := by
  rw [List.getD_eq_getElem?_getD, List.getElem?_eq_getElem h]
  rfl
theorem intAt {ns : List Int} {i : Nat} {x : V} (h : (ns.map V.int)[i]? = some x) : x = .int (ns.getD i 0) ∧ i < ns.length := by
  rw [List.getElem?_map] at h
  cases e : ns[i]? with
  | none =>
    rw [e] at h
    cases h
  | some z =>
    rw [e] at h
    refine ⟨?_, (List.getElem?_eq_some_iff.mp e).1⟩
    rw [getDof e]
    exact (Option.some.inj h).symm
end Cn

set_option linter.all false
namespace Cn
/-! ### the mathematics of gaps -/
def circ (n : Int) : Bool := decide (1 ≤ n) && decide (n ≤ 128)
def liesOn (n : Int) (ns : List Int) : Bool := (ns.map fun x => decide (x < n)).all id
def marksL (n : Nat) (ns : List Int) : List Int := (List.range n).map fun (i : Nat) => if (i : Int) ∈ ns then (1 : Int) else 0
def gapI (n : Int) (ns : List Int) (d : Nat) : Int := (ns.map fun x => (marksL n.toNat ns).getD ((x + d) % n).toNat 0).sum
def gapsL (n : Int) (ns : List Int) : List Int := (List.range n.toNat).map (gapI n ns)
def gapsM (n : Int) (ns : List Int) : List Int := if circ n = false then [-2] else if liesOn n ns = false then [-3] else (ns.length : Int) :: gapsL n ns
theorem marks_len (n : Nat) (ns : List Int) : (marksL n ns).length = n := by simp [marksL]
theorem marks_nil (n : Nat) : marksL n [] = List.replicate n 0 := by
  apply List.ext_getElem
  · simp [marksL]
  · intro i h1 h2
    simp [marksL]
theorem marks_snoc (n : Nat) (ns : List Int) (x : Int) (h0 : 0 ≤ x) : (marksL n ns).set x.toNat 1 = marksL n (ns ++ [x]) := by
  apply List.ext_getElem
  · simp [marksL]
  · intro i h1 h2
    rw [List.getElem_set]
    simp only [marksL, List.getElem_map, List.getElem_range, List.mem_append, List.mem_singleton]
    by_cases e : x.toNat = i
    · have : (i : Int) = x := by omega
      rw [if_pos e, if_pos (.inr this)]
    · have : ¬ (i : Int) = x := by omega
      rw [if_neg e]
      simp only [this, or_false]
theorem marks_get (n : Nat) (ns : List Int) (j : Nat) (h : j < n) : (marksL n ns).getD j 0 = if (j : Int) ∈ ns then 1 else 0 := by
  rw [List.getD_eq_getElem?_getD]
  simp [marksL, h]
theorem circ_among (n : Int) (h0 : 0 ≤ n) : Sh15.among n.toNat 1 128 = circ n := by
  unfold Sh15.among circ
  congr 1
  · exact decide_eq_decide.mpr (by omega)
  · exact decide_eq_decide.mpr (by omega)
theorem lies_isIn (n : Int) (h0 : 0 ≤ n) : ∀ ns : List Int, (∀ x ∈ ns, 0 ≤ x) → Sh15.isIn n.toNat (Sh15Neutral.nats ns) = liesOn n ns
  | [], _ => rfl
  | x :: r, h => by
    have ih := lies_isIn n h0 r fun y hy => h y (List.mem_cons_of_mem _ hy)
    have hx := h x List.mem_cons_self
    show (decide (x.toNat < n.toNat) && Sh15.isIn n.toNat (Sh15Neutral.nats r)) = (decide (x < n) && liesOn n r)
    rw [ih]
    congr 1
    exact decide_eq_decide.mpr (by omega)
theorem lies_all {n : Int} {ns : List Int} (h : liesOn n ns = true) : ∀ x ∈ ns, x < n := by
  intro x hx
  unfold liesOn at h
  rw [List.all_eq_true] at h
  exact of_decide_eq_true (h _ (List.mem_map_of_mem hx))
theorem sum_ind {A : Type} (p : A → Bool) : ∀ l : List A, (l.map fun x => if p x = true then (1 : Int) else 0).sum = ((l.filter p).length : Int)
  | [] => rfl
  | x :: r => by
    rw [List.map_cons, List.sum_cons, sum_ind p r]
    cases e : p x with
    | true => rw [List.filter_cons_of_pos e]; simp; omega
    | false => rw [List.filter_cons_of_neg (by rw [e]; exact Bool.false_ne_true)]; simp
theorem mem_nats {ns : List Int} (hb : ∀ x ∈ ns, 0 ≤ x) (j : Nat) : (Sh15Neutral.nats ns).contains j = decide ((j : Int) ∈ ns) := by
  rw [Bool.eq_iff_iff, List.contains_iff_mem, decide_eq_true_iff]
  unfold Sh15Neutral.nats
  rw [List.mem_map]
  constructor
  · rintro ⟨z, hz, e⟩
    have := hb z hz
    have e2 : (j : Int) = z := by omega
    rw [e2]
    exact hz
  · intro h
    exact ⟨_, h, by simp⟩
theorem gapI_spec (n : Int) (hn : 1 ≤ n) (ns : List Int) (hb : ∀ x ∈ ns, 0 ≤ x) (d : Nat) : gapI n ns d = ((Sh15.gap n.toNat (Sh15Neutral.nats ns) d : Nat) : Int) := by
  unfold gapI Sh15.gap
  rw [← sum_ind]
  have key : ∀ l : List Int, (∀ x ∈ l, 0 ≤ x) → (l.map fun x => (marksL n.toNat ns).getD ((x + d) % n).toNat 0) = (Sh15Neutral.nats l).map fun x => if (Sh15Neutral.nats ns).contains ((x + d) % n.toNat) = true then (1 : Int) else 0 := by
    intro l hl
    unfold Sh15Neutral.nats
    rw [List.map_map]
    apply List.map_congr_left
    intro x hx
    have h0 := hl x hx
    have e : ((x + d) % n).toNat = (x.toNat + d) % n.toNat := by
      have : (x + d) % n = (((x.toNat + d) % n.toNat : Nat) : Int) := by
        rw [Int.natCast_emod]
        congr 1 <;> omega
      omega
    have hlt : (x.toNat + d) % n.toNat < n.toNat := Nat.mod_lt _ (by omega)
    rw [e, marks_get _ _ _ hlt]
    show _ = if (Sh15Neutral.nats ns).contains ((x.toNat + d) % n.toNat) = true then (1 : Int) else 0
    rw [mem_nats hb]
    simp only [decide_eq_true_iff]
  rw [key ns hb]
theorem gapsL_spec (n : Int) (hn : 1 ≤ n) (ns : List Int) (hb : ∀ x ∈ ns, 0 ≤ x) : gapsL n ns = (Sh15.gaps n.toNat (Sh15Neutral.nats ns)).map fun (x : Nat) => (x : Int) := by
  unfold gapsL Sh15.gaps
  rw [List.map_map]
  apply List.map_congr_left
  intro d _
  exact gapI_spec n hn ns hb d
theorem gapsM_spec (n : Int) (h0 : 0 ≤ n) (ns : List Int) (hb : ∀ x ∈ ns, 0 ≤ x) : gapsM n ns = PySh15.gaps n ns := by
  have e : PySh15.gaps n ns = (let a := (if Sh15.among n.toNat 1 128 = false then Sh15.ok (-2) else if Sh15.isIn n.toNat (Sh15Neutral.nats ns) = false then Sh15.ok (-3) else ⟨((Sh15Neutral.nats ns).length : Nat), (Sh15.gaps n.toNat (Sh15Neutral.nats ns)).map (fun (x : Nat) => (x : Int)), []⟩); a.v :: (a.l ++ Sh15Neutral.ints a.a)) := rfl
  rw [e, circ_among n h0, lies_isIn n h0 ns hb]
  unfold gapsM
  cases c : circ n with
  | false => rfl
  | true =>
    cases l : liesOn n ns with
    | false => rfl
    | true =>
      have hn : 1 ≤ n := by
        unfold circ at c
        rw [Bool.and_eq_true] at c
        exact of_decide_eq_true c.1
      show (ns.length : Int) :: gapsL n ns = ((Sh15Neutral.nats ns).length : Int) :: (_ ++ [])
      rw [gapsL_spec n hn ns hb, List.append_nil]
      unfold Sh15Neutral.nats
      rw [List.length_map]
      rfl
end Cn

set_option linter.all false
namespace Cn
/-! ### sets as ascending lists -/
structure Good (n : Int) (ns : List Int) : Prop where
  asc : ns.Pairwise (· < ·)
  bnd : ∀ x ∈ ns, 0 ≤ x ∧ x < n
theorem asc_ext : ∀ {l m : List Int}, l.Pairwise (· < ·) → m.Pairwise (· < ·) → (∀ x, x ∈ l ↔ x ∈ m) → l = m
  | [], [], _, _, _ => rfl
  | [], y :: m, _, _, h => absurd ((h y).mpr List.mem_cons_self) (by simp)
  | x :: l, [], _, _, h => absurd ((h x).mp List.mem_cons_self) (by simp)
  | x :: l, y :: m, hl, hm, h => by
    rw [List.pairwise_cons] at hl hm
    have e : x = y := by
      rcases List.mem_cons.mp ((h x).mp List.mem_cons_self) with e | e
      · exact e
      · rcases List.mem_cons.mp ((h y).mpr List.mem_cons_self) with e2 | e2
        · exact e2.symm
        · have a1 := hm.1 x e
          have a2 := hl.1 y e2
          omega
    subst e
    refine congrArg (List.cons x) (asc_ext hl.2 hm.2 fun z => ⟨fun hz => ?_, fun hz => ?_⟩)
    · rcases List.mem_cons.mp ((h z).mp (List.mem_cons_of_mem _ hz)) with e | e
      · have := hl.1 z hz
        omega
      · exact e
    · rcases List.mem_cons.mp ((h z).mpr (List.mem_cons_of_mem _ hz)) with e | e
      · have := hm.1 z hz
        omega
      · exact e
theorem asc_of {l : List Int} (h : l.Pairwise (· ≤ ·)) (nd : l.Nodup) : l.Pairwise (· < ·) := by
  have := h.and nd
  exact this.imp fun ⟨a, b⟩ => by omega
theorem mem_ints {l : List Nat} {x : Int} : x ∈ Sh15Neutral.ints l ↔ 0 ≤ x ∧ x.toNat ∈ l := by
  unfold Sh15Neutral.ints
  rw [List.mem_map]
  constructor
  · rintro ⟨k, hk, rfl⟩
    exact ⟨by omega, by simpa using hk⟩
  · rintro ⟨h0, h⟩
    exact ⟨_, h, by omega⟩
theorem mem_nats_iff {ns : List Int} (hb : ∀ x ∈ ns, 0 ≤ x) {j : Nat} : j ∈ Sh15Neutral.nats ns ↔ (j : Int) ∈ ns := by
  have := mem_nats hb j
  rw [Bool.eq_iff_iff, List.contains_iff_mem, decide_eq_true_iff] at this
  exact this
theorem ints_nats : ∀ {ns : List Int}, (∀ x ∈ ns, 0 ≤ x) → Sh15Neutral.ints (Sh15Neutral.nats ns) = ns
  | [], _ => rfl
  | x :: r, h => by
    show ((x.toNat : Nat) : Int) :: Sh15Neutral.ints (Sh15Neutral.nats r) = x :: r
    rw [ints_nats fun y hy => h y (List.mem_cons_of_mem _ hy), Int.toNat_of_nonneg (h x List.mem_cons_self)]
theorem nats_ints : ∀ (l : List Nat), Sh15Neutral.nats (Sh15Neutral.ints l) = l
  | [] => rfl
  | x :: r => by
    show ((x : Nat) : Int).toNat :: Sh15Neutral.nats (Sh15Neutral.ints r) = x :: r
    rw [nats_ints r, Int.toNat_natCast]
theorem mem_places {n : Nat} {f : Nat → Bool} {x : Nat} : x ∈ Sh15.places n f ↔ x < n ∧ f x = true := by
  unfold Sh15.places
  rw [List.mem_filter, List.mem_range]
theorem good_places (n : Nat) (f : Nat → Bool) : Good (n : Int) (Sh15Neutral.ints (Sh15.places n f)) where
  asc := by
    unfold Sh15Neutral.ints Sh15.places
    rw [List.pairwise_map]
    refine (List.Pairwise.filter _ List.pairwise_lt_range).imp fun h => ?_
    omega
  bnd := fun x hx => by
    rw [mem_ints, mem_places] at hx
    omega
theorem asc_zip : ∀ l : List Int, (l.zip (l.drop 1)).all (fun (x : Int × Int) => decide (x.1 < x.2)) = true → l.Pairwise (· < ·)
  | [], _ => List.Pairwise.nil
  | [x], _ => List.pairwise_singleton _ _
  | x :: y :: r, h => by
    have h2 : (decide (x < y) && ((y :: r).zip ((y :: r).drop 1)).all fun (x : Int × Int) => decide (x.1 < x.2)) = true := h
    rw [Bool.and_eq_true] at h2
    have ih := asc_zip (y :: r) h2.2
    have hxy := of_decide_eq_true h2.1
    rw [List.pairwise_cons]
    refine ⟨fun z hz => ?_, ih⟩
    rw [List.pairwise_cons] at ih
    rcases List.mem_cons.mp hz with rfl | hz
    · exact hxy
    · have := ih.1 z hz
      omega
theorem asc_set {l : List Int} (h : Sh15Neutral.set l = true) : l.Pairwise (· < ·) := by
  unfold Sh15Neutral.set at h
  rw [Bool.and_eq_true] at h
  exact asc_zip l h.2
theorem asc_len {hi : Int} : ∀ (l : List Int) (lo : Int), l.Pairwise (· < ·) → (∀ x ∈ l, lo ≤ x ∧ x < hi) → lo ≤ hi → (l.length : Int) ≤ hi - lo
  | [], lo, _, _, h => by
    show (0 : Int) ≤ hi - lo
    omega
  | x :: r, lo, ha, hb, h => by
    rw [List.pairwise_cons] at ha
    have hx := hb x List.mem_cons_self
    have := asc_len r (x + 1) ha.2 (fun y hy => ⟨ha.1 y hy, (hb y (List.mem_cons_of_mem _ hy)).2⟩) (by omega)
    rw [List.length_cons]
    omega
theorem len_good {n : Int} (hn : n ≤ 128) {ns : List Int} (g : Good n ns) : ns.length ≤ 1000 := by
  rcases Int.lt_or_le n 0 with h | h
  · cases ns with
    | nil => exact Nat.zero_le _
    | cons x r =>
      have := g.bnd x List.mem_cons_self
      omega
  · have := asc_len ns 0 g.asc g.bnd h
    omega
/-! ### turned, mirrored -/
def turnL (n : Int) (ns : List Int) (r : Int) : List Int := Sh15Neutral.ints (Sh15.turned n.toNat r.toNat (Sh15Neutral.nats ns))
def mirL (n : Int) (ns : List Int) : List Int := Sh15Neutral.ints (Sh15.mirrored n.toNat (Sh15Neutral.nats ns))
theorem good_turn {n : Int} (h0 : 0 ≤ n) (ns : List Int) (r : Int) : Good n (turnL n ns r) := by
  have := good_places n.toNat fun i => (Sh15Neutral.nats ns).any fun x => (x + r.toNat) % n.toNat == i
  rw [Int.toNat_of_nonneg h0] at this
  exact this
theorem good_mir {n : Int} (h0 : 0 ≤ n) (ns : List Int) : Good n (mirL n ns) := by
  have := good_places n.toNat fun i => (Sh15Neutral.nats ns).any fun x => (n.toNat - x % n.toNat) % n.toNat == i
  rw [Int.toNat_of_nonneg h0] at this
  exact this
theorem Good.nonneg {n : Int} {ns : List Int} (g : Good n ns) : ∀ x ∈ ns, 0 ≤ x := fun x hx => (g.bnd x hx).1
theorem mem_turn {n : Int} (hn : 1 ≤ n) {ns : List Int} (hb : ∀ x ∈ ns, 0 ≤ x) {r : Int} (hr : 0 ≤ r) {x : Int} : x ∈ turnL n ns r ↔ ∃ z ∈ ns, (z + r) % n = x := by
  unfold turnL
  rw [mem_ints]
  show 0 ≤ x ∧ x.toNat ∈ Sh15.places _ _ ↔ _
  rw [mem_places, List.any_eq_true]
  have key : ∀ z : Nat, ((z : Int) + r) % n = (((z + r.toNat) % n.toNat : Nat) : Int) := fun z => by
    rw [Int.natCast_emod]
    congr 1 <;> omega
  constructor
  · rintro ⟨h0, hlt, z, hz, he⟩
    rw [mem_nats_iff hb] at hz
    refine ⟨(z : Int), hz, ?_⟩
    have := of_decide_eq_true (show decide ((z + r.toNat) % n.toNat = x.toNat) = true from he)
    rw [key, this]
    omega
  · rintro ⟨z, hz, rfl⟩
    have hz0 := hb z hz
    have g0 := Int.emod_nonneg (z + r) (show n ≠ 0 by omega)
    have g1 := Int.emod_lt_of_pos (z + r) (show 0 < n by omega)
    refine ⟨g0, by omega, z.toNat, ?_, ?_⟩
    · rw [mem_nats_iff hb, Int.toNat_of_nonneg hz0]
      exact hz
    · refine decide_eq_true (p := (z.toNat + r.toNat) % n.toNat = ((z + r) % n).toNat) ?_
      have := key z.toNat
      rw [Int.toNat_of_nonneg hz0] at this
      omega
theorem mem_mir {n : Int} (hn : 1 ≤ n) {ns : List Int} (g : Good n ns) {x : Int} : x ∈ mirL n ns ↔ ∃ z ∈ ns, (n - z) % n = x := by
  unfold mirL
  rw [mem_ints]
  show 0 ≤ x ∧ x.toNat ∈ Sh15.places _ _ ↔ _
  rw [mem_places, List.any_eq_true]
  have key : ∀ z : Nat, (z : Int) < n → (n - (z : Int)) % n = (((n.toNat - z % n.toNat) % n.toNat : Nat) : Int) := fun z hz => by
    rw [Nat.mod_eq_of_lt (show z < n.toNat by omega), Int.natCast_emod]
    congr 1 <;> omega
  constructor
  · rintro ⟨h0, hlt, z, hz, he⟩
    rw [mem_nats_iff g.nonneg] at hz
    refine ⟨(z : Int), hz, ?_⟩
    have := of_decide_eq_true (show decide ((n.toNat - z % n.toNat) % n.toNat = x.toNat) = true from he)
    rw [key z (g.bnd _ hz).2, this]
    omega
  · rintro ⟨z, hz, rfl⟩
    have hz0 := g.bnd z hz
    have g0 := Int.emod_nonneg (n - z) (show n ≠ 0 by omega)
    have g1 := Int.emod_lt_of_pos (n - z) (show 0 < n by omega)
    refine ⟨g0, by omega, z.toNat, ?_, ?_⟩
    · rw [mem_nats_iff g.nonneg, Int.toNat_of_nonneg hz0.1]
      exact hz
    · refine decide_eq_true (p := (n.toNat - z.toNat % n.toNat) % n.toNat = ((n - z) % n).toNat) ?_
      have := key z.toNat (by omega)
      rw [Int.toNat_of_nonneg hz0.1] at this
      omega
theorem nodup_map_on {f : Int → Int} : ∀ {l : List Int}, l.Nodup → (∀ x ∈ l, ∀ y ∈ l, f x = f y → x = y) → (l.map f).Nodup
  | [], _, _ => List.nodup_nil
  | x :: r, h, hf => by
    rw [List.nodup_cons] at h
    rw [List.map_cons, List.nodup_cons]
    refine ⟨fun hm => ?_, nodup_map_on h.2 fun a ha b hb => hf a (List.mem_cons_of_mem _ ha) b (List.mem_cons_of_mem _ hb)⟩
    obtain ⟨y, hy, e⟩ := List.mem_map.mp hm
    have := hf y (List.mem_cons_of_mem _ hy) x List.mem_cons_self e
    subst this
    exact h.1 hy
theorem Good.nodup {n : Int} {ns : List Int} (g : Good n ns) : ns.Nodup := g.asc.imp fun h => by omega
theorem emod_inj {n a b : Int} (hn : 1 ≤ n) (h : a % n = b % n) (h1 : a - b < n) (h2 : b - a < n) : a = b := by
  have e : (a - b) % n = 0 := Int.emod_eq_emod_iff_emod_sub_eq_zero.mp h
  obtain ⟨k, hk⟩ := Int.dvd_of_emod_eq_zero e
  rcases Int.lt_trichotomy k 0 with h3 | h3 | h3
  · have : n * k ≤ n * (-1) := Int.mul_le_mul_of_nonneg_left (by omega) (by omega)
    omega
  · subst h3
    omega
  · have : n * 1 ≤ n * k := Int.mul_le_mul_of_nonneg_left (by omega) (by omega)
    omega
theorem turn_sorted {n : Int} (hn : 1 ≤ n) {ns : List Int} (g : Good n ns) {r : Int} (hr : 0 ≤ r) {ns' : List Int} (hp : ns'.Perm (ns.map fun x => (x + r) % n)) (hs : ns'.Pairwise (· ≤ ·)) : ns' = turnL n ns r := by
  have nd : (ns.map fun x => (x + r) % n).Nodup := nodup_map_on g.nodup fun x hx y hy e => by
    have a1 := g.bnd x hx
    have a2 := g.bnd y hy
    have := emod_inj hn e (by omega) (by omega)
    omega
  refine asc_ext (asc_of hs (hp.nodup_iff.mpr nd)) (good_turn (by omega) ns r).asc fun x => ?_
  rw [hp.mem_iff, mem_turn hn g.nonneg hr, List.mem_map]
theorem mir_sorted {n : Int} (hn : 1 ≤ n) {ns : List Int} (g : Good n ns) {ns' : List Int} (hp : ns'.Perm (ns.map fun x => (n - x) % n)) (hs : ns'.Pairwise (· ≤ ·)) : ns' = mirL n ns := by
  have nd : (ns.map fun x => (n - x) % n).Nodup := nodup_map_on g.nodup fun x hx y hy e => by
    have a1 := g.bnd x hx
    have a2 := g.bnd y hy
    have := emod_inj hn e (by omega) (by omega)
    omega
  refine asc_ext (asc_of hs (hp.nodup_iff.mpr nd)) (good_mir (by omega) ns).asc fun x => ?_
  rw [hp.mem_iff, mem_mir hn g, List.mem_map]
theorem turn_zero {n : Int} (hn : 1 ≤ n) {ns : List Int} (g : Good n ns) : turnL n ns 0 = ns := by
  refine asc_ext (good_turn (by omega) ns 0).asc g.asc fun x => ?_
  rw [mem_turn hn g.nonneg (Int.le_refl 0)]
  constructor
  · rintro ⟨z, hz, rfl⟩
    have := g.bnd z hz
    rw [Int.add_zero, Int.emod_eq_of_lt this.1 this.2]
    exact hz
  · intro hx
    have := g.bnd x hx
    exact ⟨x, hx, by rw [Int.add_zero, Int.emod_eq_of_lt this.1 this.2]⟩
/-! ### numbers of sets -/
def numL (ns : List Int) : Int := (ns.map fun x => (1 : Int) * 2 ^ x.toNat).sum
theorem numL_dvd (k : Nat) : ∀ l : List Int, (∀ x ∈ l, (k : Int) ≤ x) → (2 : Int) ^ k ∣ numL l
  | [], _ => ⟨0, by simp [numL]⟩
  | x :: r, h => by
    obtain ⟨c, hc⟩ := numL_dvd k r fun y hy => h y (List.mem_cons_of_mem _ hy)
    have hx := h x List.mem_cons_self
    have e : numL (x :: r) = 1 * 2 ^ x.toNat + numL r := by simp [numL]
    have e2 : x.toNat = k + (x.toNat - k) := by omega
    refine ⟨2 ^ (x.toNat - k) + c, ?_⟩
    rw [e, hc, e2, Int.pow_add, Int.mul_add, Int.one_mul]
    have e3 : k + (x.toNat - k) - k = x.toNat - k := by omega
    rw [e3]
theorem numL_nonneg : ∀ l : List Int, 0 ≤ numL l
  | [] => by simp [numL]
  | x :: r => by
    have := numL_nonneg r
    have e : numL (x :: r) = 1 * 2 ^ x.toNat + numL r := by simp [numL]
    have : (0 : Int) < 2 ^ x.toNat := Int.pow_pos (by decide)
    omega
theorem numL_inj : ∀ {l m : List Int}, l.Pairwise (· < ·) → m.Pairwise (· < ·) → (∀ x ∈ l, 0 ≤ x) → (∀ x ∈ m, 0 ≤ x) → numL l = numL m → l = m
  | [], [], _, _, _, _, _ => rfl
  | [], y :: m, _, _, _, _, h => by
    have e : numL (y :: m) = 1 * 2 ^ y.toNat + numL m := by simp [numL]
    have := numL_nonneg m
    have : (0 : Int) < 2 ^ y.toNat := Int.pow_pos (by decide)
    have e0 : numL [] = 0 := rfl
    omega
  | x :: l, [], _, _, _, _, h => by
    have e : numL (x :: l) = 1 * 2 ^ x.toNat + numL l := by simp [numL]
    have := numL_nonneg l
    have : (0 : Int) < 2 ^ x.toNat := Int.pow_pos (by decide)
    have e0 : numL [] = 0 := rfl
    omega
  | x :: l, y :: m, hl, hm, bl, bm, h => by
    rw [List.pairwise_cons] at hl hm
    have hx := bl x List.mem_cons_self
    have hy := bm y List.mem_cons_self
    have ex : numL (x :: l) = 1 * 2 ^ x.toNat + numL l := by simp [numL]
    have ey : numL (y :: m) = 1 * 2 ^ y.toNat + numL m := by simp [numL]
    have bl' : ∀ z ∈ l, 0 ≤ z := fun z hz => bl z (List.mem_cons_of_mem _ hz)
    have bm' : ∀ z ∈ m, 0 ≤ z := fun z hz => bm z (List.mem_cons_of_mem _ hz)
    -- an odd multiple of a lesser power is no multiple of the next
    have odd : ∀ (k : Nat) (a b : Int), (2 : Int) ^ (k + 1) ∣ a → (2 : Int) ^ (k + 1) ∣ b → ¬ 1 * 2 ^ k + a = b := by
      rintro k a b ⟨c, rfl⟩ ⟨d, rfl⟩ e
      have hp : (0 : Int) < 2 ^ k := Int.pow_pos (by decide)
      rw [Int.pow_succ, Int.one_mul, Int.mul_assoc, Int.mul_assoc] at e
      have e2 : (2 : Int) ^ k * (1 + 2 * c) = 2 ^ k * (2 * d) := by
        rw [Int.mul_add, Int.mul_one]
        exact e
      have := Int.eq_of_mul_eq_mul_left (by omega) e2
      omega
    rcases Int.lt_trichotomy x y with hlt | rfl | hgt
    · refine absurd h ?_
      rw [ex]
      refine odd x.toNat _ _ (numL_dvd _ _ fun z hz => ?_) (numL_dvd _ _ fun z hz => ?_)
      · have := hl.1 z hz
        omega
      · rcases List.mem_cons.mp hz with rfl | hz
        · omega
        · have := hm.1 z hz
          omega
    · have : numL l = numL m := by omega
      rw [numL_inj hl.2 hm.2 bl' bm' this]
    · refine absurd h.symm ?_
      rw [ey]
      refine odd y.toNat _ _ (numL_dvd _ _ fun z hz => ?_) (numL_dvd _ _ fun z hz => ?_)
      · have := hm.1 z hz
        omega
      · rcases List.mem_cons.mp hz with rfl | hz
        · omega
        · have := hl.1 z hz
          omega
theorem numL_ints : ∀ l : List Nat, numL (Sh15Neutral.ints l) = ((Sh15.number l : Nat) : Int)
  | [] => rfl
  | x :: r => by
    have ih := numL_ints r
    have e1 : numL (Sh15Neutral.ints (x :: r)) = 1 * 2 ^ x + numL (Sh15Neutral.ints r) := by simp [numL, Sh15Neutral.ints]
    have e2 : Sh15.number (x :: r) = 2 ^ x + Sh15.number r := by simp [Sh15.number]
    rw [e1, e2, ih]
    push_cast
    omega
end Cn

set_option linter.all false
namespace Cn
/-! ### form -/
def cands (n m : Int) (ns : List Int) : List (List Int) :=
  (List.range n.toNat).map (fun (i : Nat) => turnL n ns i) ++ (if m = 1 then (List.range n.toNat).map (fun (i : Nat) => turnL n (mirL n ns) i) else [])
def alikeL (n : Int) (ns : List Int) : Nat := (List.range n.toNat).countP fun (i : Nat) => decide (turnL n ns i = turnL n ns 0)
def okForm (n m : Int) : Bool := circ n && (decide (m = 0) || decide (m = 1))
inductive FormRes (n m : Int) (ns : List Int) : List Int → Prop where
  | range : okForm n m = false → FormRes n m ns [-2]
  | off : okForm n m = true → liesOn n ns = false → FormRes n m ns [-3]
  | is (b : List Int) : okForm n m = true → liesOn n ns = true → b ∈ cands n m ns → (∀ c ∈ cands n m ns, numL b ≤ numL c) → FormRes n m ns ((alikeL n ns : Int) :: b)
theorem ints_inj {a b : List Nat} (h : Sh15Neutral.ints a = Sh15Neutral.ints b) : a = b := by
  rw [← nats_ints a, h, nats_ints]
theorem turnL_nat (n : Int) (ns : List Int) (i : Nat) : turnL n ns (i : Int) = Sh15Neutral.ints (Sh15.turned n.toNat i (Sh15Neutral.nats ns)) := by
  unfold turnL
  rw [Int.toNat_natCast]
theorem mem_cands {n m : Int} {ns b : List Int} : b ∈ cands n m ns ↔ ∃ c ∈ Sh15Neutral.forms n.toNat (m == 1) (Sh15Neutral.nats ns), b = Sh15Neutral.ints c := by
  unfold cands Sh15Neutral.forms
  rw [List.mem_append, List.mem_map]
  have em : Sh15Neutral.nats (mirL n ns) = Sh15.mirrored n.toNat (Sh15Neutral.nats ns) := nats_ints _
  constructor
  · rintro (⟨i, hi, rfl⟩ | h)
    · refine ⟨_, List.mem_flatMap.mpr ⟨i, hi, List.mem_cons_self⟩, turnL_nat n ns i⟩
    · by_cases h1 : m = 1
      · rw [if_pos h1] at h
        obtain ⟨i, hi, rfl⟩ := List.mem_map.mp h
        refine ⟨_, List.mem_flatMap.mpr ⟨i, hi, List.mem_cons_of_mem _ ?_⟩, turnL_nat n _ i⟩
        rw [if_pos (by rw [h1]; rfl), em]
        exact List.mem_singleton.mpr rfl
      · rw [if_neg h1] at h
        cases h
  · rintro ⟨c, hc, rfl⟩
    obtain ⟨i, hi, h⟩ := List.mem_flatMap.mp hc
    rcases List.mem_cons.mp h with rfl | h
    · exact .inl ⟨i, hi, turnL_nat n ns i⟩
    · by_cases h1 : m = 1
      · rw [if_pos (by rw [h1]; rfl)] at h
        obtain rfl := List.mem_singleton.mp h
        refine .inr ?_
        rw [if_pos h1]
        refine List.mem_map.mpr ⟨i, hi, ?_⟩
        rw [turnL_nat, em]
      · rw [if_neg (by simpa using h1)] at h
        cases h
theorem good_cand {n m : Int} (h0 : 0 ≤ n) {ns b : List Int} (h : b ∈ cands n m ns) : Good n b := by
  unfold cands at h
  rcases List.mem_append.mp h with h | h
  · obtain ⟨i, _, rfl⟩ := List.mem_map.mp h
    exact good_turn h0 _ _
  · split at h
    · obtain ⟨i, _, rfl⟩ := List.mem_map.mp h
      exact good_turn h0 _ _
    · cases h
theorem alike_spec {n : Int} (hn : 1 ≤ n) {ns : List Int} (g : Good n ns) : alikeL n ns = Sh15.likeness n.toNat (Sh15Neutral.nats ns) := by
  unfold alikeL Sh15.likeness
  rw [List.countP_eq_length_filter]
  congr 2
  funext i
  rw [turn_zero hn g, turnL_nat]
  have e : ns = Sh15Neutral.ints (Sh15Neutral.nats ns) := (ints_nats g.nonneg).symm
  rw [Bool.eq_iff_iff, decide_eq_true_iff, beq_iff_eq]
  constructor
  · intro h
    rw [e] at h
    have := ints_inj h
    rw [nats_ints] at this
    exact this
  · intro h
    rw [h, ← e]
theorem form_is {n m : Int} (h0 : 0 ≤ n) {ns : List Int} (hb : ∀ x ∈ ns, 0 ≤ x) (ha : ns.Pairwise (· < ·)) {res : List Int} (h : FormRes n m ns res) : res = PySh15.form n m ns := by
  have e : PySh15.form n m ns = (match (if (Sh15.among n.toNat 1 128 && (m == 0 || m == 1)) = false then some (Sh15.ok (-2)) else if Sh15.isIn n.toNat (Sh15Neutral.nats ns) = false then some (Sh15.ok (-3)) else match (Sh15Neutral.leasts (Sh15Neutral.forms n.toNat (m == 1) (Sh15Neutral.nats ns))).head? with
    | some b => some ⟨(Sh15.likeness n.toNat (Sh15Neutral.nats ns) : Nat), [], b⟩
    | none => none) with
    | none => []
    | some a => a.v :: (a.l ++ Sh15Neutral.ints a.a)) := rfl
  have eo : (Sh15.among n.toNat 1 128 && (m == 0 || m == 1)) = okForm n m := by
    rw [circ_among n h0]
    rfl
  rw [e, eo, lies_isIn n h0 ns hb]
  cases h with
  | range h1 =>
    rw [h1]
    rfl
  | off h1 h2 =>
    rw [h1, h2]
    rfl
  | is b h1 h2 hm hl =>
    rw [h1, h2]
    have hn : 1 ≤ n := by
      unfold okForm circ at h1
      rw [Bool.and_eq_true, Bool.and_eq_true] at h1
      exact of_decide_eq_true h1.1.1
    have g : Good n ns := ⟨ha, fun x hx => ⟨hb x hx, lies_all h2 x hx⟩⟩
    obtain ⟨c, hc, rfl⟩ := mem_cands.mp hm
    have hc2 : c ∈ Sh15Neutral.leasts (Sh15Neutral.forms n.toNat (m == 1) (Sh15Neutral.nats ns)) := by
      unfold Sh15Neutral.leasts
      rw [List.mem_filter]
      refine ⟨hc, ?_⟩
      rw [List.all_eq_true]
      intro d hd
      have := hl (Sh15Neutral.ints d) (mem_cands.mpr ⟨d, hd, rfl⟩)
      rw [numL_ints, numL_ints] at this
      exact decide_eq_true (by omega)
    cases hh : (Sh15Neutral.leasts (Sh15Neutral.forms n.toNat (m == 1) (Sh15Neutral.nats ns))).head? with
    | none =>
      rw [List.head?_eq_none_iff] at hh
      rw [hh] at hc2
      cases hc2
    | some b2 =>
      have hb2 : b2 ∈ Sh15Neutral.leasts (Sh15Neutral.forms n.toNat (m == 1) (Sh15Neutral.nats ns)) := List.mem_of_mem_head? hh
      unfold Sh15Neutral.leasts at hb2
      rw [List.mem_filter, List.all_eq_true] at hb2
      have l1 := of_decide_eq_true (hb2.2 c hc)
      have hm2 : Sh15Neutral.ints b2 ∈ cands n m ns := mem_cands.mpr ⟨b2, hb2.1, rfl⟩
      have l2 := hl _ hm2
      have g1 := good_cand h0 hm
      have g2 := good_cand h0 hm2
      have : Sh15Neutral.ints c = Sh15Neutral.ints b2 := numL_inj g1.asc g2.asc g1.nonneg g2.nonneg (by
        rw [numL_ints, numL_ints] at l2 ⊢
        omega)
      rw [this, alike_spec hn g]
      rfl
end Cn

set_option linter.all false
namespace Cn
/-! ### the mathematics of alike -/
def turnsL (n : Int) (ns : List Int) : List (List Int) := (List.range n.toNat).map fun (i : Nat) => turnL n ns i
def alikeM (n : Int) (ns ms : List Int) : List Int :=
  if circ n = false then [-2] else if (liesOn n ns && liesOn n ms) = false then [-3] else
  if (decide (ms ∈ turnsL n ns) || decide (ms ∈ turnsL n (mirL n ns))) = true then [2] else if gapsL n ns = gapsL n ms then [1] else [0]
theorem castL_inj : ∀ {a b : List Nat}, a.map (fun (x : Nat) => (x : Int)) = b.map (fun (x : Nat) => (x : Int)) → a = b
  | [], [], _ => rfl
  | [], _ :: _, h => by cases h
  | _ :: _, [], h => by cases h
  | x :: a, y :: b, h => by
    rw [List.map_cons, List.map_cons, List.cons.injEq] at h
    rw [castL_inj h.2, Int.ofNat.inj h.1]
theorem forms_spec {n : Int} {ns ms : List Int} (hm : ∀ x ∈ ms, 0 ≤ x) : (decide (ms ∈ turnsL n ns) || decide (ms ∈ turnsL n (mirL n ns))) = (Sh15Neutral.forms n.toNat true (Sh15Neutral.nats ns)).contains (Sh15Neutral.nats ms) := by
  have e : ms ∈ cands n 1 ns ↔ ms ∈ turnsL n ns ∨ ms ∈ turnsL n (mirL n ns) := by
    unfold cands turnsL
    rw [if_pos rfl, List.mem_append]
  rw [Bool.eq_iff_iff, Bool.or_eq_true, decide_eq_true_iff, decide_eq_true_iff, ← e, mem_cands, List.contains_iff_mem]
  constructor
  · rintro ⟨c, hc, rfl⟩
    rw [nats_ints]
    exact hc
  · intro h
    exact ⟨_, h, (ints_nats hm).symm⟩
theorem alikeM_spec {n : Int} (h0 : 0 ≤ n) {ns ms : List Int} (hb : ∀ x ∈ ns, 0 ≤ x) (hm : ∀ x ∈ ms, 0 ≤ x) : alikeM n ns ms = PySh15.alike n ns ms := by
  have e : PySh15.alike n ns ms = (let a := (if Sh15.among n.toNat 1 128 = false then Sh15.ok (-2) else if (Sh15.isIn n.toNat (Sh15Neutral.nats ns) && Sh15.isIn n.toNat (Sh15Neutral.nats ms)) = false then Sh15.ok (-3) else if (Sh15Neutral.forms n.toNat true (Sh15Neutral.nats ns)).contains (Sh15Neutral.nats ms) = true then Sh15.ok 2 else Sh15.ok (if Sh15.gaps n.toNat (Sh15Neutral.nats ns) = Sh15.gaps n.toNat (Sh15Neutral.nats ms) then 1 else 0)); a.v :: (a.l ++ Sh15Neutral.ints a.a)) := rfl
  rw [e, circ_among n h0, lies_isIn n h0 ns hb, lies_isIn n h0 ms hm, ← forms_spec hm]
  unfold alikeM
  cases c : circ n with
  | false => rfl
  | true =>
    have hn : 1 ≤ n := by
      unfold circ at c
      rw [Bool.and_eq_true] at c
      exact of_decide_eq_true c.1
    cases d : (liesOn n ns && liesOn n ms) with
    | false => rfl
    | true =>
      cases f : (decide (ms ∈ turnsL n ns) || decide (ms ∈ turnsL n (mirL n ns))) with
      | true => rfl
      | false =>
        have eg : gapsL n ns = gapsL n ms ↔ Sh15.gaps n.toNat (Sh15Neutral.nats ns) = Sh15.gaps n.toNat (Sh15Neutral.nats ms) := by
          rw [gapsL_spec n hn ns hb, gapsL_spec n hn ms hm]
          exact ⟨castL_inj, congrArg _⟩
        by_cases g : gapsL n ns = gapsL n ms
        · have g2 := eg.mp g
          show (if gapsL n ns = gapsL n ms then ([1] : List Int) else [0]) = (Sh15.ok (if Sh15.gaps n.toNat (Sh15Neutral.nats ns) = Sh15.gaps n.toNat (Sh15Neutral.nats ms) then 1 else 0)).v :: []
          rw [if_pos g, if_pos g2]
          rfl
        · have g2 := fun z => g (eg.mpr z)
          show (if gapsL n ns = gapsL n ms then ([1] : List Int) else [0]) = (Sh15.ok (if Sh15.gaps n.toNat (Sh15Neutral.nats ns) = Sh15.gaps n.toNat (Sh15Neutral.nats ms) then 1 else 0)).v :: []
          rw [if_neg g, if_neg g2]
          rfl
end Cn

set_option Elab.async false
set_option linter.all false
set_option maxRecDepth 100000
namespace Cn
open PySem PySem.Spec PyProof.Rows L2
/-! ### lists of whole numbers as data -/
def intsD (l : List Int) : PyData := .list (l.map PyData.int)
theorem dpInts {K : PySem.W.Frag} {H : Hp} : ∀ l : List Int, DpAll K H (l.map V.int) (l.map PyData.int)
  | [] => .nil
  | x :: r => .cons (.int x) (dpInts r)
theorem dpRefs {K : PySem.W.Frag} {H : Hp} (L : Nat → List Int) : ∀ (ps : List Addr) (k : Nat), (∀ i q, ps[i]? = some q → SqL K H q ((L (k + i)).map V.int)) → DpAll K H (ps.map V.ref) ((List.range' k ps.length).map fun i => intsD (L i))
  | [], _, _ => .nil
  | p :: r, k, h => by
    refine .cons (.lst (h 0 p rfl) (dpInts _)) ?_
    exact dpRefs L r (k + 1) fun i q e => by
      have := h (i + 1) q e
      rw [show k + (i + 1) = k + 1 + i by omega] at this
      exact this
theorem eqvInts : ∀ l m : List Int, PyData.eqvAll (l.map PyData.int) (m.map PyData.int) = decide (l = m)
  | [], [] => rfl
  | [], _ :: _ => rfl
  | _ :: _, [] => rfl
  | x :: l, y :: m => by
    show (PyData.eqv (.int x) (.int y) && PyData.eqvAll (l.map PyData.int) (m.map PyData.int)) = _
    rw [eqvInts l m]
    show ((x == y) && decide (l = m)) = _
    rw [Bool.eq_iff_iff]
    simp
theorem eqvD (l m : List Int) : PyData.eqv (intsD l) (intsD m) = decide (l = m) := eqvInts l m
theorem layInts : ∀ l : List Int, PyData.canLayAll0 (l.map PyData.int) = true
  | [] => by simp [PyData.canLayAll0]
  | x :: r => by simp [PyData.canLayAll0, PyData.canLay0, layInts r]
theorem depInts : ∀ l : List Int, PyData.depthAll (l.map PyData.int) ≤ 0
  | [] => by simp [PyData.depthAll]
  | x :: r => by
    have := depInts r
    simp only [List.map_cons, PyData.depthAll, PyData.depth]
    omega
theorem shapedInts (l : List Int) : SeqAt.shaped (intsD l) = true := by
  have h1 := layInts l
  have h2 := depInts l
  unfold SeqAt.shaped intsD
  rw [Bool.and_eq_true]
  refine ⟨by simpa [PyData.canLay0] using h1, decide_eq_true ?_⟩
  simp only [PyData.depth]
  omega
theorem layRows (L : Nat → List Int) : ∀ is : List Nat, PyData.canLayAll0 (is.map fun i => intsD (L i)) = true
  | [] => by simp [PyData.canLayAll0]
  | i :: r => by
    have h1 : (intsD (L i)).canLay0 = true := by
      have := layInts (L i)
      simpa [intsD, PyData.canLay0] using this
    simp [PyData.canLayAll0, layRows L r, h1]
theorem depRows (L : Nat → List Int) : ∀ is : List Nat, PyData.depthAll (is.map fun i => intsD (L i)) ≤ 1
  | [] => by simp [PyData.depthAll]
  | i :: r => by
    have h1 := depRows L r
    have h2 : (intsD (L i)).depth ≤ 1 := by
      have := depInts (L i)
      simp only [intsD, PyData.depth]
      omega
    simp only [List.map_cons, PyData.depthAll]
    omega
theorem shapedRows (L : Nat → List Int) (is : List Nat) : SeqAt.shaped (.list (is.map fun i => intsD (L i))) = true := by
  have h1 := layRows L is
  have h2 := depRows L is
  unfold SeqAt.shaped
  rw [Bool.and_eq_true]
  refine ⟨by simpa [PyData.canLay0] using h1, decide_eq_true ?_⟩
  simp only [PyData.depth]
  omega
end Cn

namespace Cn
open PySem PySem.Spec PyProof.Rows L2
/-! ### the text -/
def topS (i : Nat) : Stmt := PySem.Challenge.pw_circlenotes_s06_alike.main.body.getD i (.Pass ⟨0, 0, 0, 0⟩)
abbrev sAlike : Stmt := topS 4
abbrev sCirc : Stmt := topS 5
abbrev sLies : Stmt := topS 6
abbrev sGcs : Stmt := topS 7
abbrev sGc : Stmt := topS 8
abbrev sMark : Stmt := topS 9
abbrev sTurn : Stmt := topS 10
abbrev sMir : Stmt := topS 11
abbrev sAll : Stmt := topS 12
theorem scAlike : FnScope ["n", "a", "b"] ["n", "a", "b"] (defScope sAlike) := ⟨rfl, rfl, rfl, by decide +kernel, rfl, by decide +kernel, by decide +kernel⟩
theorem scCirc : FnScope ["n"] ["n"] (defScope sCirc) := ⟨rfl, rfl, rfl, by decide +kernel, rfl, by decide +kernel, by decide +kernel⟩
theorem scLies : FnScope ["n", "places", "place"] ["n", "places"] (defScope sLies) := ⟨rfl, rfl, rfl, by decide +kernel, rfl, by decide +kernel, by decide +kernel⟩
theorem scGcs : FnScope ["n", "places", "marks", "d"] ["n", "places"] (defScope sGcs) := ⟨rfl, rfl, rfl, by decide +kernel, rfl, by decide +kernel, by decide +kernel⟩
theorem scGc : FnScope ["places", "marks", "d", "place"] ["places", "marks", "d"] (defScope sGc) := ⟨rfl, rfl, rfl, by decide +kernel, rfl, by decide +kernel, by decide +kernel⟩
theorem scMark : FnScope ["n", "places", "marks", "place"] ["n", "places"] (defScope sMark) := ⟨rfl, rfl, rfl, by decide +kernel, rfl, by decide +kernel, by decide +kernel⟩
theorem scTurn : FnScope ["n", "places", "r", "place"] ["n", "places", "r"] (defScope sTurn) := ⟨rfl, rfl, rfl, by decide +kernel, rfl, by decide +kernel, by decide +kernel⟩
theorem scMir : FnScope ["n", "places", "place"] ["n", "places"] (defScope sMir) := ⟨rfl, rfl, rfl, by decide +kernel, rfl, by decide +kernel, by decide +kernel⟩
theorem scAll : FnScope ["n", "places", "r"] ["n", "places"] (defScope sAll) := ⟨rfl, rfl, rfl, by decide +kernel, rfl, by decide +kernel, by decide +kernel⟩
end Cn

namespace Cn
open PySem PySem.Spec PyProof.Rows L2
section
variable {P : Program} {w : World} {K : PySem.W.Frag} {mg : Str → Option Value} {base : Heap}
/-! ### is_circle -/
def spCirc : Sp := fun vs H Q _ => ∃ n : Int, vs = [.int n] ∧ Q (.bl (circ n)) H
theorem ok_circ {f : Addr} {fd : FuncData} {k : Nat} {t : Tok} (F : Fun K "is_circle" "is_circle" sCirc f fd) (mM : mg "MOST_PLACES" = some (.int 128 t)) : FnOk P w K mg base CX0 (k + 1) f fd ["n"] spCirc := by
  refine F.ok scCirc (fun vs H Q E h => ?_) (fun cdv A outer s H vs Q E hr h => ?_)
  · obtain ⟨n, rfl, _⟩ := h
    rfl
  · obtain ⟨n, rfl, q⟩ := h
    refine ⟨_, pss_one (ps_ret (pe_chain op_le op_le pe_int (pv 0) (pe_glob (v := .int 128) rfl mM ⟨_, rfl⟩))), ?_⟩
    refine ⟨.int n, rfl, 1, n, rfl, rfl, decide (1 ≤ n), rfl, ?_⟩
    unfold circ at q
    refine ite2 (fun e => ?_) (fun e => ?_)
    · rw [e] at q
      exact ⟨n, 128, rfl, rfl, q⟩
    · rw [Bool.eq_false_iff.mpr e] at q
      exact q
end
end Cn

namespace Cn
open PySem PySem.Spec PyProof.Rows L2
section
variable {P : Program} {w : World} {K : PySem.W.Frag} {mg : Str → Option Value} {base : Heap}
/-! ### lies_on -/
def spLies (K : PySem.W.Frag) : Sp := fun vs H Q _ => ∃ (n : Int) (a : Addr) (ns : List Int), vs = [.int n, .ref a] ∧ SqL K H a (ns.map V.int) ∧ ns.length ≤ 1000 ∧ ∀ H', Same H H' → Q (.bl (liesOn n ns)) H'
theorem ok_lies {f : Addr} {fd : FuncData} {k : Nat} (F : Fun K "lies_on" "lies_on" sLies f fd) (mA : mg "all" = none) : FnOk P w K mg base CX0 (k + 1) f fd ["n", "places"] (spLies K) := by
  refine F.ok scLies (fun vs H Q E h => ?_) (fun cdv A outer s H vs Q E hr h => ?_)
  · obtain ⟨n, a, ns, rfl, _⟩ := h
    rfl
  · obtain ⟨n, a, ns, rfl, hS, hl, q⟩ := h
    refine ⟨_, pss_one (ps_ret (pe_callB (cr_all rfl) (by rfl) mA (by decide +kernel) (pa_cons
      (pe_lc (own := [("place", 2)]) (g := gName 2) (tt := tYes) rfl scLies.nd (pi_list (pv 1)) (blkOk_by (N := ["n", "places", "place"]) (sc := defScope sLies) (by decide +kernel))
        (fun _ _ _ _ _ => pg_name (i := 2) scLies.nd rfl (Or.inl rfl)) (fun _ _ _ _ _ => pts_nil) (fun _ _ _ _ _ => pe_cmpR op_lt (pv 2) (pv 0) (nomark _))) pa_nil))), ?_⟩
    refine ⟨.ref a, rfl, a, rfl, ⟨_, hS⟩, lcL (xs := ns.map V.int) (fun i => .bl (decide (ns.getD i 0 < n))) hS (by rw [List.length_map]; exact hl) (fun _ => rfl) (fun i x H2 hx s2 Q' hq => ?_) (fun D H2 hD s2 eD => ?_)⟩
    · obtain ⟨rfl, hi⟩ := intAt hx
      exact ⟨_, rfl, .int n, rfl, _, n, rfl, rfl, hq _ (Same.refl _)⟩
    · rw [List.length_map] at eD
      have e : (List.range ns.length).map (fun i => V.bl (decide (ns.getD i 0 < n))) = (ns.map fun x => decide (x < n)).map V.bl := by
        rw [rangeGet ns (fun x => V.bl (decide (x < n))) 0, List.map_map]
        rfl
      rw [e] at eD
      exact ⟨D, _, rfl, SqL.of eD, q _ s2⟩
end
end Cn

namespace Cn
open PySem PySem.Spec PyProof.Rows L2
section
variable {P : Program} {w : World} {K : PySem.W.Frag} {mg : Str → Option Value} {base : Heap}
/-! ### marks_of -/
def spMark (K : PySem.W.Frag) : Sp := fun vs H Q _ => ∃ (n : Int) (a : Addr) (ns : List Int), vs = [.int n, .ref a] ∧ SqL K H a (ns.map V.int) ∧ 0 ≤ n ∧ n ≤ 1000 ∧ (∀ x ∈ ns, 0 ≤ x ∧ x < n) ∧
  ∀ H' p, Same H H' → H p = none → H' p = some (.lst ((marksL n.toNat ns).map V.int)) → Q (.ref p) H'
theorem ok_mark {f : Addr} {fd : FuncData} {k : Nat} (F : Fun K "marks_of" "marks_of" sMark f fd) : FnOk P w K mg base CX0 (k + 1) f fd ["n", "places"] (spMark K) := by
  refine F.ok scMark (fun vs H Q E h => ?_) (fun cdv A outer s H vs Q E hr h => ?_)
  · obtain ⟨n, a, ns, rfl, _⟩ := h
    rfl
  · obtain ⟨n, a, ns, rfl, hS, h0, h1, hb, q⟩ := h
    refine ⟨_, pss_cons (ps_set (i := 2) scMark.nd rfl (Or.inl rfl) (pe_op op_rep (pe_lst (pa_cons pe_int pa_nil)) (pv 0)))
      (pss_cons (ps_for PassesOwn.never rfl (pi_list (pv 1)) (pg_name (i := 3) scMark.nd rfl (Or.inl rfl))
        (pss_one (ps_asg pe_int (pg_sub (pv 2) (pv 3) set_list))))
      (pss_one (ps_ret (pv 2)))), ?_⟩
    -- marks = [0] * n
    refine ⟨(by show 1 ≤ sizeLine; decide), fun z hz => ?_⟩
    refine ⟨.int n, rfl, z, n, _, rfl, rfl, upd_same, by omega, by omega, ?_, fun m hm => ?_⟩
    · show 1 * n.toNat ≤ sizeLine
      have := small1000 (n := n.toNat) (by omega)
      omega
    have s1 : Same H (upd H z (.lst [.int 0])) := sameNew hz
    have hm0 : H m = none := s1.free hm
    have s2 := s1.trans (sameNew (o := .lst (List.replicate n.toNat [V.int 0]).flatten) hm)
    have e0 : (List.replicate n.toNat [V.int 0]).flatten = (marksL n.toNat []).map V.int := by
      rw [marks_nil, List.map_replicate]
      exact List.flatten_replicate_singleton
    -- for place in places
    refine ⟨.ref a, rfl, a, rfl, ⟨_, s2.seq hS⟩, for_list (K := K) (a := a) (xs := ns.map V.int) (fun i st H' => ∃ v : Option V, st = [some (.int n), some (.ref a), some (.ref m), v] ∧ Same H H' ∧ H' m = some (.lst ((marksL n.toNat (ns.take i)).map V.int)))
      ⟨none, rfl, s2, ?_⟩ (fun i st H' _ ⟨_, _, s5, _⟩ => s5.seq hS) ?_ ?_⟩
    · rw [upd_same, e0]
      rfl
    · rintro i x st H' hx ⟨v, rfl, s5, em⟩
      obtain ⟨rfl, hi⟩ := intAt hx
      have hg : ns[i]? = some (ns.getD i 0) := atGet hi
      have hy := hb _ (List.mem_of_getElem? hg)
      refine ⟨.ref m, rfl, .int (ns.getD i 0), rfl, m, _, ns.getD i 0, (ns.getD i 0).toNat, rfl, rfl, em, ?_, ?_⟩
      · unfold ixN
        rw [if_pos hy.1, if_pos (by rw [List.length_map, marks_len]; omega)]
      · refine ⟨some (.int (ns.getD i 0)), rfl, sameUp s5 hm0, ?_⟩
        rw [upd_same, List.take_add_one, hg, Option.toList_some, ← marks_snoc n.toNat (ns.take i) _ hy.1, List.map_set]
    · rintro st H' ⟨v, rfl, s5, em⟩
      rw [List.length_map, List.take_length] at em
      exact ⟨.ref m, rfl, q H' m s5 hm0 em⟩
end
end Cn

namespace Cn
open PySem PySem.Spec PyProof.Rows L2
section
variable {P : Program} {w : World} {K : PySem.W.Frag} {mg : Str → Option Value} {base : Heap}
/-! ### gap_count -/
def spGc (K : PySem.W.Frag) : Sp := fun vs H Q _ => ∃ (a m : Addr) (ns ms : List Int) (d : Int), vs = [.ref a, .ref m, .int d] ∧ SqL K H a (ns.map V.int) ∧ SqL K H m (ms.map V.int) ∧ ns.length ≤ 1000 ∧ 0 < ms.length ∧
  ∀ H', Same H H' → Q (.int (ns.map fun x => ms.getD ((x + d) % (ms.length : Int)).toNat 0).sum) H'
theorem ok_gc {f : Addr} {fd : FuncData} {k : Nat} (F : Fun K "gap_count" "gap_count" sGc f fd) (mS : mg "sum" = none) (mL : mg "len" = none) : FnOk P w K mg base CX0 (k + 1) f fd ["places", "marks", "d"] (spGc K) := by
  refine F.ok scGc (fun vs H Q E h => ?_) (fun cdv A outer s H vs Q E hr h => ?_)
  · obtain ⟨a, m, ns, ms, d, rfl, _⟩ := h
    rfl
  · obtain ⟨a, m, ns, ms, d, rfl, hS, hM, hl, hp, q⟩ := h
    refine ⟨_, pss_one (ps_ret (pe_callB (cr_sum rfl) (by rfl) mS (by decide +kernel) (pa_cons
      (pe_lc (own := [("place", 3)]) (g := gName 3) (tt := tYes) rfl scGc.nd (pi_list (pv 0)) (blkOk_by (N := ["places", "marks", "d", "place"]) (sc := defScope sGc) (by decide +kernel))
        (fun _ _ _ _ _ => pg_name (i := 3) scGc.nd rfl (Or.inl rfl)) (fun _ _ _ _ _ => pts_nil)
        (fun _ _ _ _ _ => pe_ix (show IxR _ (rIxL K) from ix_list) (pv 1) (pe_op op_mod (pe_op op_add (pv 3) (pv 2)) (pe_callB (show CallR _ (.builtin "len") (rLenS K) from call_len_seq) (by rfl) mL PySem.boot_len (pa_cons (pv 1) pa_nil))) (fun _ _ => rfl))) pa_nil))), ?_⟩
    refine ⟨.ref a, rfl, a, rfl, ⟨_, hS⟩, lcL (xs := ns.map V.int) (fun i => .int (ms.getD ((ns.getD i 0 + d) % (ms.length : Int)).toNat 0)) hS (by rw [List.length_map]; exact hl) (fun _ => rfl) (fun i x H2 hx s2 Q' hq => ?_) (fun D H2 hD s2 eD => ?_)⟩
    · obtain ⟨rfl, hi⟩ := intAt hx
      have hpos : (0 : Int) < (ms.length : Int) := by omega
      have g0 := Int.emod_nonneg (ns.getD i 0 + d) (show (ms.length : Int) ≠ 0 by omega)
      have g1 := Int.emod_lt_of_pos (ns.getD i 0 + d) hpos
      have hj : ((ns.getD i 0 + d) % (ms.length : Int)).toNat < ms.length := by omega
      have e1 : ((((ms.map V.int).length : Nat)) : Int) = (ms.length : Int) := by rw [List.length_map]
      refine ⟨.ref m, rfl, .int (ns.getD i 0), rfl, .int d, rfl, _, _, rfl, rfl, .ref m, rfl, m, _, rfl, .inl (s2.seq hM), _, _, rfl, rfl, ?_, m, _, _, .int (ms.getD ((ns.getD i 0 + d) % (ms.length : Int)).toNat 0), rfl, rfl, s2.seq hM, ?_, hq _ (Same.refl _)⟩
      · rw [e1]
        exact hpos
      · refine at_of (j := ((ns.getD i 0 + d) % (ms.length : Int)).toNat) ?_ ?_
        · rw [e1]
          omega
        · rw [List.getElem?_map, atGet (d := 0) hj]
          rfl
    · rw [List.length_map] at eD
      have e : (List.range ns.length).map (fun i => V.int (ms.getD ((ns.getD i 0 + d) % (ms.length : Int)).toNat 0)) = (ns.map fun x => ms.getD ((x + d) % (ms.length : Int)).toNat 0).map V.int := by
        rw [rangeGet ns (fun x => V.int (ms.getD ((x + d) % (ms.length : Int)).toNat 0)) 0, List.map_map]
        rfl
      rw [e] at eD
      exact ⟨D, _, rfl, SqL.of eD, q _ s2⟩
end
end Cn

namespace Cn
open PySem PySem.Spec PyProof.Rows L2
section
variable {P : Program} {w : World} {K : PySem.W.Frag} {mg : Str → Option Value} {base : Heap}
/-! ### gap_counts -/
def spGcs (K : PySem.W.Frag) : Sp := fun vs H Q _ => ∃ (n : Int) (a : Addr) (ns : List Int), vs = [.int n, .ref a] ∧ SqL K H a (ns.map V.int) ∧ ns.length ≤ 1000 ∧ 1 ≤ n ∧ n ≤ 1000 ∧ (∀ x ∈ ns, 0 ≤ x ∧ x < n) ∧
  ∀ H' p, Same H H' → H p = none → H' p = some (.lst ((gapsL n ns).map V.int)) → Q (.ref p) H'
theorem ok_gcs {f f1 f2 : Addr} {fd fd1 fd2 : FuncData} (F : Fun K "gap_counts" "gap_counts" sGcs f fd)
    (FM : Fun K "marks_of" "marks_of" sMark f1 fd1) (bM : Binds K fd1 ["n", "places"] []) (gM : mg "marks_of" = some (.ref f1))
    (FG : Fun K "gap_count" "gap_count" sGc f2 fd2) (bG : Binds K fd2 ["places", "marks", "d"] []) (gG : mg "gap_count" = some (.ref f2))
    (mS : mg "sum" = none) (mL : mg "len" = none) (mR : mg "range" = none) : FnOk P w K mg base CX0 2 f fd ["n", "places"] (spGcs K) := by
  have GM : FnOk P w K mg base CX0 1 f1 fd1 ["n", "places"] (spMark K) := ok_mark FM
  have GG : FnOk P w K mg base CX0 1 f2 fd2 ["places", "marks", "d"] (spGc K) := ok_gc FG mS mL
  refine F.ok scGcs (fun vs H Q E h => ?_) (fun cdv A outer s H vs Q E hr h => ?_)
  · obtain ⟨n, a, ns, rfl, _⟩ := h
    rfl
  · obtain ⟨n, a, ns, rfl, hS, hl, h1, h2, hb, q⟩ := h
    refine ⟨_, pss_cons (ps_set (i := 2) scGcs.nd rfl (Or.inr rfl) (pe_call GM hr (by rfl) gM FM.kp bM .nil pass0 (pa_cons (pv 0) (pa_cons (pv 1) pa_nil))))
      (pss_one (ps_ret (pe_lc (own := [("d", 3)]) (g := gName 3) (tt := tYes) rfl scGcs.nd (pi_range1 rfl mR (pa_cons (pv 0) pa_nil)) (blkOk_by (N := ["n", "places", "marks", "d"]) (sc := defScope sGcs) (by decide +kernel))
        (fun _ _ _ _ _ => pg_name (i := 3) scGcs.nd rfl (Or.inl rfl)) (fun _ _ _ _ _ => pts_nil)
        (fun _ _ _ _ _ => pe_call GG hr (by rfl) gG FG.kp bG .nil pass0 (pa_cons (pv 1) (pa_cons (pv 2) (pa_cons (pv 3) pa_nil))))))), ?_⟩
    refine ⟨.int n, rfl, .ref a, rfl, n, a, ns, rfl, hS, by omega, h2, hb, fun H1 m s1 hm em => ?_⟩
    have hM : SqL K H1 m ((marksL n.toNat ns).map V.int) := SqL.of em
    refine ⟨.int n, rfl, n, rfl, by omega, by omega, lcR (n := n.toNat) (lo := 0) (fun i => .int (gapI n ns i)) (by omega) (fun _ => rfl) (fun i H2 hi s2 Q' hq => ?_) (fun D H2 hD s2 eD => ?_)⟩
    · refine ⟨.ref a, rfl, .ref m, rfl, .int (0 + (i : Int)), rfl, a, m, ns, marksL n.toNat ns, _, rfl, (s1.trans s2).seq hS, s2.seq hM, hl, (by rw [marks_len]; omega), fun H3 s3 => ?_⟩
      have := hq H3 s3
      rw [marks_len, Int.zero_add, Int.toNat_of_nonneg (by omega)]
      exact this
    · refine q H2 D (s1.trans s2) (s1.free hD) ?_
      rw [eD]
      unfold gapsL
      rw [List.map_map]
      rfl
end
end Cn

namespace Cn
open PySem PySem.Spec PyProof.Rows L2
section
variable {P : Program} {w : World} {K : PySem.W.Frag} {mg : Str → Option Value} {base : Heap}
/-! ### turned -/
def spTurn (K : PySem.W.Frag) : Sp := fun vs H Q _ => ∃ (n r : Int) (a : Addr) (ns : List Int), vs = [.int n, .ref a, .int r] ∧ SqL K H a (ns.map V.int) ∧ ns.length ≤ 1000 ∧ 1 ≤ n ∧ 0 ≤ r ∧ Good n ns ∧
  ∀ H' p, Same H H' → H p = none → H' p = some (.lst ((turnL n ns r).map V.int)) → Q (.ref p) H'
theorem ok_turn {f : Addr} {fd : FuncData} {k : Nat} (F : Fun K "turned" "turned" sTurn f fd) (mS : mg "sorted" = none) : FnOk P w K mg base CX0 (k + 1) f fd ["n", "places", "r"] (spTurn K) := by
  refine F.ok scTurn (fun vs H Q E h => ?_) (fun cdv A outer s H vs Q E hr h => ?_)
  · obtain ⟨n, r, a, ns, rfl, _⟩ := h
    rfl
  · obtain ⟨n, r, a, ns, rfl, hS, hl, hn, hr0, g, q⟩ := h
    refine ⟨_, pss_one (ps_ret (pe_callB cr_sortedI (by rfl) mS (by decide +kernel) (pa_cons
      (pe_lc (own := [("place", 3)]) (g := gName 3) (tt := tYes) rfl scTurn.nd (pi_list (pv 1)) (blkOk_by (N := ["n", "places", "r", "place"]) (sc := defScope sTurn) (by decide +kernel))
        (fun _ _ _ _ _ => pg_name (i := 3) scTurn.nd rfl (Or.inl rfl)) (fun _ _ _ _ _ => pts_nil)
        (fun _ _ _ _ _ => pe_op op_mod (pe_op op_add (pv 3) (pv 2)) (pv 0))) pa_nil))), ?_⟩
    refine ⟨.ref a, rfl, a, rfl, ⟨_, hS⟩, lcL (xs := ns.map V.int) (fun i => .int ((ns.getD i 0 + r) % n)) hS (by rw [List.length_map]; exact hl) (fun _ => rfl) (fun i x H2 hx s2 Q' hq => ?_) (fun D H2 hD s2 eD => ?_)⟩
    · obtain ⟨rfl, hi⟩ := intAt hx
      exact ⟨_, rfl, .int r, rfl, _, _, rfl, rfl, .int n, rfl, _, n, rfl, rfl, by omega, hq _ (Same.refl _)⟩
    · rw [List.length_map] at eD
      have e : (List.range ns.length).map (fun i => V.int ((ns.getD i 0 + r) % n)) = (ns.map fun x => (x + r) % n).map V.int := by
        rw [rangeGet ns (fun x => V.int ((x + r) % n)) 0, List.map_map]
        rfl
      rw [e] at eD
      refine ⟨D, _, rfl, SqL.of eD, fun ns' p hp hs np => ?_⟩
      rw [turn_sorted hn g hr0 hp hs]
      exact q _ p (s2.trans (sameNew np)) (s2.free np) upd_same
end
end Cn

namespace Cn
open PySem PySem.Spec PyProof.Rows L2
section
variable {P : Program} {w : World} {K : PySem.W.Frag} {mg : Str → Option Value} {base : Heap}
/-! ### mirrored -/
def spMir (K : PySem.W.Frag) : Sp := fun vs H Q _ => ∃ (n : Int) (a : Addr) (ns : List Int), vs = [.int n, .ref a] ∧ SqL K H a (ns.map V.int) ∧ ns.length ≤ 1000 ∧ 1 ≤ n ∧ Good n ns ∧
  ∀ H' p, Same H H' → H p = none → H' p = some (.lst ((mirL n ns).map V.int)) → Q (.ref p) H'
theorem ok_mir {f : Addr} {fd : FuncData} {k : Nat} (F : Fun K "mirrored" "mirrored" sMir f fd) (mS : mg "sorted" = none) : FnOk P w K mg base CX0 (k + 1) f fd ["n", "places"] (spMir K) := by
  refine F.ok scMir (fun vs H Q E h => ?_) (fun cdv A outer s H vs Q E hr h => ?_)
  · obtain ⟨n, a, ns, rfl, _⟩ := h
    rfl
  · obtain ⟨n, a, ns, rfl, hS, hl, hn, g, q⟩ := h
    refine ⟨_, pss_one (ps_ret (pe_callB cr_sortedI (by rfl) mS (by decide +kernel) (pa_cons
      (pe_lc (own := [("place", 2)]) (g := gName 2) (tt := tYes) rfl scMir.nd (pi_list (pv 1)) (blkOk_by (N := ["n", "places", "place"]) (sc := defScope sMir) (by decide +kernel))
        (fun _ _ _ _ _ => pg_name (i := 2) scMir.nd rfl (Or.inl rfl)) (fun _ _ _ _ _ => pts_nil)
        (fun _ _ _ _ _ => pe_op op_mod (pe_op op_sub (pv 0) (pv 2)) (pv 0))) pa_nil))), ?_⟩
    refine ⟨.ref a, rfl, a, rfl, ⟨_, hS⟩, lcL (xs := ns.map V.int) (fun i => .int ((n - ns.getD i 0) % n)) hS (by rw [List.length_map]; exact hl) (fun _ => rfl) (fun i x H2 hx s2 Q' hq => ?_) (fun D H2 hD s2 eD => ?_)⟩
    · obtain ⟨rfl, hi⟩ := intAt hx
      exact ⟨.int n, rfl, _, rfl, _, _, rfl, rfl, .int n, rfl, _, n, rfl, rfl, by omega, hq _ (Same.refl _)⟩
    · rw [List.length_map] at eD
      have e : (List.range ns.length).map (fun i => V.int ((n - ns.getD i 0) % n)) = (ns.map fun x => (n - x) % n).map V.int := by
        rw [rangeGet ns (fun x => V.int ((n - x) % n)) 0, List.map_map]
        rfl
      rw [e] at eD
      refine ⟨D, _, rfl, SqL.of eD, fun ns' p hp hs np => ?_⟩
      rw [mir_sorted hn g hp hs]
      exact q _ p (s2.trans (sameNew np)) (s2.free np) upd_same
end
end Cn

namespace Cn
open PySem PySem.Spec PyProof.Rows L2
section
variable {P : Program} {w : World} {K : PySem.W.Frag} {mg : Str → Option Value} {base : Heap}
/-! ### all_turned -/
def spAll (K : PySem.W.Frag) : Sp := fun vs H Q _ => ∃ (n : Int) (a : Addr) (ns : List Int), vs = [.int n, .ref a] ∧ SqL K H a (ns.map V.int) ∧ ns.length ≤ 1000 ∧ 1 ≤ n ∧ n ≤ 1000 ∧ Good n ns ∧
  ∀ H' p (ps : List Addr), Same H H' → H p = none → H' p = some (.lst (ps.map V.ref)) → ps.length = n.toNat → (∀ i q, ps[i]? = some q → H' q = some (.lst ((turnL n ns (i : Nat)).map V.int))) → Q (.ref p) H'
theorem ok_all {f f1 : Addr} {fd fd1 : FuncData} (F : Fun K "all_turned" "all_turned" sAll f fd)
    (FT : Fun K "turned" "turned" sTurn f1 fd1) (bT : Binds K fd1 ["n", "places", "r"] []) (gT : mg "turned" = some (.ref f1)) (mS : mg "sorted" = none) (mR : mg "range" = none) : FnOk P w K mg base CX0 2 f fd ["n", "places"] (spAll K) := by
  have GT : FnOk P w K mg base CX0 1 f1 fd1 ["n", "places", "r"] (spTurn K) := ok_turn FT mS
  refine F.ok scAll (fun vs H Q E h => ?_) (fun cdv A outer s H vs Q E hr h => ?_)
  · obtain ⟨n, a, ns, rfl, _⟩ := h
    rfl
  · obtain ⟨n, a, ns, rfl, hS, hl, hn, hn2, g, q⟩ := h
    refine ⟨_, pss_one (ps_ret (pe_lc (own := [("r", 2)]) (g := gName 2) (tt := tYes) rfl scAll.nd (pi_range1 rfl mR (pa_cons (pv 0) pa_nil)) (blkOk_by (N := ["n", "places", "r"]) (sc := defScope sAll) (by decide +kernel))
        (fun _ _ _ _ _ => pg_name (i := 2) scAll.nd rfl (Or.inl rfl)) (fun _ _ _ _ _ => pts_nil)
        (fun _ _ _ _ _ => pe_call GT hr (by rfl) gT FT.kp bT .nil pass0 (pa_cons (pv 0) (pa_cons (pv 1) (pa_cons (pv 2) pa_nil)))))), ?_⟩
    refine ⟨.int n, rfl, n, rfl, by omega, by omega, lcRr (n := n.toNat) (lo := 0) (fun i => turnL n ns (i : Nat)) (by omega) (fun _ => rfl) (fun i H2 hi s2 Q' hq => ?_) (fun D H2 ps hD s2 eD el ep => q H2 D ps s2 hD eD el ep)⟩
    refine ⟨.int n, rfl, .ref a, rfl, .int (0 + (i : Int)), rfl, n, 0 + (i : Int), a, ns, rfl, s2.seq hS, hl, hn, by omega, g, fun H3 p s3 np ep => ?_⟩
    rw [Int.zero_add] at ep
    exact hq H3 p s3 np ep
end
end Cn

namespace Cn
open PySem PySem.Spec PyProof.Rows L2
section
variable {P : Program} {w : World} {K : PySem.W.Frag} {mg : Str → Option Value} {base : Heap}
/-! ### alike -/
theorem anyTurns (n : Int) (ns ms : List Int) (t : Nat) (ht : t = n.toNat) : (((List.range' 0 t).map fun i => intsD (turnL n ns (i : Nat))).any fun z => PyData.eqv z (intsD ms)) = decide (ms ∈ turnsL n ns) := by
  subst ht
  rw [Bool.eq_iff_iff, List.any_map, List.any_eq_true, decide_eq_true_iff]
  unfold turnsL
  rw [List.mem_map, List.range_eq_range']
  refine exists_congr fun i => and_congr_right fun _ => ?_
  show PyData.eqv (intsD (turnL n ns (i : Nat))) (intsD ms) = true ↔ _
  rw [eqvD, decide_eq_true_iff]
theorem dpTurns {H : Hp} {n : Int} {ns : List Int} {tp : Addr} {ts : List Addr} (e : H tp = some (.lst (ts.map V.ref))) (eq : ∀ i q, ts[i]? = some q → H q = some (.lst ((turnL n ns (i : Nat)).map V.int))) :
    Dp K H (.ref tp) (.list ((List.range' 0 ts.length).map fun i => intsD (turnL n ns (i : Nat)))) :=
  .lst (SqL.of e) (dpRefs (fun i => turnL n ns (i : Nat)) ts 0 fun i q hq => by
    rw [Nat.zero_add]
    exact SqL.of (eq i q hq))
def spAlike (K : PySem.W.Frag) : Sp := fun vs H Q _ => ∃ (n : Int) (a b : Addr) (ns ms : List Int), vs = [.int n, .ref a, .ref b] ∧ SqL K H a (ns.map V.int) ∧ SqL K H b (ms.map V.int) ∧ ns.length ≤ 1000 ∧ ms.length ≤ 1000 ∧
  (∀ x ∈ ns, 0 ≤ x) ∧ (∀ x ∈ ms, 0 ≤ x) ∧ ns.Pairwise (· < ·) ∧ ∀ H' p, H' p = some (.lst ((alikeM n ns ms).map V.int)) → Q (.ref p) H'
theorem ok_alike {f f1 f2 f3 f4 f5 f6 f7 f8 : Addr} {fd fd1 fd2 fd3 fd4 fd5 fd6 fd7 fd8 : FuncData} {t1 t2 t3 : Tok} (F : Fun K "alike" "alike" sAlike f fd)
    (FC : Fun K "is_circle" "is_circle" sCirc f1 fd1) (bC : Binds K fd1 ["n"] []) (gC : mg "is_circle" = some (.ref f1))
    (FL : Fun K "lies_on" "lies_on" sLies f2 fd2) (bL : Binds K fd2 ["n", "places"] []) (gL : mg "lies_on" = some (.ref f2))
    (FS : Fun K "gap_counts" "gap_counts" sGcs f3 fd3) (bS : Binds K fd3 ["n", "places"] []) (gS : mg "gap_counts" = some (.ref f3))
    (FG : Fun K "gap_count" "gap_count" sGc f4 fd4) (bG : Binds K fd4 ["places", "marks", "d"] []) (gG : mg "gap_count" = some (.ref f4))
    (FK : Fun K "marks_of" "marks_of" sMark f5 fd5) (bK : Binds K fd5 ["n", "places"] []) (gK : mg "marks_of" = some (.ref f5))
    (FT : Fun K "turned" "turned" sTurn f6 fd6) (bT : Binds K fd6 ["n", "places", "r"] []) (gT : mg "turned" = some (.ref f6))
    (FM : Fun K "mirrored" "mirrored" sMir f7 fd7) (bM : Binds K fd7 ["n", "places"] []) (gM : mg "mirrored" = some (.ref f7))
    (FA : Fun K "all_turned" "all_turned" sAll f8 fd8) (bA : Binds K fd8 ["n", "places"] []) (gA : mg "all_turned" = some (.ref f8))
    (c1 : mg "MOST_PLACES" = some (.int 128 t1)) (c2 : mg "NOT_IN_RANGE" = some (.int (-2) t2)) (c3 : mg "NOT_SUCH_A_SET" = some (.int (-3) t3))
    (mA : mg "all" = none) (mS : mg "sum" = none) (mL : mg "len" = none) (mO : mg "sorted" = none) (mR : mg "range" = none) : FnOk P w K mg base CX0 3 f fd ["n", "a", "b"] (spAlike K) := by
  have GC : FnOk P w K mg base CX0 1 f1 fd1 ["n"] spCirc := ok_circ FC c1
  have GL : FnOk P w K mg base CX0 1 f2 fd2 ["n", "places"] (spLies K) := ok_lies FL mA
  have GS : FnOk P w K mg base CX0 2 f3 fd3 ["n", "places"] (spGcs K) := ok_gcs FS FK bK gK FG bG gG mS mL mR
  have GM : FnOk P w K mg base CX0 1 f7 fd7 ["n", "places"] (spMir K) := ok_mir FM mO
  have GA : FnOk P w K mg base CX0 2 f8 fd8 ["n", "places"] (spAll K) := ok_all FA FT bT gT mO mR
  refine F.ok scAlike (fun vs H Q E h => ?_) (fun cdv A outer s H vs Q E hr h => ?_)
  · obtain ⟨n, a, b, ns, ms, rfl, _⟩ := h
    rfl
  · obtain ⟨n, a, b, ns, ms, rfl, hS, hB, hl, hl2, hb, hb2, hasc, q⟩ := h
    have hu : (A.deeper (envOfC "alike" (defScope sAlike) s.heap.objs.size f cdv)).units + 65 < cLine := by
      have := hr.un
      omega
    have hu2 : (A.deeper (envOfC "alike" (defScope sAlike) s.heap.objs.size f cdv)).units + 64 < cLine := by omega
    refine ⟨_, pss_cons (ps_if (pt_not (pt_val (pe_call GC (hr.mono (by decide)) (by rfl) gC FC.kp bC .nil pass0 (pa_cons (pv 0) pa_nil)))) (pss_one (ps_ret (pe_lst (pa_cons (pe_glob (v := .int (-2)) rfl c2 ⟨_, rfl⟩) pa_nil)))) pss_nil)
      (pss_cons (ps_if (PW.pt (pw_or (pt_not (pt_val (pe_call GL (hr.mono (by decide)) (by rfl) gL FL.kp bL .nil pass0 (pa_cons (pv 0) (pa_cons (pv 1) pa_nil)))))
          (pw_or1 (pt_not (pt_val (pe_call GL (hr.mono (by decide)) (by rfl) gL FL.kp bL .nil pass0 (pa_cons (pv 0) (pa_cons (pv 2) pa_nil))))))))
        (pss_one (ps_ret (pe_lst (pa_cons (pe_glob (v := .int (-3)) rfl c3 ⟨_, rfl⟩) pa_nil)))) pss_nil)
      (pss_cons (ps_if (PW.pt (pw_or (pt_cmpR (op_inD hu) (pv 2) (pe_call GA hr (by rfl) gA FA.kp bA .nil pass0 (pa_cons (pv 0) (pa_cons (pv 1) pa_nil))) (by rfl))
          (pw_or1 (pt_cmpR (op_inD hu) (pv 2) (pe_call GA hr (by rfl) gA FA.kp bA .nil pass0 (pa_cons (pv 0)
            (pa_cons (pe_call GM (hr.mono (by decide)) (by rfl) gM FM.kp bM .nil pass0 (pa_cons (pv 0) (pa_cons (pv 1) pa_nil))) pa_nil))) (by rfl)))))
        (pss_one (ps_ret (pe_lst (pa_cons pe_int pa_nil)))) pss_nil)
      (pss_cons (ps_if (pt_cmpR (op_eqD hu2) (pe_call GS hr (by rfl) gS FS.kp bS .nil pass0 (pa_cons (pv 0) (pa_cons (pv 1) pa_nil))) (pe_call GS hr (by rfl) gS FS.kp bS .nil pass0 (pa_cons (pv 0) (pa_cons (pv 2) pa_nil))) (nomark _))
        (pss_one (ps_ret (pe_lst (pa_cons pe_int pa_nil)))) pss_nil)
      (pss_one (ps_ret (pe_lst (pa_cons pe_int pa_nil))))))), ?_⟩
    refine ⟨.int n, rfl, n, rfl, circ n, rfl, ?_⟩
    unfold alikeM at q
    cases c : circ n with
    | false =>
      rw [c] at q
      exact iteT ⟨(by show 1 ≤ sizeLine; decide), fun p hp => q _ p upd_same⟩
    | true =>
      rw [c] at q
      refine iteF ?_
      have hn : 1 ≤ n ∧ n ≤ 128 := by
        unfold circ at c
        rw [Bool.and_eq_true] at c
        exact ⟨of_decide_eq_true c.1, of_decide_eq_true c.2⟩
      refine ⟨.int n, rfl, .ref a, rfl, n, a, ns, rfl, hS, hl, fun H1 s1 => ⟨liesOn n ns, rfl, ?_⟩⟩
      cases l : liesOn n ns with
      | false =>
        rw [l] at q
        exact iteT (iteT ⟨(by show 1 ≤ sizeLine; decide), fun p hp => q _ p upd_same⟩)
      | true =>
        rw [l] at q
        refine iteF ⟨.int n, rfl, .ref b, rfl, n, b, ms, rfl, s1.seq hB, hl2, fun H2 s2 => ⟨liesOn n ms, rfl, ?_⟩⟩
        cases l2 : liesOn n ms with
        | false =>
          rw [l2] at q
          exact iteT ⟨(by show 1 ≤ sizeLine; decide), fun p hp => q _ p upd_same⟩
        | true =>
          rw [l2] at q
          refine iteF ?_
          have s3 : Same H H2 := s1.trans s2
          have g : Good n ns := ⟨hasc, fun x hx => ⟨hb x hx, lies_all l x hx⟩⟩
          -- b in all_turned(n, a)
          refine ⟨.ref b, rfl, .int n, rfl, .ref a, rfl, n, a, ns, rfl, s3.seq hS, hl, hn.1, by omega, g, fun H3 tp ts s4 ntp etp elt eqt => ?_⟩
          have s5 := s3.trans s4
          refine ⟨intsD ms, _, .lst (s5.seq hB) (dpInts _), dpTurns etp eqt, shapedInts _, shapedRows _ _, _, rfl, ?_⟩
          rw [anyTurns n ns ms _ elt]
          cases m1 : decide (ms ∈ turnsL n ns) with
          | true =>
            rw [m1] at q
            exact iteT (iteT ⟨(by show 1 ≤ sizeLine; decide), fun p hp => q _ p upd_same⟩)
          | false =>
            rw [m1] at q
            -- b in all_turned(n, mirrored(n, a))
            refine iteF ⟨.ref b, rfl, .int n, rfl, .int n, rfl, .ref a, rfl, n, a, ns, rfl, s5.seq hS, hl, hn.1, g, fun H4 mp s6 nmp emp => ?_⟩
            have gm := good_mir (show 0 ≤ n by omega) ns
            refine ⟨n, mp, mirL n ns, rfl, SqL.of emp, len_good hn.2 gm, hn.1, by omega, gm, fun H5 up us s7 nup eup elu equ => ?_⟩
            have s8 := s5.trans (s6.trans s7)
            refine ⟨intsD ms, _, .lst (s8.seq hB) (dpInts _), dpTurns eup equ, shapedInts _, shapedRows _ _, _, rfl, ?_⟩
            rw [anyTurns n (mirL n ns) ms _ elu]
            cases m2 : decide (ms ∈ turnsL n (mirL n ns)) with
            | true =>
              rw [m2] at q
              exact iteT ⟨(by show 1 ≤ sizeLine; decide), fun p hp => q _ p upd_same⟩
            | false =>
              rw [m2] at q
              -- gap_counts(n, a) == gap_counts(n, b)
              refine iteF ⟨.int n, rfl, .ref a, rfl, n, a, ns, rfl, s8.seq hS, hl, hn.1, by omega, g.bnd, fun H6 gp s9 ngp egp => ?_⟩
              have s10 := s8.trans s9
              refine ⟨.int n, rfl, .ref b, rfl, n, b, ms, rfl, s10.seq hB, hl2, hn.1, by omega, fun x hx => ⟨hb2 x hx, lies_all l2 x hx⟩, fun H7 hp s11 nhp ehp => ?_⟩
              refine ⟨intsD (gapsL n ns), intsD (gapsL n ms), .lst (SqL.of (s11 _ _ egp)) (dpInts _), .lst (SqL.of ehp) (dpInts _), shapedInts _, shapedInts _, _, rfl, ?_⟩
              rw [eqvD]
              by_cases e : gapsL n ns = gapsL n ms
              · rw [if_pos e] at q
                rw [decide_eq_true e]
                exact iteT ⟨(by show 1 ≤ sizeLine; decide), fun p hp => q _ p upd_same⟩
              · rw [if_neg e] at q
                rw [decide_eq_false e]
                exact iteF ⟨(by show 1 ≤ sizeLine; decide), fun p hp => q _ p upd_same⟩
end
end Cn

namespace Cn
open PySem PySem.Spec PyProof.Rows L2
/-! ### what the top has written -/
theorem all_mk {P : Program} {w : World} {K : PySem.W.Frag} {h : Heap} {mg : Str → Option Value} {fa f1 f2 f3 f4 f5 f6 f7 f8 f9 : Addr} (X : K.In h) (G : h.Ns mainGlobals mg) (hfa : mg "alike" = some (.ref fa))
    {od1 an1 od2 an2 od3 an3 od4 an4 od5 an5 od6 an6 od7 an7 od8 an8 od9 an9 : Option Addr} {sl1 sl2 sl3 sl4 sl5 sl6 sl7 sl8 sl9 : Array (Option Value)} {oc1 kV1 dc1 pm1 cd1 ct1 oc2 kV2 dc2 pm2 cd2 ct2 oc3 kV3 dc3 pm3 cd3 ct3 oc4 kV4 dc4 pm4 cd4 ct4 oc5 kV5 dc5 pm5 cd5 ct5 oc6 kV6 dc6 pm6 cd6 ct6 oc7 kV7 dc7 pm7 cd7 ct7 oc8 kV8 dc8 pm8 cd8 ct8 oc9 kV9 dc9 pm9 cd9 ct9 : Value} {t1 t2 t3 : Tok}
    (a1 : PySem.W.nsIn K mainGlobals "alike" = some (some (.ref f1)))
    (l1 : K.lookup f1 = some ⟨oc1, od1, .func (PySem.W.fnOf "alike" "alike" (defArgs sAlike) (defBody sAlike) (defScope sAlike) .none kV1 dc1 pm1 an1 cd1 ct1), sl1⟩)
    (c1 : PySem.W.codeIn K cd1 "alike" = true) (k1 : PySem.W.keepIn K (.ref f1) = true)
    (a2 : PySem.W.nsIn K mainGlobals "is_circle" = some (some (.ref f2)))
    (l2 : K.lookup f2 = some ⟨oc2, od2, .func (PySem.W.fnOf "is_circle" "is_circle" (defArgs sCirc) (defBody sCirc) (defScope sCirc) .none kV2 dc2 pm2 an2 cd2 ct2), sl2⟩)
    (c2 : PySem.W.codeIn K cd2 "is_circle" = true) (k2 : PySem.W.keepIn K (.ref f2) = true)
    (a3 : PySem.W.nsIn K mainGlobals "lies_on" = some (some (.ref f3)))
    (l3 : K.lookup f3 = some ⟨oc3, od3, .func (PySem.W.fnOf "lies_on" "lies_on" (defArgs sLies) (defBody sLies) (defScope sLies) .none kV3 dc3 pm3 an3 cd3 ct3), sl3⟩)
    (c3 : PySem.W.codeIn K cd3 "lies_on" = true) (k3 : PySem.W.keepIn K (.ref f3) = true)
    (a4 : PySem.W.nsIn K mainGlobals "gap_counts" = some (some (.ref f4)))
    (l4 : K.lookup f4 = some ⟨oc4, od4, .func (PySem.W.fnOf "gap_counts" "gap_counts" (defArgs sGcs) (defBody sGcs) (defScope sGcs) .none kV4 dc4 pm4 an4 cd4 ct4), sl4⟩)
    (c4 : PySem.W.codeIn K cd4 "gap_counts" = true) (k4 : PySem.W.keepIn K (.ref f4) = true)
    (a5 : PySem.W.nsIn K mainGlobals "gap_count" = some (some (.ref f5)))
    (l5 : K.lookup f5 = some ⟨oc5, od5, .func (PySem.W.fnOf "gap_count" "gap_count" (defArgs sGc) (defBody sGc) (defScope sGc) .none kV5 dc5 pm5 an5 cd5 ct5), sl5⟩)
    (c5 : PySem.W.codeIn K cd5 "gap_count" = true) (k5 : PySem.W.keepIn K (.ref f5) = true)
    (a6 : PySem.W.nsIn K mainGlobals "marks_of" = some (some (.ref f6)))
    (l6 : K.lookup f6 = some ⟨oc6, od6, .func (PySem.W.fnOf "marks_of" "marks_of" (defArgs sMark) (defBody sMark) (defScope sMark) .none kV6 dc6 pm6 an6 cd6 ct6), sl6⟩)
    (c6 : PySem.W.codeIn K cd6 "marks_of" = true) (k6 : PySem.W.keepIn K (.ref f6) = true)
    (a7 : PySem.W.nsIn K mainGlobals "turned" = some (some (.ref f7)))
    (l7 : K.lookup f7 = some ⟨oc7, od7, .func (PySem.W.fnOf "turned" "turned" (defArgs sTurn) (defBody sTurn) (defScope sTurn) .none kV7 dc7 pm7 an7 cd7 ct7), sl7⟩)
    (c7 : PySem.W.codeIn K cd7 "turned" = true) (k7 : PySem.W.keepIn K (.ref f7) = true)
    (a8 : PySem.W.nsIn K mainGlobals "mirrored" = some (some (.ref f8)))
    (l8 : K.lookup f8 = some ⟨oc8, od8, .func (PySem.W.fnOf "mirrored" "mirrored" (defArgs sMir) (defBody sMir) (defScope sMir) .none kV8 dc8 pm8 an8 cd8 ct8), sl8⟩)
    (c8 : PySem.W.codeIn K cd8 "mirrored" = true) (k8 : PySem.W.keepIn K (.ref f8) = true)
    (a9 : PySem.W.nsIn K mainGlobals "all_turned" = some (some (.ref f9)))
    (l9 : K.lookup f9 = some ⟨oc9, od9, .func (PySem.W.fnOf "all_turned" "all_turned" (defArgs sAll) (defBody sAll) (defScope sAll) .none kV9 dc9 pm9 an9 cd9 ct9), sl9⟩)
    (c9 : PySem.W.codeIn K cd9 "all_turned" = true) (k9 : PySem.W.keepIn K (.ref f9) = true)
    (n1 : PySem.W.nsIn K mainGlobals "MOST_PLACES" = some (some (.int 128 t1)))
    (n2 : PySem.W.nsIn K mainGlobals "NOT_IN_RANGE" = some (some (.int (-2) t2)))
    (n3 : PySem.W.nsIn K mainGlobals "NOT_SUCH_A_SET" = some (some (.int (-3) t3)))
    (z1 : PySem.W.nsIn K mainGlobals "all" = some none)
    (z2 : PySem.W.nsIn K mainGlobals "sum" = some none)
    (z3 : PySem.W.nsIn K mainGlobals "len" = some none)
    (z4 : PySem.W.nsIn K mainGlobals "sorted" = some none)
    (z5 : PySem.W.nsIn K mainGlobals "range" = some none)
    : ∃ fd : FuncData,
      (∀ (s : Shared) (us : List Value), us.length = (["n", "a", "b"] : List Str).length → BindsTo s fd ⟨us, []⟩ ((["n", "a", "b"] : List Str).zip us)) ∧
      ∀ base : Heap, K.In base → base.Ns mainGlobals mg → FnOk P w K mg base CX0 3 fa fd ["n", "a", "b"] (spAlike K) := by
  have e := hfa.symm.trans (PySem.W.mg_of X G a1)
  cases e
  have F1 := fun_mk (st := sAlike) l1 c1 k1
  have F2 := fun_mk (st := sCirc) l2 c2 k2
  have b2 := F2.binds (ps := ["n"]) fun _ _ _ _ _ _ us hl => match us, hl with | [_], _ => rfl
  have F3 := fun_mk (st := sLies) l3 c3 k3
  have b3 := F3.binds (ps := ["n", "places"]) fun _ _ _ _ _ _ us hl => match us, hl with | [_, _], _ => rfl
  have F4 := fun_mk (st := sGcs) l4 c4 k4
  have b4 := F4.binds (ps := ["n", "places"]) fun _ _ _ _ _ _ us hl => match us, hl with | [_, _], _ => rfl
  have F5 := fun_mk (st := sGc) l5 c5 k5
  have b5 := F5.binds (ps := ["places", "marks", "d"]) fun _ _ _ _ _ _ us hl => match us, hl with | [_, _, _], _ => rfl
  have F6 := fun_mk (st := sMark) l6 c6 k6
  have b6 := F6.binds (ps := ["n", "places"]) fun _ _ _ _ _ _ us hl => match us, hl with | [_, _], _ => rfl
  have F7 := fun_mk (st := sTurn) l7 c7 k7
  have b7 := F7.binds (ps := ["n", "places", "r"]) fun _ _ _ _ _ _ us hl => match us, hl with | [_, _, _], _ => rfl
  have F8 := fun_mk (st := sMir) l8 c8 k8
  have b8 := F8.binds (ps := ["n", "places"]) fun _ _ _ _ _ _ us hl => match us, hl with | [_, _], _ => rfl
  have F9 := fun_mk (st := sAll) l9 c9 k9
  have b9 := F9.binds (ps := ["n", "places"]) fun _ _ _ _ _ _ us hl => match us, hl with | [_, _], _ => rfl
  exact ⟨PySem.W.fnOf "alike" "alike" (defArgs sAlike) (defBody sAlike) (defScope sAlike) .none kV1 dc1 pm1 an1 cd1 ct1,
    fun s us hu => match us, hu with | [_, _, _], _ => .of_eq rfl,
    fun base _ _ => ok_alike F1 F2 b2 (PySem.W.mg_of X G a2) F3 b3 (PySem.W.mg_of X G a3) F4 b4 (PySem.W.mg_of X G a4) F5 b5 (PySem.W.mg_of X G a5) F6 b6 (PySem.W.mg_of X G a6) F7 b7 (PySem.W.mg_of X G a7) F8 b8 (PySem.W.mg_of X G a8) F9 b9 (PySem.W.mg_of X G a9) (PySem.W.mg_of X G n1) (PySem.W.mg_of X G n2) (PySem.W.mg_of X G n3) (PySem.W.mg_none_of X G z1) (PySem.W.mg_none_of X G z2) (PySem.W.mg_none_of X G z3) (PySem.W.mg_none_of X G z4) (PySem.W.mg_none_of X G z5)⟩
end Cn
open PySem PySem.W PyProof.Rows
set_option maxRecDepth 100000 in
set_option maxHeartbeats 0 in
theorem PySem.Challenge.cw_circlenotes_s06_alike_holds : PySem.Challenge.rw_circlenotes_s06_alike.Holds := by
  w_on; k_headS; (case hw => exact ⟨[.int 0, .list [], .list []], by decide +kernel, by decide +kernel⟩)
  k_fillS
  refine L2.walk_specK (r := PySem.Challenge.rw_circlenotes_s06_alike) (k := 3) (CX := L2.CX0) (ps := ["n", "a", "b"]) (sp := Cn.spAlike) (by decide +kernel) rfl rfl ⟨rfl, by decide, by decide⟩ (fun w h Y => PySem.W.kIn_of Y) ?F ?S (fun _ _ _ _ z => z)
  case F =>
    intro w mg fa h Y KX G hmg
    refine' Cn.all_mk KX G hmg ?a1 ?l1 ?c1 ?k1 ?a2 ?l2 ?c2 ?k2 ?a3 ?l3 ?c3 ?k3 ?a4 ?l4 ?c4 ?k4 ?a5 ?l5 ?c5 ?k5 ?a6 ?l6 ?c6 ?k6 ?a7 ?l7 ?c7 ?k7 ?a8 ?l8 ?c8 ?k8 ?a9 ?l9 ?c9 ?k9 ?n1 ?n2 ?n3 ?z1 ?z2 ?z3 ?z4 ?z5
    (case a1 => k_is); (case l1 => k_is); (case c1 => k_is); (case k1 => k_is)
    (case a2 => k_is); (case l2 => k_is); (case c2 => k_is); (case k2 => k_is)
    (case a3 => k_is); (case l3 => k_is); (case c3 => k_is); (case k3 => k_is)
    (case a4 => k_is); (case l4 => k_is); (case c4 => k_is); (case k4 => k_is)
    (case a5 => k_is); (case l5 => k_is); (case c5 => k_is); (case k5 => k_is)
    (case a6 => k_is); (case l6 => k_is); (case c6 => k_is); (case k6 => k_is)
    (case a7 => k_is); (case l7 => k_is); (case c7 => k_is); (case k7 => k_is)
    (case a8 => k_is); (case l8 => k_is); (case c8 => k_is); (case k8 => k_is)
    (case a9 => k_is); (case l9 => k_is); (case c9 => k_is); (case k9 => k_is)
    (case n1 => k_is); (case n2 => k_is); (case n3 => k_is); (case z1 => k_is)
    (case z2 => k_is); (case z3 => k_is); (case z4 => k_is); (case z5 => k_is)
  case S =>
    intro K H xs a hO hwi hask hx
    obtain ⟨n, ns, ms, u⟩ := a
    cases hx with
    | cons h1 h2 =>
      cases h2 with
      | cons h3 h4 =>
        cases h4 with
        | cons h5 h6 =>
          cases h6
          cases h1
          cases h3 with
          | lst hs ha =>
            cases h5 with
            | lst hs2 ha2 =>
              have e := L2.ints_dw ns _ ha
              subst e
              have e2 := L2.ints_dw ms _ ha2
              subst e2
              have q : (Codec.inInt 0 4294967295 n && ((Codec.inLen 0 128 ns && ns.all (Codec.inInt 0 127)) && ((Codec.inLen 0 128 ms && ms.all (Codec.inInt 0 127)) && true))) = true := hwi
              rw [Bool.and_eq_true, Bool.and_eq_true, Bool.and_eq_true, Bool.and_eq_true, Bool.and_eq_true] at q
              have b0 := (Codec.inInt_iff.mp q.1).1
              have bl := (Codec.inNat_iff.mp q.2.1.1).2
              have bl2 := (Codec.inNat_iff.mp q.2.2.1.1).2
              have bx : ∀ x ∈ ns, 0 ≤ x := fun x hx => (Codec.inInt_iff.mp (List.all_eq_true.mp q.2.1.2 x hx)).1
              have by2 : ∀ x ∈ ms, 0 ≤ x := fun x hx => (Codec.inInt_iff.mp (List.all_eq_true.mp q.2.2.1.2 x hx)).1
              have hk : (Sh15Neutral.natural n 32 && (Sh15Neutral.set ns && Sh15Neutral.set ms)) = true := hask
              rw [Bool.and_eq_true, Bool.and_eq_true] at hk
              refine ⟨n, _, _, ns, ms, rfl, hs, hs2, by omega, by omega, bx, by2, Cn.asc_set hk.2.1, fun H' p hp => ?_⟩
              rw [Cn.alikeM_spec b0 bx by2] at hp
              exact .lst (L2.SqL.of hp) (L2.dw_ints _)
#print axioms PySem.Challenge.cw_circlenotes_s06_alike_holds
