import PyProof.Rows.All
import Wide.All
import OpenK.AllK
import Wide.FinOn
import Open.SpecLaws
import KE.OsHead
import KE.OsGo
import HandS.ForSpec
import HandS.Comp
import PySem.Challenge.RW_circlenotes_s04_even
set_option Elab.async false
set_option linter.all false
set_option maxRecDepth 100000
/-! Helpers over the hand layer: heaps that only grow, comprehensions that only make. -/
namespace Cn
open PySem PySem.Spec PyProof.Rows L2
/-! ### heaps -/
theorem sameUp {H H4 : Hp} {p : Addr} {o : HO} (s : Same H H4) (h : H p = none) : Same H (upd H4 p o) := fun b x e => by
  rw [upd_ne (ne_of_none e h)]
  exact s b x e
theorem sameNew {H : Hp} {p : Addr} {o : HO} (h : H p = none) : Same H (upd H p o) := sameUp (Same.refl H) h
/-! ### comprehensions that only make -/
theorem mapRangeSucc {A : Type} (f : Nat → A) (i : Nat) : (List.range i).map f ++ [f i] = (List.range (i + 1)).map f := by
  rw [List.range_succ, List.map_append]
  rfl
/-- what a comprehension over J asks, its list at D -/
def LcGoal (J : It) (j : Nat) (te : TE) (vs : List Nat) (s0 : L2.St) (H1 : Hp) (Qd : Addr → Hp → Prop) : Prop :=
  ∀ D, H1 D = none →
    ∃ W : Nat → Nat → Hp → Prop,
      (∃ m, W 0 m (upd H1 D (.lst []))) ∧
      ∀ i m H, W i m H →
        (J.stop i H ∧ Qd D H) ∨
        (J.go i H ∧
          ∃ Nx : Hp → Prop,
            (∀ H', Nx H' → ∃ m', m' < m ∧ W (i + 1) m' H') ∧
            ∀ x H', J.yld i H x H' →
              gName j x (wipe s0 vs) H' fun s2 H2 =>
                wipe s2 vs = wipe s0 vs ∧
                tYes s2 H2 fun b H3 =>
                  if b = true then
                    te s2 H3 fun y H4 => ∃ acc, H4 D = some (.lst acc) ∧ acc.length < sizeLine ∧ Nx (upd H4 D (.lst (acc ++ [y])))
                  else Nx H3)
theorem lcL {K : PySem.W.Frag} {a : Addr} {xs : List V} {j : Nat} {te : TE} {vs : List Nat} {s0 : L2.St} {H1 : Hp} {Qd : Addr → Hp → Prop} (f : Nat → V)
    (hS : SqL K H1 a xs) (hl : xs.length ≤ 1000) (hw : ∀ x, wipe ((wipe s0 vs).set j (some x)) vs = wipe s0 vs)
    (hs : ∀ i x H, xs[i]? = some x → Same H1 H → ∀ Q' : V → Hp → Prop, (∀ H4, Same H H4 → Q' (f i) H4) → te ((wipe s0 vs).set j (some x)) H Q')
    (hd : ∀ D H, H1 D = none → Same H1 H → H D = some (.lst ((List.range xs.length).map f)) → Qd D H) :
    LcGoal (Itl K a) j te vs s0 H1 Qd := fun D hD =>
  lc_list (K := K) (a := a) (xs := xs) (fun i H => Same H1 H ∧ H D = some (.lst ((List.range i).map f)))
    ⟨sameNew hD, upd_same⟩ (fun i H _ q => q.1.seq hS)
    (fun i x H hx q => ⟨hw x, (hs i x H hx q.1 _ fun H4 s4 => ⟨_, s4 _ _ q.2, by
      rw [List.length_map, List.length_range]
      have h : i < xs.length := by
        rcases Nat.lt_or_ge i xs.length with h | h
        · exact h
        · rw [List.getElem?_eq_none h] at hx
          cases hx
      exact small1000 (by omega), sameUp (q.1.trans s4) hD, by rw [upd_same, mapRangeSucc]⟩)⟩)
    (fun H q => hd D H hD q.1 q.2)
theorem lcR {n : Nat} {lo : Int} {j : Nat} {te : TE} {vs : List Nat} {s0 : L2.St} {H1 : Hp} {Qd : Addr → Hp → Prop} (f : Nat → V)
    (hl : n ≤ 1000) (hw : ∀ x, wipe ((wipe s0 vs).set j (some x)) vs = wipe s0 vs)
    (hs : ∀ (i : Nat) H, i < n → Same H1 H → ∀ Q' : V → Hp → Prop, (∀ H4, Same H H4 → Q' (f i) H4) → te ((wipe s0 vs).set j (some (.int (lo + i)))) H Q')
    (hd : ∀ D H, H1 D = none → Same H1 H → H D = some (.lst ((List.range n).map f)) → Qd D H) :
    LcGoal (Itr lo n) j te vs s0 H1 Qd := fun D hD =>
  lc_range (lo := lo) (n := n) (fun i H => Same H1 H ∧ H D = some (.lst ((List.range i).map f)))
    ⟨sameNew hD, upd_same⟩
    (fun i H hi q => ⟨hw _, (hs i H hi q.1 _ fun H4 s4 => ⟨_, s4 _ _ q.2, by
      rw [List.length_map, List.length_range]
      exact small1000 (by omega), sameUp (q.1.trans s4) hD, by rw [upd_same, mapRangeSucc]⟩)⟩)
    (fun H q => hd D H hD q.1 q.2)
/-- a comprehension over a range whose items are new lists of whole numbers -/
theorem lcRr {n : Nat} {lo : Int} {j : Nat} {te : TE} {vs : List Nat} {s0 : L2.St} {H1 : Hp} {Qd : Addr → Hp → Prop} (L : Nat → List Int)
    (hl : n ≤ 1000) (hw : ∀ x, wipe ((wipe s0 vs).set j (some x)) vs = wipe s0 vs)
    (hs : ∀ (i : Nat) H, i < n → Same H1 H → ∀ Q' : V → Hp → Prop, (∀ H4 q, Same H H4 → H q = none → H4 q = some (.lst ((L i).map V.int)) → Q' (.ref q) H4) → te ((wipe s0 vs).set j (some (.int (lo + i)))) H Q')
    (hd : ∀ D H (ps : List Addr), H1 D = none → Same H1 H → H D = some (.lst (ps.map V.ref)) → ps.length = n → (∀ i q, ps[i]? = some q → H q = some (.lst ((L i).map V.int))) → Qd D H) :
    LcGoal (Itr lo n) j te vs s0 H1 Qd := fun D hD =>
  lc_range (lo := lo) (n := n) (fun i H => ∃ ps : List Addr, Same H1 H ∧ H D = some (.lst (ps.map V.ref)) ∧ ps.length = i ∧ ∀ k q, ps[k]? = some q → q ≠ D ∧ H q = some (.lst ((L k).map V.int)))
    ⟨[], sameNew hD, upd_same, rfl, fun k q e => by simp at e⟩
    (fun i H hi ⟨ps, sm, eD, el, ep⟩ => ⟨hw _, (hs i H hi sm _ fun H4 q s4 hq eq => ⟨_, s4 _ _ eD, by
      rw [List.length_map, el]
      exact small1000 (by omega), ps ++ [q], sameUp (sm.trans s4) hD, by rw [upd_same, List.map_append]; rfl, by rw [List.length_append, el]; rfl, fun k p e => by
        have nD : q ≠ D := fun z => by
          rw [z, eD] at hq
          cases hq
        rcases Nat.lt_or_ge k ps.length with h | h
        · rw [List.getElem?_append_left h] at e
          obtain ⟨n1, n2⟩ := ep k p e
          exact ⟨n1, by rw [upd_ne n1]; exact s4 _ _ n2⟩
        · rw [List.getElem?_append_right h] at e
          have hk : k = ps.length := by
            have := (List.getElem?_eq_some_iff.mp e).1
            simp at this
            omega
          subst hk
          rw [Nat.sub_self] at e
          obtain rfl : q = p := Option.some.inj e
          exact ⟨nD, by rw [upd_ne nD, el]; exact eq⟩⟩)⟩)
    (fun H ⟨ps, sm, eD, el, ep⟩ => hd D H ps hD sm eD el fun i q e => (ep i q e).2)
/-- len of a list, its frame named -/
def rLenS (K : PySem.W.Frag) : List V → Hp → (V → Hp → Prop) → Prop := fun xs H Q =>
  ∃ p ys, xs = [.ref p] ∧
    (SqL K H p ys ∨ SqT K H p ys) ∧ Q (.int ys.length) H
theorem rangeGet {A B : Type} (xs : List A) (g : A → B) (d : A) : (List.range xs.length).map (fun i => g (xs.getD i d)) = xs.map g := by
  apply List.ext_getElem
  · simp
  · intro i h1 h2
    simp at h1 h2
    simp [h1]
theorem getDof {A : Type} {xs : List A} {i : Nat} {x d : A} (h : xs[i]? = some x) : xs.getD i d = x := by
  rw [List.getD_eq_getElem?_getD, h]
  rfl
theorem atGet {A : Type} {xs : List A} {i : Nat} {d : A} (h : i < xs.length) : xs[i]? = some (xs.getD i d) := by
  rw [List.getD_eq_getElem?_getD, List.getElem?_eq_getElem h]
  rfl
theorem intAt {ns : List Int} {i : Nat} {x : V} (h : (ns.map V.int)[i]? = some x) : x = .int (ns.getD i 0) ∧ i < ns.length := by
  rw [List.getElem?_map] at h
  cases e : ns[i]? with
  | none =>
    rw [e] at h
    cases h
  | some z =>
    rw [e] at h
    refine ⟨?_, (List.getElem?_eq_some_iff.mp e).1⟩
    rw [getDof e]
    exact (Option.some.inj h).symm
end Cn

set_option linter.all false
namespace Cn
/-! ### the mathematics of gaps -/
def circ (n : Int) : Bool := decide (1 ≤ n) && decide (n ≤ 128)
def liesOn (n : Int) (ns : List Int) : Bool := (ns.map fun x => decide (x < n)).all id
def marksL (n : Nat) (ns : List Int) : List Int := (List.range n).map fun (i : Nat) => if (i : Int) ∈ ns then (1 : Int) else 0
def gapI (n : Int) (ns : List Int) (d : Nat) : Int := (ns.map fun x => (marksL n.toNat ns).getD ((x + d) % n).toNat 0).sum
def gapsL (n : Int) (ns : List Int) : List Int := (List.range n.toNat).map (gapI n ns)
def gapsM (n : Int) (ns : List Int) : List Int := if circ n = false then [-2] else if liesOn n ns = false then [-3] else (ns.length : Int) :: gapsL n ns
theorem marks_len (n : Nat) (ns : List Int) : (marksL n ns).length = n := by simp [marksL]
theorem marks_nil (n : Nat) : marksL n [] = List.replicate n 0 := by
  apply List.ext_getElem
  · simp [marksL]
  · intro i h1 h2
    simp [marksL]
theorem marks_snoc (n : Nat) (ns : List Int) (x : Int) (h0 : 0 ≤ x) : (marksL n ns).set x.toNat 1 = marksL n (ns ++ [x]) := by
  apply List.ext_getElem
  · simp [marksL]
  · intro i h1 h2
    rw [List.getElem_set]
    simp only [marksL, List.getElem_map, List.getElem_range, List.mem_append, List.mem_singleton]
    by_cases e : x.toNat = i
    · have : (i : Int) = x := by omega
      rw [if_pos e, if_pos (.inr this)]
    · have : ¬ (i : Int) = x := by omega
      rw [if_neg e]
      simp only [this, or_false]
theorem marks_get (n : Nat) (ns : List Int) (j : Nat) (h : j < n) : (marksL n ns).getD j 0 = if (j : Int) ∈ ns then 1 else 0 := by
  rw [List.getD_eq_getElem?_getD]
  simp [marksL, h]
theorem circ_among (n : Int) (h0 : 0 ≤ n) : Sh15.among n.toNat 1 128 = circ n := by
  unfold Sh15.among circ
  congr 1
  · exact decide_eq_decide.mpr (by omega)
  · exact decide_eq_decide.mpr (by omega)
theorem lies_isIn (n : Int) (h0 : 0 ≤ n) : ∀ ns : List Int, (∀ x ∈ ns, 0 ≤ x) → Sh15.isIn n.toNat (Sh15Neutral.nats ns) = liesOn n ns
  | [], _ => rfl
  | x :: r, h => by
    have ih := lies_isIn n h0 r fun y hy => h y (List.mem_cons_of_mem _ hy)
    have hx := h x List.mem_cons_self
    show (decide (x.toNat < n.toNat) && Sh15.isIn n.toNat (Sh15Neutral.nats r)) = (decide (x < n) && liesOn n r)
    rw [ih]
    congr 1
    exact decide_eq_decide.mpr (by omega)
theorem lies_all {n : Int} {ns : List Int} (h : liesOn n ns = true) : ∀ x ∈ ns, x < n := by
  intro x hx
  unfold liesOn at h
  rw [List.all_eq_true] at h
  exact of_decide_eq_true (h _ (List.mem_map_of_mem hx))
theorem sum_ind {A : Type} (p : A → Bool) : ∀ l : List A, (l.map fun x => if p x = true then (1 : Int) else 0).sum = ((l.filter p).length : Int)
  | [] => rfl
  | x :: r => by
    rw [List.map_cons, List.sum_cons, sum_ind p r]
    cases e : p x with
    | true => rw [List.filter_cons_of_pos e]; simp; omega
    | false => rw [List.filter_cons_of_neg (by rw [e]; exact Bool.false_ne_true)]; simp
theorem mem_nats {ns : List Int} (hb : ∀ x ∈ ns, 0 ≤ x) (j : Nat) : (Sh15Neutral.nats ns).contains j = decide ((j : Int) ∈ ns) := by
  rw [Bool.eq_iff_iff, List.contains_iff_mem, decide_eq_true_iff]
  unfold Sh15Neutral.nats
  rw [List.mem_map]
  constructor
  · rintro ⟨z, hz, e⟩
    have := hb z hz
    have e2 : (j : Int) = z := by omega
    rw [e2]
    exact hz
  · intro h
    exact ⟨_, h, by simp⟩
theorem gapI_spec (n : Int) (hn : 1 ≤ n) (ns : List Int) (hb : ∀ x ∈ ns, 0 ≤ x) (d : Nat) : gapI n ns d = ((Sh15.gap n.toNat (Sh15Neutral.nats ns) d : Nat) : Int) := by
  unfold gapI Sh15.gap
  rw [← sum_ind]
  have key : ∀ l : List Int, (∀ x ∈ l, 0 ≤ x) → (l.map fun x => (marksL n.toNat ns).getD ((x + d) % n).toNat 0) = (Sh15Neutral.nats l).map fun x => if (Sh15Neutral.nats ns).contains ((x + d) % n.toNat) = true then (1 : Int) else 0 := by
    intro l hl
    unfold Sh15Neutral.nats
    rw [List.map_map]
    apply List.map_congr_left
    intro x hx
    have h0 := hl x hx
    have e : ((x + d) % n).toNat = (x.toNat + d) % n.toNat := by
      have : (x + d) % n = (((x.toNat + d) % n.toNat : Nat) : Int) := by
        rw [Int.natCast_emod]
        congr 1 <;> omega
      omega
    have hlt : (x.toNat + d) % n.toNat < n.toNat := Nat.mod_lt _ (by omega)
    rw [e, marks_get _ _ _ hlt]
    show _ = if (Sh15Neutral.nats ns).contains ((x.toNat + d) % n.toNat) = true then (1 : Int) else 0
    rw [mem_nats hb]
    simp only [decide_eq_true_iff]
  rw [key ns hb]
theorem gapsL_spec (n : Int) (hn : 1 ≤ n) (ns : List Int) (hb : ∀ x ∈ ns, 0 ≤ x) : gapsL n ns = (Sh15.gaps n.toNat (Sh15Neutral.nats ns)).map fun (x : Nat) => (x : Int) := by
  unfold gapsL Sh15.gaps
  rw [List.map_map]
  apply List.map_congr_left
  intro d _
  exact gapI_spec n hn ns hb d
theorem gapsM_spec (n : Int) (h0 : 0 ≤ n) (ns : List Int) (hb : ∀ x ∈ ns, 0 ≤ x) : gapsM n ns = PySh15.gaps n ns := by
  have e : PySh15.gaps n ns = (let a := (if Sh15.among n.toNat 1 128 = false then Sh15.ok (-2) else if Sh15.isIn n.toNat (Sh15Neutral.nats ns) = false then Sh15.ok (-3) else ⟨((Sh15Neutral.nats ns).length : Nat), (Sh15.gaps n.toNat (Sh15Neutral.nats ns)).map (fun (x : Nat) => (x : Int)), []⟩); a.v :: (a.l ++ Sh15Neutral.ints a.a)) := rfl
  rw [e, circ_among n h0, lies_isIn n h0 ns hb]
  unfold gapsM
  cases c : circ n with
  | false => rfl
  | true =>
    cases l : liesOn n ns with
    | false => rfl
    | true =>
      have hn : 1 ≤ n := by
        unfold circ at c
        rw [Bool.and_eq_true] at c
        exact of_decide_eq_true c.1
      show (ns.length : Int) :: gapsL n ns = ((Sh15Neutral.nats ns).length : Int) :: (_ ++ [])
      rw [gapsL_spec n hn ns hb, List.append_nil]
      unfold Sh15Neutral.nats
      rw [List.length_map]
      rfl
end Cn

set_option linter.all false
namespace Cn
/-! ### sets as ascending lists -/
structure Good (n : Int) (ns : List Int) : Prop where
  asc : ns.Pairwise (· < ·)
  bnd : ∀ x ∈ ns, 0 ≤ x ∧ x < n
theorem asc_ext : ∀ {l m : List Int}, l.Pairwise (· < ·) → m.Pairwise (· < ·) → (∀ x, x ∈ l ↔ x ∈ m) → l = m
  | [], [], _, _, _ => rfl
  | [], y :: m, _, _, h => absurd ((h y).mpr List.mem_cons_self) (by simp)
  | x :: l, [], _, _, h => absurd ((h x).mp List.mem_cons_self) (by simp)
  | x :: l, y :: m, hl, hm, h => by
    rw [List.pairwise_cons] at hl hm
    have e : x = y := by
      rcases List.mem_cons.mp ((h x).mp List.mem_cons_self) with e | e
      · exact e
      · rcases List.mem_cons.mp ((h y).mpr List.mem_cons_self) with e2 | e2
        · exact e2.symm
        · have a1 := hm.1 x e
          have a2 := hl.1 y e2
          omega
    subst e
    refine congrArg (List.cons x) (asc_ext hl.2 hm.2 fun z => ⟨fun hz => ?_, fun hz => ?_⟩)
    · rcases List.mem_cons.mp ((h z).mp (List.mem_cons_of_mem _ hz)) with e | e
      · have := hl.1 z hz
        omega
      · exact e
    · rcases List.mem_cons.mp ((h z).mpr (List.mem_cons_of_mem _ hz)) with e | e
      · have := hm.1 z hz
        omega
      · exact e
theorem asc_of {l : List Int} (h : l.Pairwise (· ≤ ·)) (nd : l.Nodup) : l.Pairwise (· < ·) := by
  have := h.and nd
  exact this.imp fun ⟨a, b⟩ => by omega
theorem mem_ints {l : List Nat} {x : Int} : x ∈ Sh15Neutral.ints l ↔ 0 ≤ x ∧ x.toNat ∈ l := by
  unfold Sh15Neutral.ints
  rw [List.mem_map]
  constructor
  · rintro ⟨k, hk, rfl⟩
    exact ⟨by omega, by simpa using hk⟩
  · rintro ⟨h0, h⟩
    exact ⟨_, h, by omega⟩
theorem mem_nats_iff {ns : List Int} (hb : ∀ x ∈ ns, 0 ≤ x) {j : Nat} : j ∈ Sh15Neutral.nats ns ↔ (j : Int) ∈ ns := by
  have := mem_nats hb j
  rw [Bool.eq_iff_iff, List.contains_iff_mem, decide_eq_true_iff] at this
  exact this
theorem ints_nats : ∀ {ns : List Int}, (∀ x ∈ ns, 0 ≤ x) → Sh15Neutral.ints (Sh15Neutral.nats ns) = ns
  | [], _ => rfl
  | x :: r, h => by
    show ((x.toNat : Nat) : Int) :: Sh15Neutral.ints (Sh15Neutral.nats r) = x :: r
    rw [ints_nats fun y hy => h y (List.mem_cons_of_mem _ hy), Int.toNat_of_nonneg (h x List.mem_cons_self)]
theorem nats_ints : ∀ (l : List Nat), Sh15Neutral.nats (Sh15Neutral.ints l) = l
  | [] => rfl
  | x :: r => by
    show ((x : Nat) : Int).toNat :: Sh15Neutral.nats (Sh15Neutral.ints r) = x :: r
    rw [nats_ints r, Int.toNat_natCast]
theorem mem_places {n : Nat} {f : Nat → Bool} {x : Nat} : x ∈ Sh15.places n f ↔ x < n ∧ f x = true := by
  unfold Sh15.places
  rw [List.mem_filter, List.mem_range]
theorem good_places (n : Nat) (f : Nat → Bool) : Good (n : Int) (Sh15Neutral.ints (Sh15.places n f)) where
  asc := by
    unfold Sh15Neutral.ints Sh15.places
    rw [List.pairwise_map]
    refine (List.Pairwise.filter _ List.pairwise_lt_range).imp fun h => ?_
    omega
  bnd := fun x hx => by
    rw [mem_ints, mem_places] at hx
    omega
theorem asc_zip : ∀ l : List Int, (l.zip (l.drop 1)).all (fun (x : Int × Int) => decide (x.1 < x.2)) = true → l.Pairwise (· < ·)
  | [], _ => List.Pairwise.nil
  | [x], _ => List.pairwise_singleton _ _
  | x :: y :: r, h => by
    have h2 : (decide (x < y) && ((y :: r).zip ((y :: r).drop 1)).all fun (x : Int × Int) => decide (x.1 < x.2)) = true := h
    rw [Bool.and_eq_true] at h2
    have ih := asc_zip (y :: r) h2.2
    have hxy := of_decide_eq_true h2.1
    rw [List.pairwise_cons]
    refine ⟨fun z hz => ?_, ih⟩
    rw [List.pairwise_cons] at ih
    rcases List.mem_cons.mp hz with rfl | hz
    · exact hxy
    · have := ih.1 z hz
      omega
theorem asc_set {l : List Int} (h : Sh15Neutral.set l = true) : l.Pairwise (· < ·) := by
  unfold Sh15Neutral.set at h
  rw [Bool.and_eq_true] at h
  exact asc_zip l h.2
theorem asc_len {hi : Int} : ∀ (l : List Int) (lo : Int), l.Pairwise (· < ·) → (∀ x ∈ l, lo ≤ x ∧ x < hi) → lo ≤ hi → (l.length : Int) ≤ hi - lo
  | [], lo, _, _, h => by
    show (0 : Int) ≤ hi - lo
    omega
  | x :: r, lo, ha, hb, h => by
    rw [List.pairwise_cons] at ha
    have hx := hb x List.mem_cons_self
    have := asc_len r (x + 1) ha.2 (fun y hy => ⟨ha.1 y hy, (hb y (List.mem_cons_of_mem _ hy)).2⟩) (by omega)
    rw [List.length_cons]
    omega
theorem len_good {n : Int} (hn : n ≤ 128) {ns : List Int} (g : Good n ns) : ns.length ≤ 1000 := by
  rcases Int.lt_or_le n 0 with h | h
  · cases ns with
    | nil => exact Nat.zero_le _
    | cons x r =>
      have := g.bnd x List.mem_cons_self
      omega
  · have := asc_len ns 0 g.asc g.bnd h
    omega
/-! ### turned, mirrored -/
def turnL (n : Int) (ns : List Int) (r : Int) : List Int := Sh15Neutral.ints (Sh15.turned n.toNat r.toNat (Sh15Neutral.nats ns))
def mirL (n : Int) (ns : List Int) : List Int := Sh15Neutral.ints (Sh15.mirrored n.toNat (Sh15Neutral.nats ns))
theorem good_turn {n : Int} (h0 : 0 ≤ n) (ns : List Int) (r : Int) : Good n (turnL n ns r) := by
  have := good_places n.toNat fun i => (Sh15Neutral.nats ns).any fun x => (x + r.toNat) % n.toNat == i
  rw [Int.toNat_of_nonneg h0] at this
  exact this
theorem good_mir {n : Int} (h0 : 0 ≤ n) (ns : List Int) : Good n (mirL n ns) := by
  have := good_places n.toNat fun i => (Sh15Neutral.nats ns).any fun x => (n.toNat - x % n.toNat) % n.toNat == i
  rw [Int.toNat_of_nonneg h0] at this
  exact this
theorem Good.nonneg {n : Int} {ns : List Int} (g : Good n ns) : ∀ x ∈ ns, 0 ≤ x := fun x hx => (g.bnd x hx).1
theorem mem_turn {n : Int} (hn : 1 ≤ n) {ns : List Int} (hb : ∀ x ∈ ns, 0 ≤ x) {r : Int} (hr : 0 ≤ r) {x : Int} : x ∈ turnL n ns r ↔ ∃ z ∈ ns, (z + r) % n = x := by
  unfold turnL
  rw [mem_ints]
  show 0 ≤ x ∧ x.toNat ∈ Sh15.places _ _ ↔ _
  rw [mem_places, List.any_eq_true]
  have key : ∀ z : Nat, ((z : Int) + r) % n = (((z + r.toNat) % n.toNat : Nat) : Int) := fun z => by
    rw [Int.natCast_emod]
    congr 1 <;> omega
  constructor
  · rintro ⟨h0, hlt, z, hz, he⟩
    rw [mem_nats_iff hb] at hz
    refine ⟨(z : Int), hz, ?_⟩
    have := of_decide_eq_true (show decide ((z + r.toNat) % n.toNat = x.toNat) = true from he)
    rw [key, this]
    omega
  · rintro ⟨z, hz, rfl⟩
    have hz0 := hb z hz
    have g0 := Int.emod_nonneg (z + r) (show n ≠ 0 by omega)
    have g1 := Int.emod_lt_of_pos (z + r) (show 0 < n by omega)
    refine ⟨g0, by omega, z.toNat, ?_, ?_⟩
    · rw [mem_nats_iff hb, Int.toNat_of_nonneg hz0]
      exact hz
    · refine decide_eq_true (p := (z.toNat + r.toNat) % n.toNat = ((z + r) % n).toNat) ?_
      have := key z.toNat
      rw [Int.toNat_of_nonneg hz0] at this
      omega
theorem mem_mir {n : Int} (hn : 1 ≤ n) {ns : List Int} (g : Good n ns) {x : Int} : x ∈ mirL n ns ↔ ∃ z ∈ ns, (n - z) % n = x := by
  unfold mirL
  rw [mem_ints]
  show 0 ≤ x ∧ x.toNat ∈ Sh15.places _ _ ↔ _
  rw [mem_places, List.any_eq_true]
  have key : ∀ z : Nat, (z : Int) < n → (n - (z : Int)) % n = (((n.toNat - z % n.toNat) % n.toNat : Nat) : Int) := fun z hz => by
    rw [Nat.mod_eq_of_lt (show z < n.toNat by omega), Int.natCast_emod]
    congr 1 <;> omega
  constructor
  · rintro ⟨h0, hlt, z, hz, he⟩
    rw [mem_nats_iff g.nonneg] at hz
    refine ⟨(z : Int), hz, ?_⟩
    have := of_decide_eq_true (show decide ((n.toNat - z % n.toNat) % n.toNat = x.toNat) = true from he)
    rw [key z (g.bnd _ hz).2, this]
    omega
  · rintro ⟨z, hz, rfl⟩
    have hz0 := g.bnd z hz
    have g0 := Int.emod_nonneg (n - z) (show n ≠ 0 by omega)
    have g1 := Int.emod_lt_of_pos (n - z) (show 0 < n by omega)
    refine ⟨g0, by omega, z.toNat, ?_, ?_⟩
    · rw [mem_nats_iff g.nonneg, Int.toNat_of_nonneg hz0.1]
      exact hz
    · refine decide_eq_true (p := (n.toNat - z.toNat % n.toNat) % n.toNat = ((n - z) % n).toNat) ?_
      have := key z.toNat (by omega)
      rw [Int.toNat_of_nonneg hz0.1] at this
      omega
theorem nodup_map_on {f : Int → Int} : ∀ {l : List Int}, l.Nodup → (∀ x ∈ l, ∀ y ∈ l, f x = f y → x = y) → (l.map f).Nodup
  | [], _, _ => List.nodup_nil
  | x :: r, h, hf => by
    rw [List.nodup_cons] at h
    rw [List.map_cons, List.nodup_cons]
    refine ⟨fun hm => ?_, nodup_map_on h.2 fun a ha b hb => hf a (List.mem_cons_of_mem _ ha) b (List.mem_cons_of_mem _ hb)⟩
    obtain ⟨y, hy, e⟩ := List.mem_map.mp hm
    have := hf y (List.mem_cons_of_mem _ hy) x List.mem_cons_self e
    subst this
    exact h.1 hy
theorem Good.nodup {n : Int} {ns : List Int} (g : Good n ns) : ns.Nodup := g.asc.imp fun h => by omega
theorem emod_inj {n a b : Int} (hn : 1 ≤ n) (h : a % n = b % n) (h1 : a - b < n) (h2 : b - a < n) : a = b := by
  have e : (a - b) % n = 0 := Int.emod_eq_emod_iff_emod_sub_eq_zero.mp h
  obtain ⟨k, hk⟩ := Int.dvd_of_emod_eq_zero e
  rcases Int.lt_trichotomy k 0 with h3 | h3 | h3
  · have : n * k ≤ n * (-1) := Int.mul_le_mul_of_nonneg_left (by omega) (by omega)
    omega
  · subst h3
    omega
  · have : n * 1 ≤ n * k := Int.mul_le_mul_of_nonneg_left (by omega) (by omega)
    omega
theorem turn_sorted {n : Int} (hn : 1 ≤ n) {ns : List Int} (g : Good n ns) {r : Int} (hr : 0 ≤ r) {ns' : List Int} (hp : ns'.Perm (ns.map fun x => (x + r) % n)) (hs : ns'.Pairwise (· ≤ ·)) : ns' = turnL n ns r := by
  have nd : (ns.map fun x => (x + r) % n).Nodup := nodup_map_on g.nodup fun x hx y hy e => by
    have a1 := g.bnd x hx
    have a2 := g.bnd y hy
    have := emod_inj hn e (by omega) (by omega)
    omega
  refine asc_ext (asc_of hs (hp.nodup_iff.mpr nd)) (good_turn (by omega) ns r).asc fun x => ?_
  rw [hp.mem_iff, mem_turn hn g.nonneg hr, List.mem_map]
theorem mir_sorted {n : Int} (hn : 1 ≤ n) {ns : List Int} (g : Good n ns) {ns' : List Int} (hp : ns'.Perm (ns.map fun x => (n - x) % n)) (hs : ns'.Pairwise (· ≤ ·)) : ns' = mirL n ns := by
  have nd : (ns.map fun x => (n - x) % n).Nodup := nodup_map_on g.nodup fun x hx y hy e => by
    have a1 := g.bnd x hx
    have a2 := g.bnd y hy
    have := emod_inj hn e (by omega) (by omega)
    omega
  refine asc_ext (asc_of hs (hp.nodup_iff.mpr nd)) (good_mir (by omega) ns).asc fun x => ?_
  rw [hp.mem_iff, mem_mir hn g, List.mem_map]
theorem turn_zero {n : Int} (hn : 1 ≤ n) {ns : List Int} (g : Good n ns) : turnL n ns 0 = ns := by
  refine asc_ext (good_turn (by omega) ns 0).asc g.asc fun x => ?_
  rw [mem_turn hn g.nonneg (Int.le_refl 0)]
  constructor
  · rintro ⟨z, hz, rfl⟩
    have := g.bnd z hz
    rw [Int.add_zero, Int.emod_eq_of_lt this.1 this.2]
    exact hz
  · intro hx
    have := g.bnd x hx
    exact ⟨x, hx, by rw [Int.add_zero, Int.emod_eq_of_lt this.1 this.2]⟩
/-! ### numbers of sets -/
def numL (ns : List Int) : Int := (ns.map fun x => (1 : Int) * 2 ^ x.toNat).sum
theorem numL_dvd (k : Nat) : ∀ l : List Int, (∀ x ∈ l, (k : Int) ≤ x) → (2 : Int) ^ k ∣ numL l
  | [], _ => ⟨0, by simp [numL]⟩
  | x :: r, h => by
    obtain ⟨c, hc⟩ := numL_dvd k r fun y hy => h y (List.mem_cons_of_mem _ hy)
    have hx := h x List.mem_cons_self
    have e : numL (x :: r) = 1 * 2 ^ x.toNat + numL r := by simp [numL]
    have e2 : x.toNat = k + (x.toNat - k) := by omega
    refine ⟨2 ^ (x.toNat - k) + c, ?_⟩
    rw [e, hc, e2, Int.pow_add, Int.mul_add, Int.one_mul]
    have e3 : k + (x.toNat - k) - k = x.toNat - k := by omega
    rw [e3]
theorem numL_nonneg : ∀ l : List Int, 0 ≤ numL l
  | [] => by simp [numL]
  | x :: r => by
    have := numL_nonneg r
    have e : numL (x :: r) = 1 * 2 ^ x.toNat + numL r := by simp [numL]
    have : (0 : Int) < 2 ^ x.toNat := Int.pow_pos (by decide)
    omega
theorem numL_inj : ∀ {l m : List Int}, l.Pairwise (· < ·) → m.Pairwise (· < ·) → (∀ x ∈ l, 0 ≤ x) → (∀ x ∈ m, 0 ≤ x) → numL l = numL m → l = m
  | [], [], _, _, _, _, _ => rfl
  | [], y :: m, _, _, _, _, h => by
    have e : numL (y :: m) = 1 * 2 ^ y.toNat + numL m := by simp [numL]
    have := numL_nonneg m
    have : (0 : Int) < 2 ^ y.toNat := Int.pow_pos (by decide)
    have e0 : numL [] = 0 := rfl
    omega
  | x :: l, [], _, _, _, _, h => by
    have e : numL (x :: l) = 1 * 2 ^ x.toNat + numL l := by simp [numL]
    have := numL_nonneg l
    have : (0 : Int) < 2 ^ x.toNat := Int.pow_pos (by decide)
    have e0 : numL [] = 0 := rfl
    omega
  | x :: l, y :: m, hl, hm, bl, bm, h => by
    rw [List.pairwise_cons] at hl hm
    have hx := bl x List.mem_cons_self
    have hy := bm y List.mem_cons_self
    have ex : numL (x :: l) = 1 * 2 ^ x.toNat + numL l := by simp [numL]
    have ey : numL (y :: m) = 1 * 2 ^ y.toNat + numL m := by simp [numL]
    have bl' : ∀ z ∈ l, 0 ≤ z := fun z hz => bl z (List.mem_cons_of_mem _ hz)
    have bm' : ∀ z ∈ m, 0 ≤ z := fun z hz => bm z (List.mem_cons_of_mem _ hz)
    -- an odd multiple of a lesser power is no multiple of the next
    have odd : ∀ (k : Nat) (a b : Int), (2 : Int) ^ (k + 1) ∣ a → (2 : Int) ^ (k + 1) ∣ b → ¬ 1 * 2 ^ k + a = b := by
      rintro k a b ⟨c, rfl⟩ ⟨d, rfl⟩ e
      have hp : (0 : Int) < 2 ^ k := Int.pow_pos (by decide)
      rw [Int.pow_succ, Int.one_mul, Int.mul_assoc, Int.mul_assoc] at e
      have e2 : (2 : Int) ^ k * (1 + 2 * c) = 2 ^ k * (2 * d) := by
        rw [Int.mul_add, Int.mul_one]
        exact e
      have := Int.eq_of_mul_eq_mul_left (by omega) e2
      omega
    rcases Int.lt_trichotomy x y with hlt | rfl | hgt
    · refine absurd h ?_
      rw [ex]
      refine odd x.toNat _ _ (numL_dvd _ _ fun z hz => ?_) (numL_dvd _ _ fun z hz => ?_)
      · have := hl.1 z hz
        omega
      · rcases List.mem_cons.mp hz with rfl | hz
        · omega
        · have := hm.1 z hz
          omega
    · have : numL l = numL m := by omega
      rw [numL_inj hl.2 hm.2 bl' bm' this]
    · refine absurd h.symm ?_
      rw [ey]
      refine odd y.toNat _ _ (numL_dvd _ _ fun z hz => ?_) (numL_dvd _ _ fun z hz => ?_)
      · have := hm.1 z hz
        omega
      · rcases List.mem_cons.mp hz with rfl | hz
        · omega
        · have := hl.1 z hz
          omega
theorem numL_ints : ∀ l : List Nat, numL (Sh15Neutral.ints l) = ((Sh15.number l : Nat) : Int)
  | [] => rfl
  | x :: r => by
    have ih := numL_ints r
    have e1 : numL (Sh15Neutral.ints (x :: r)) = 1 * 2 ^ x + numL (Sh15Neutral.ints r) := by simp [numL, Sh15Neutral.ints]
    have e2 : Sh15.number (x :: r) = 2 ^ x + Sh15.number r := by simp [Sh15.number]
    rw [e1, e2, ih]
    push_cast
    omega
end Cn

set_option linter.all false
namespace Cn
/-! ### the mathematics of even -/
def okEven (n k m : Int) : Bool := circ n && ((decide (1 ≤ k) && decide (k ≤ n)) && decide (m < n))
def evenI (n k m : Int) (j : Nat) : Int := (n * (j : Int) + m) / k % n
def evenL (n k m : Int) : List Int := (List.range k.toNat).map (evenI n k m)
def evenM (n k m : Int) : List Int := if okEven n k m = false then [-2] else 0 :: evenL n k m
theorem evenI_nat (n k m j : Nat) : evenI (n : Int) (k : Int) (m : Int) j = (((n * j + m) / k % n : Nat) : Int) := by
  unfold evenI
  rw [Int.natCast_emod, Int.natCast_ediv]
  push_cast
  rfl
theorem even_lt {n k m j : Nat} (hk : 1 ≤ k) (hm : m < n) (hj : j < k) : (n * j + m) / k < n := by
  rw [Nat.div_lt_iff_lt_mul (by omega)]
  have : n * (j + 1) ≤ n * k := Nat.mul_le_mul_left n hj
  rw [Nat.mul_add, Nat.mul_one] at this
  omega
theorem even_step {n k m : Nat} (hk : 1 ≤ k) (hn : k ≤ n) {i j : Nat} (h : i < j) : (n * i + m) / k < (n * j + m) / k := by
  have h1 : n * (i + 1) ≤ n * j := Nat.mul_le_mul_left n h
  rw [Nat.mul_add, Nat.mul_one] at h1
  have h2 : (n * i + m + k) / k ≤ (n * j + m) / k := Nat.div_le_div_right (by omega)
  rw [Nat.add_div_right _ (by omega)] at h2
  omega
theorem even_asc {n k m : Nat} (hk : 1 ≤ k) (hn : k ≤ n) (hm : m < n) : (evenL (n : Int) (k : Int) (m : Int)).Pairwise (· < ·) := by
  unfold evenL
  rw [List.pairwise_map]
  rw [List.pairwise_iff_getElem]
  intro i j hi hj hij
  rw [List.length_range, Int.toNat_natCast] at hi hj
  rw [List.getElem_range, List.getElem_range]
  rw [evenI_nat, evenI_nat, Nat.mod_eq_of_lt (even_lt hk hm hi), Nat.mod_eq_of_lt (even_lt hk hm hj)]
  have := even_step (m := m) hk hn hij
  omega
theorem evenL_spec {n k m : Nat} (hk : 1 ≤ k) (hn : k ≤ n) (hm : m < n) : evenL (n : Int) (k : Int) (m : Int) = Sh15Neutral.ints (Sh15.even n k m) := by
  refine asc_ext (even_asc hk hn hm) (good_places n _).asc fun x => ?_
  unfold Sh15.even
  rw [mem_ints, mem_places, List.any_eq_true]
  unfold evenL
  rw [List.mem_map]
  constructor
  · rintro ⟨j, hj, rfl⟩
    rw [evenI_nat]
    refine ⟨by omega, ?_, j, ?_, ?_⟩
    · rw [Int.toNat_natCast]
      exact Nat.mod_lt _ (by omega)
    · rw [Int.toNat_natCast] at hj
      exact hj
    · rw [Int.toNat_natCast]
      exact beq_self_eq_true _
  · rintro ⟨h0, h1, j, hj, e⟩
    refine ⟨j, by rw [Int.toNat_natCast]; exact hj, ?_⟩
    rw [evenI_nat, beq_iff_eq.mp e]
    omega
theorem ok_even_spec {n k m : Int} (h0 : 0 ≤ n) (hk : 0 ≤ k) (hm : 0 ≤ m) : (Sh15.among n.toNat 1 128 && (Sh15.among k.toNat 1 n.toNat && decide (m.toNat < n.toNat))) = okEven n k m := by
  unfold okEven
  rw [circ_among n h0]
  congr 1
  unfold Sh15.among
  congr 1
  · congr 1
    · exact decide_eq_decide.mpr (by omega)
    · exact decide_eq_decide.mpr (by omega)
  · exact decide_eq_decide.mpr (by omega)
theorem evenM_spec {n k m : Int} (h0 : 0 ≤ n) (hk : 0 ≤ k) (hm : 0 ≤ m) : evenM n k m = PySh15.even n k m := by
  have e : PySh15.even n k m = (let a := (if (Sh15.among n.toNat 1 128 && (Sh15.among k.toNat 1 n.toNat && decide (m.toNat < n.toNat))) = false then Sh15.ok (-2) else ⟨0, [], Sh15.even n.toNat k.toNat m.toNat⟩); a.v :: (a.l ++ Sh15Neutral.ints a.a)) := rfl
  rw [e, ok_even_spec h0 hk hm]
  unfold evenM
  cases c : okEven n k m with
  | false => rfl
  | true =>
    unfold okEven at c
    rw [Bool.and_eq_true, Bool.and_eq_true, Bool.and_eq_true] at c
    have c1 := of_decide_eq_true c.2.1.1
    have c2 := of_decide_eq_true c.2.1.2
    have c3 := of_decide_eq_true c.2.2
    show 0 :: evenL n k m = 0 :: ([] ++ Sh15Neutral.ints (Sh15.even n.toNat k.toNat m.toNat))
    obtain ⟨n', rfl⟩ := Int.eq_ofNat_of_zero_le h0
    obtain ⟨k', rfl⟩ := Int.eq_ofNat_of_zero_le hk
    obtain ⟨m', rfl⟩ := Int.eq_ofNat_of_zero_le hm
    rw [evenL_spec (by omega) (by omega) (by omega)]
    rfl
end Cn

namespace Cn
open PySem PySem.Spec PyProof.Rows L2
/-! ### the text -/
def topS (i : Nat) : Stmt := PySem.Challenge.pw_circlenotes_s04_even.main.body.getD i (.Pass ⟨0, 0, 0, 0⟩)
abbrev sEven : Stmt := topS 3
abbrev sCirc : Stmt := topS 4
theorem scEven : FnScope ["n", "k", "m", "j"] ["n", "k", "m"] (defScope sEven) := ⟨rfl, rfl, rfl, by decide +kernel, rfl, by decide +kernel, by decide +kernel⟩
theorem scCirc : FnScope ["n"] ["n"] (defScope sCirc) := ⟨rfl, rfl, rfl, by decide +kernel, rfl, by decide +kernel, by decide +kernel⟩
end Cn

namespace Cn
open PySem PySem.Spec PyProof.Rows L2
section
variable {P : Program} {w : World} {K : PySem.W.Frag} {mg : Str → Option Value} {base : Heap}
/-! ### is_circle -/
def spCirc : Sp := fun vs H Q _ => ∃ n : Int, vs = [.int n] ∧ Q (.bl (circ n)) H
theorem ok_circ {f : Addr} {fd : FuncData} {k : Nat} {t : Tok} (F : Fun K "is_circle" "is_circle" sCirc f fd) (mM : mg "MOST_PLACES" = some (.int 128 t)) : FnOk P w K mg base CX0 (k + 1) f fd ["n"] spCirc := by
  refine F.ok scCirc (fun vs H Q E h => ?_) (fun cdv A outer s H vs Q E hr h => ?_)
  · obtain ⟨n, rfl, _⟩ := h
    rfl
  · obtain ⟨n, rfl, q⟩ := h
    refine ⟨_, pss_one (ps_ret (pe_chain op_le op_le pe_int (pv 0) (pe_glob (v := .int 128) rfl mM ⟨_, rfl⟩))), ?_⟩
    refine ⟨.int n, rfl, 1, n, rfl, rfl, decide (1 ≤ n), rfl, ?_⟩
    unfold circ at q
    refine ite2 (fun e => ?_) (fun e => ?_)
    · rw [e] at q
      exact ⟨n, 128, rfl, rfl, q⟩
    · rw [Bool.eq_false_iff.mpr e] at q
      exact q
end
end Cn

namespace Cn
open PySem PySem.Spec PyProof.Rows L2
section
variable {P : Program} {w : World} {K : PySem.W.Frag} {mg : Str → Option Value} {base : Heap}
/-! ### even -/
theorem evenL_len (n k m : Int) : (evenL n k m).length = k.toNat := by
  unfold evenL
  rw [List.length_map, List.length_range]
def spEven (K : PySem.W.Frag) : Sp := fun vs H Q _ => ∃ (n k m : Int), vs = [.int n, .int k, .int m] ∧ 0 ≤ n ∧ 0 ≤ k ∧ 0 ≤ m ∧
  ∀ H' p, H' p = some (.lst ((evenM n k m).map V.int)) → Q (.ref p) H'
theorem ok_even {f f1 : Addr} {fd fd1 : FuncData} {t1 t2 : Tok} (F : Fun K "even" "even" sEven f fd)
    (FC : Fun K "is_circle" "is_circle" sCirc f1 fd1) (bC : Binds K fd1 ["n"] []) (gC : mg "is_circle" = some (.ref f1))
    (c1 : mg "MOST_PLACES" = some (.int 128 t1)) (c2 : mg "NOT_IN_RANGE" = some (.int (-2) t2))
    (mR : mg "range" = none) : FnOk P w K mg base CX0 2 f fd ["n", "k", "m"] (spEven K) := by
  have GC : FnOk P w K mg base CX0 1 f1 fd1 ["n"] spCirc := ok_circ FC c1
  refine F.ok scEven (fun vs H Q E h => ?_) (fun cdv A outer s H vs Q E hr h => ?_)
  · obtain ⟨n, k, m, rfl, _⟩ := h
    rfl
  · obtain ⟨n, k, m, rfl, h0, hk0, hm0, q⟩ := h
    refine ⟨_, pss_cons (ps_if (PW.pt (pw_or (pt_not (pt_val (pe_call GC hr (by rfl) gC FC.kp bC .nil pass0 (pa_cons (pv 0) pa_nil))))
          (pw_or (pt_not (pt_chain op_le op_le pe_int (pv 1) (pv 0))) (pw_or1 (pt_cmpR op_ge (pv 2) (pv 0) (nomark _))))))
        (pss_one (ps_ret (pe_lst (pa_cons (pe_glob (v := .int (-2)) rfl c2 ⟨_, rfl⟩) pa_nil)))) pss_nil)
      (pss_one (ps_ret (pe_op op_cat (pe_lst (pa_cons pe_int pa_nil))
        (pe_lc (own := [("j", 3)]) (g := gName 3) (tt := tYes) rfl scEven.nd (pi_range1 rfl mR (pa_cons (pv 1) pa_nil)) (blkOk_by (N := ["n", "k", "m", "j"]) (sc := defScope sEven) (by decide +kernel))
        (fun _ _ _ _ _ => pg_name (i := 3) scEven.nd rfl (Or.inl rfl)) (fun _ _ _ _ _ => pts_nil)
        (fun _ _ _ _ _ => pe_op op_mod (pe_op op_fdiv (pe_op op_add (pe_op op_mul (pv 0) (pv 3)) (pv 2)) (pv 1)) (pv 0)))))), ?_⟩
    have bad : okEven n k m = false → ∀ H' p, H' p = some (.lst [V.int (-2)]) → Q (.ref p) H' := fun e H' p hp => q H' p (by unfold evenM; rw [e]; exact hp)
    refine ⟨.int n, rfl, n, rfl, circ n, rfl, ?_⟩
    cases c : circ n with
    | false =>
      have e : okEven n k m = false := by unfold okEven; rw [c]; rfl
      exact iteT (iteT ⟨(by show 1 ≤ sizeLine; decide), fun p hp => bad e _ p upd_same⟩)
    | true =>
      refine iteF ⟨.int k, rfl, 1, k, rfl, rfl, decide (1 ≤ k), rfl, ?_⟩
      have hn : 1 ≤ n ∧ n ≤ 128 := by
        unfold circ at c
        rw [Bool.and_eq_true] at c
        exact ⟨of_decide_eq_true c.1, of_decide_eq_true c.2⟩
      refine ite2 (fun e1 => ?_) (fun e1 => ?_)
      · refine ⟨.int n, rfl, k, n, rfl, rfl, decide (k ≤ n), rfl, ?_⟩
        cases d : decide (k ≤ n) with
        | false =>
          have e : okEven n k m = false := by unfold okEven; rw [d, Bool.and_false, Bool.false_and, Bool.and_false]
          exact iteT (iteT ⟨(by show 1 ≤ sizeLine; decide), fun p hp => bad e _ p upd_same⟩)
        | true =>
          refine iteF ⟨.int m, rfl, .int n, rfl, m, n, rfl, rfl, decide (n ≤ m), rfl, ?_⟩
          refine ite2 (fun e3 => ?_) (fun e3 => ?_)
          · have h3 := of_decide_eq_true e3
            have e : okEven n k m = false := by unfold okEven; rw [decide_eq_false (show ¬ m < n by omega), Bool.and_false, Bool.and_false]
            exact ⟨(by show 1 ≤ sizeLine; decide), fun p hp => bad e _ p upd_same⟩
          · have h3 : m < n := by
              have := of_decide_eq_false (Bool.eq_false_iff.mpr e3)
              omega
            have h1 := of_decide_eq_true e1
            have h2 := of_decide_eq_true d
            have e : okEven n k m = true := by unfold okEven; rw [c, e1, d, decide_eq_true h3]; rfl
            unfold evenM at q
            rw [e] at q
            refine ⟨(by show 1 ≤ sizeLine; decide), fun z hz => ?_⟩
            refine ⟨.int k, rfl, k, rfl, by omega, by omega, lcR (n := k.toNat) (lo := 0) (fun i => .int (evenI n k m i)) (by omega) (fun _ => rfl) (fun i H2 hi s2 Q' hq => ?_) (fun D H2 hD s2 eD => ?_)⟩
            · refine ⟨.int n, rfl, .int (0 + (i : Int)), rfl, n, _, rfl, rfl, .inl ⟨by omega, by omega⟩, .int m, rfl, _, m, rfl, rfl, .int k, rfl, _, k, rfl, rfl, ⟨by omega, by omega⟩, .int n, rfl, _, n, rfl, rfl, by omega, ?_⟩
              rw [Int.zero_add]
              exact hq _ (Same.refl _)
            · refine ⟨z, D, _, _, rfl, rfl, s2 _ _ upd_same, eD, ?_, fun r hr2 => q _ r ?_⟩
              · show 1 + ((List.range k.toNat).map _).length ≤ sizeLine
                rw [List.length_map, List.length_range]
                exact Nat.le_of_lt (small1000 (by omega))
              · rw [upd_same]
                show _ = some (HO.lst (V.int 0 :: (evenL n k m).map V.int))
                unfold evenL
                rw [List.map_map]
                rfl
      · have e : okEven n k m = false := by unfold okEven; rw [Bool.eq_false_iff.mpr e1]; simp
        exact ⟨false, rfl, iteT (iteT ⟨(by show 1 ≤ sizeLine; decide), fun p hp => bad e _ p upd_same⟩)⟩
end
end Cn

namespace Cn
open PySem PySem.Spec PyProof.Rows L2
/-! ### what the top has written -/
theorem all_mk {P : Program} {w : World} {K : PySem.W.Frag} {h : Heap} {mg : Str → Option Value} {fa f1 f2 : Addr} (X : K.In h) (G : h.Ns mainGlobals mg) (hfa : mg "even" = some (.ref fa))
    {od1 an1 od2 an2 : Option Addr} {sl1 sl2 : Array (Option Value)} {oc1 kV1 dc1 pm1 cd1 ct1 oc2 kV2 dc2 pm2 cd2 ct2 : Value} {t1 t2 : Tok}
    (a1 : PySem.W.nsIn K mainGlobals "even" = some (some (.ref f1)))
    (l1 : K.lookup f1 = some ⟨oc1, od1, .func (PySem.W.fnOf "even" "even" (defArgs sEven) (defBody sEven) (defScope sEven) .none kV1 dc1 pm1 an1 cd1 ct1), sl1⟩)
    (c1 : PySem.W.codeIn K cd1 "even" = true) (k1 : PySem.W.keepIn K (.ref f1) = true)
    (a2 : PySem.W.nsIn K mainGlobals "is_circle" = some (some (.ref f2)))
    (l2 : K.lookup f2 = some ⟨oc2, od2, .func (PySem.W.fnOf "is_circle" "is_circle" (defArgs sCirc) (defBody sCirc) (defScope sCirc) .none kV2 dc2 pm2 an2 cd2 ct2), sl2⟩)
    (c2 : PySem.W.codeIn K cd2 "is_circle" = true) (k2 : PySem.W.keepIn K (.ref f2) = true)
    (n1 : PySem.W.nsIn K mainGlobals "MOST_PLACES" = some (some (.int 128 t1)))
    (n2 : PySem.W.nsIn K mainGlobals "NOT_IN_RANGE" = some (some (.int (-2) t2)))
    (z1 : PySem.W.nsIn K mainGlobals "range" = some none)
    : ∃ fd : FuncData,
      (∀ (s : Shared) (us : List Value), us.length = (["n", "k", "m"] : List Str).length → BindsTo s fd ⟨us, []⟩ ((["n", "k", "m"] : List Str).zip us)) ∧
      ∀ base : Heap, K.In base → base.Ns mainGlobals mg → FnOk P w K mg base CX0 2 fa fd ["n", "k", "m"] (spEven K) := by
  have e := hfa.symm.trans (PySem.W.mg_of X G a1)
  cases e
  have F1 := fun_mk (st := sEven) l1 c1 k1
  have F2 := fun_mk (st := sCirc) l2 c2 k2
  have b2 := F2.binds (ps := ["n"]) fun _ _ _ _ _ _ us hl => match us, hl with | [_], _ => rfl
  exact ⟨PySem.W.fnOf "even" "even" (defArgs sEven) (defBody sEven) (defScope sEven) .none kV1 dc1 pm1 an1 cd1 ct1,
    fun s us hu => match us, hu with | [_, _, _], _ => .of_eq rfl,
    fun base _ _ => ok_even F1 F2 b2 (PySem.W.mg_of X G a2) (PySem.W.mg_of X G n1) (PySem.W.mg_of X G n2) (PySem.W.mg_none_of X G z1)⟩
end Cn
open PySem PySem.W PyProof.Rows
set_option maxRecDepth 100000 in
set_option maxHeartbeats 0 in
theorem PySem.Challenge.cw_circlenotes_s04_even_holds : PySem.Challenge.rw_circlenotes_s04_even.Holds := by
  w_on; k_headS; (case hw => exact ⟨[.int 0, .int 0, .int 0], by decide +kernel, by decide +kernel⟩)
  k_fillS
  refine L2.walk_specK (r := PySem.Challenge.rw_circlenotes_s04_even) (k := 2) (CX := L2.CX0) (ps := ["n", "k", "m"]) (sp := Cn.spEven) (by decide +kernel) rfl rfl ⟨rfl, by decide, by decide⟩ (fun w h Y => PySem.W.kIn_of Y) ?F ?S (fun _ _ _ _ z => z)
  case F =>
    intro w mg fa h Y KX G hmg
    refine' Cn.all_mk KX G hmg ?a1 ?l1 ?c1 ?k1 ?a2 ?l2 ?c2 ?k2 ?n1 ?n2 ?z1
    (case a1 => k_is); (case l1 => k_is); (case c1 => k_is); (case k1 => k_is)
    (case a2 => k_is); (case l2 => k_is); (case c2 => k_is); (case k2 => k_is)
    (case n1 => k_is); (case n2 => k_is); (case z1 => k_is)
  case S =>
    intro K H xs a hO hwi hask hx
    obtain ⟨n, k, m, u⟩ := a
    cases hx with
    | cons h1 h2 =>
      cases h2 with
      | cons h3 h4 =>
        cases h4 with
        | cons h5 h6 =>
          cases h6
          cases h1
          cases h3
          cases h5
          have q : (Codec.inInt 0 4294967295 n && (Codec.inInt 0 4294967295 k && (Codec.inInt 0 4294967295 m && true))) = true := hwi
          rw [Bool.and_eq_true, Bool.and_eq_true, Bool.and_eq_true] at q
          have b0 := (Codec.inInt_iff.mp q.1).1
          have b1 := (Codec.inInt_iff.mp q.2.1).1
          have b2 := (Codec.inInt_iff.mp q.2.2.1).1
          refine ⟨n, k, m, rfl, b0, b1, b2, fun H' p hp => ?_⟩
          rw [Cn.evenM_spec b0 b1 b2] at hp
          exact .lst (L2.SqL.of hp) (L2.dw_ints _)
#print axioms PySem.Challenge.cw_circlenotes_s04_even_holds
