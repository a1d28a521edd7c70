import PyProof.Rows.All
import Wide.All
import OpenK.AllK
import Wide.FinOn
import Open.SpecLaws
import KE.OsHead
import KE.OsGo
import HandS.ForSpec
import HandS.Comp
import PySem.Challenge.RW_circlenotes_s07_classes
set_option Elab.async false
set_option linter.all false
set_option maxRecDepth 100000
/-! Helpers over the hand layer: heaps that only grow, comprehensions that only make. -/
namespace Cn
open PySem PySem.Spec PyProof.Rows L2
/-! ### heaps -/
theorem sameUp {H H4 : Hp} {p : Addr} {o : HO} (s : Same H H4) (h : H p = none) : Same H (upd H4 p o) := fun b x e => by
  rw [upd_ne (ne_of_none e h)]
  exact s b x e
theorem sameNew {H : Hp} {p : Addr} {o : HO} (h : H p = none) : Same H (upd H p o) := sameUp (Same.refl H) h
/-! ### comprehensions that only make -/
theorem mapRangeSucc {A : Type} (f : Nat → A) (i : Nat) : (List.range i).map f ++ [f i] = (List.range (i + 1)).map f := by
  rw [List.range_succ, List.map_append]
  rfl
/-- what a comprehension over J asks, its list at D -/
def LcGoal (J : It) (j : Nat) (te : TE) (vs : List Nat) (s0 : L2.St) (H1 : Hp) (Qd : Addr → Hp → Prop) : Prop :=
  ∀ D, H1 D = none →
    ∃ W : Nat → Nat → Hp → Prop,
      (∃ m, W 0 m (upd H1 D (.lst []))) ∧
      ∀ i m H, W i m H →
        (J.stop i H ∧ Qd D H) ∨
        (J.go i H ∧
          ∃ Nx : Hp → Prop,
            (∀ H', Nx H' → ∃ m', m' < m ∧ W (i + 1) m' H') ∧
            ∀ x H', J.yld i H x H' →
              gName j x (wipe s0 vs) H' fun s2 H2 =>
                wipe s2 vs = wipe s0 vs ∧
                tYes s2 H2 fun b H3 =>
                  if b = true then
                    te s2 H3 fun y H4 => ∃ acc, H4 D = some (.lst acc) ∧ acc.length < sizeLine ∧ Nx (upd H4 D (.lst (acc ++ [y])))
                  else Nx H3)
theorem lcL {K : PySem.W.Frag} {a : Addr} {xs : List V} {j : Nat} {te : TE} {vs : List Nat} {s0 : L2.St} {H1 : Hp} {Qd : Addr → Hp → Prop} (f : Nat → V)
    (hS : SqL K H1 a xs) (hl : xs.length ≤ 1000) (hw : ∀ x, wipe ((wipe s0 vs).set j (some x)) vs = wipe s0 vs)
    (hs : ∀ i x H, xs[i]? = some x → Same H1 H → ∀ Q' : V → Hp → Prop, (∀ H4, Same H H4 → Q' (f i) H4) → te ((wipe s0 vs).set j (some x)) H Q')
    (hd : ∀ D H, H1 D = none → Same H1 H → H D = some (.lst ((List.range xs.length).map f)) → Qd D H) :
    LcGoal (Itl K a) j te vs s0 H1 Qd := fun D hD =>
  lc_list (K := K) (a := a) (xs := xs) (fun i H => Same H1 H ∧ H D = some (.lst ((List.range i).map f)))
    ⟨sameNew hD, upd_same⟩ (fun i H _ q => q.1.seq hS)
    (fun i x H hx q => ⟨hw x, (hs i x H hx q.1 _ fun H4 s4 => ⟨_, s4 _ _ q.2, by
      rw [List.length_map, List.length_range]
      have h : i < xs.length := by
        rcases Nat.lt_or_ge i xs.length with h | h
        · exact h
        · rw [List.getElem?_eq_none h] at hx
          cases hx
      exact small1000 (by omega), sameUp (q.1.trans s4) hD, by rw [upd_same, mapRangeSucc]⟩)⟩)
    (fun H q => hd D H hD q.1 q.2)
theorem lcR {n : Nat} {lo : Int} {j : Nat} {te : TE} {vs : List Nat} {s0 : L2.St} {H1 : Hp} {Qd : Addr → Hp → Prop} (f : Nat → V)
    (hl : n ≤ 1000) (hw : ∀ x, wipe ((wipe s0 vs).set j (some x)) vs = wipe s0 vs)
    (hs : ∀ (i : Nat) H, i < n → Same H1 H → ∀ Q' : V → Hp → Prop, (∀ H4, Same H H4 → Q' (f i) H4) → te ((wipe s0 vs).set j (some (.int (lo + i)))) H Q')
    (hd : ∀ D H, H1 D = none → Same H1 H → H D = some (.lst ((List.range n).map f)) → Qd D H) :
    LcGoal (Itr lo n) j te vs s0 H1 Qd := fun D hD =>
  lc_range (lo := lo) (n := n) (fun i H => Same H1 H ∧ H D = some (.lst ((List.range i).map f)))
    ⟨sameNew hD, upd_same⟩
    (fun i H hi q => ⟨hw _, (hs i H hi q.1 _ fun H4 s4 => ⟨_, s4 _ _ q.2, by
      rw [List.length_map, List.length_range]
      exact small1000 (by omega), sameUp (q.1.trans s4) hD, by rw [upd_same, mapRangeSucc]⟩)⟩)
    (fun H q => hd D H hD q.1 q.2)
/-- a comprehension over a range whose items are new lists of whole numbers -/
theorem lcRr {n : Nat} {lo : Int} {j : Nat} {te : TE} {vs : List Nat} {s0 : L2.St} {H1 : Hp} {Qd : Addr → Hp → Prop} (L : Nat → List Int)
    (hl : n ≤ 1000) (hw : ∀ x, wipe ((wipe s0 vs).set j (some x)) vs = wipe s0 vs)
    (hs : ∀ (i : Nat) H, i < n → Same H1 H → ∀ Q' : V → Hp → Prop, (∀ H4 q, Same H H4 → H q = none → H4 q = some (.lst ((L i).map V.int)) → Q' (.ref q) H4) → te ((wipe s0 vs).set j (some (.int (lo + i)))) H Q')
    (hd : ∀ D H (ps : List Addr), H1 D = none → Same H1 H → H D = some (.lst (ps.map V.ref)) → ps.length = n → (∀ i q, ps[i]? = some q → H q = some (.lst ((L i).map V.int))) → Qd D H) :
    LcGoal (Itr lo n) j te vs s0 H1 Qd := fun D hD =>
  lc_range (lo := lo) (n := n) (fun i H => ∃ ps : List Addr, Same H1 H ∧ H D = some (.lst (ps.map V.ref)) ∧ ps.length = i ∧ ∀ k q, ps[k]? = some q → q ≠ D ∧ H q = some (.lst ((L k).map V.int)))
    ⟨[], sameNew hD, upd_same, rfl, fun k q e => by simp at e⟩
    (fun i H hi ⟨ps, sm, eD, el, ep⟩ => ⟨hw _, (hs i H hi sm _ fun H4 q s4 hq eq => ⟨_, s4 _ _ eD, by
      rw [List.length_map, el]
      exact small1000 (by omega), ps ++ [q], sameUp (sm.trans s4) hD, by rw [upd_same, List.map_append]; rfl, by rw [List.length_append, el]; rfl, fun k p e => by
        have nD : q ≠ D := fun z => by
          rw [z, eD] at hq
          cases hq
        rcases Nat.lt_or_ge k ps.length with h | h
        · rw [List.getElem?_append_left h] at e
          obtain ⟨n1, n2⟩ := ep k p e
          exact ⟨n1, by rw [upd_ne n1]; exact s4 _ _ n2⟩
        · rw [List.getElem?_append_right h] at e
          have hk : k = ps.length := by
            have := (List.getElem?_eq_some_iff.mp e).1
            simp at this
            omega
          subst hk
          rw [Nat.sub_self] at e
          obtain rfl : q = p := Option.some.inj e
          exact ⟨nD, by rw [upd_ne nD, el]; exact eq⟩⟩)⟩)
    (fun H ⟨ps, sm, eD, el, ep⟩ => hd D H ps hD sm eD el fun i q e => (ep i q e).2)
/-- len of a list, its frame named -/
def rLenS (K : PySem.W.Frag) : List V → Hp → (V → Hp → Prop) → Prop := fun xs H Q =>
  ∃ p ys, xs = [.ref p] ∧
    (SqL K H p ys ∨ SqT K H p ys) ∧ Q (.int ys.length) H
theorem rangeGet {A B : Type} (xs : List A) (g : A → B) (d : A) : (List.range xs.length).map (fun i => g (xs.getD i d)) = xs.map g := by
  apply List.ext_getElem
  · simp
  · intro i h1 h2
    simp at h1 h2
    simp [h1]
theorem getDof {A : Type} {xs : List A} {i : Nat} {x d : A} (h : xs[i]? = some x) : xs.getD i d = x := by
  rw [List.getD_eq_getElem?_getD, h]
  rfl
theorem atGet {A : Type} {xs : List A} {i : Nat} {d : A} (h : i < xs.length) : xs[i]? = some (xs.getD i d) := by
  rw [List.getD_eq_getElem?_getD, List.getElem?_eq_getElem h]
  rfl
theorem intAt {ns : List Int} {i : Nat} {x : V} (h : (ns.map V.int)[i]? = some x) : x = .int (ns.getD i 0) ∧ i < ns.length := by
  rw [List.getElem?_map] at h
  cases e : ns[i]? with
  | none =>
    rw [e] at h
    cases h
  | some z =>
    rw [e] at h
    refine ⟨?_, (List.getElem?_eq_some_iff.mp e).1⟩
    rw [getDof e]
    exact (Option.some.inj h).symm
end Cn

set_option linter.all false
set_option maxRecDepth 100000
namespace Cn
/-! ### the mathematics of classes: the 66 small cases, reckoned by the kernel -/
def clsRow : Nat → List Nat
  | 1 => [1, 1]
  | 2 => [1, 1, 1]
  | 3 => [1, 1, 1, 1]
  | 4 => [1, 1, 2, 1, 1]
  | 5 => [1, 1, 2, 2, 1, 1]
  | 6 => [1, 1, 3, 4, 3, 1, 1]
  | 7 => [1, 1, 3, 5, 5, 3, 1, 1]
  | 8 => [1, 1, 4, 7, 10, 7, 4, 1, 1]
  | 9 => [1, 1, 4, 10, 14, 14, 10, 4, 1, 1]
  | 10 => [1, 1, 5, 12, 22, 26, 22, 12, 5, 1, 1]
  | _ => []
def clsOk (n : Nat) : Bool := (List.range (n + 1)).map (fun k => (Sh15Neutral.classesOf n k).length) == clsRow n
theorem cls1 : clsOk 1 = true := by decide +kernel
theorem cls2 : clsOk 2 = true := by decide +kernel
theorem cls3 : clsOk 3 = true := by decide +kernel
theorem cls4 : clsOk 4 = true := by decide +kernel
theorem cls5 : clsOk 5 = true := by decide +kernel
theorem cls6 : clsOk 6 = true := by decide +kernel
theorem cls7 : clsOk 7 = true := by decide +kernel
theorem cls8 : clsOk 8 = true := by decide +kernel
theorem cls9 : clsOk 9 = true := by decide +kernel
theorem cls10 : clsOk 10 = true := by decide +kernel
theorem cls_all {n : Nat} (h1 : 1 ≤ n) (h2 : n ≤ 10) : clsOk n = true := by
  match n, h1, h2 with
  | 1, _, _ => exact cls1
  | 2, _, _ => exact cls2
  | 3, _, _ => exact cls3
  | 4, _, _ => exact cls4
  | 5, _, _ => exact cls5
  | 6, _, _ => exact cls6
  | 7, _, _ => exact cls7
  | 8, _, _ => exact cls8
  | 9, _, _ => exact cls9
  | 10, _, _ => exact cls10
theorem classes_tab {n k : Nat} (h1 : 1 ≤ n) (h2 : n ≤ 10) (hk : k ≤ n) : (Sh15Neutral.classesOf n k).length = (clsRow n).getD k 0 := by
  have e := beq_iff_eq.mp (cls_all h1 h2)
  rw [← e, List.getD_eq_getElem?_getD, List.getElem?_map, List.getElem?_range (by omega)]
  rfl
theorem not_many {n k : Int} (h0 : 0 ≤ n) (hk : 0 ≤ k) (ha : PySh15.classes_asked n k = true) : n ≤ 10 ∨ 64 < n ∨ n < k := by
  have h : (Sh15Neutral.natural n 32 && (Sh15Neutral.natural k 32 && (decide (n ≤ 10) || (decide (64 < n) || decide (n < k))))) = true := ha
  rw [Bool.and_eq_true, Bool.and_eq_true, Bool.or_eq_true, Bool.or_eq_true] at h
  rcases h.2.2 with z | z | z
  · exact .inl (of_decide_eq_true z)
  · exact .inr (.inl (of_decide_eq_true z))
  · exact .inr (.inr (of_decide_eq_true z))
def okCls (n k : Int) : Bool := (decide (1 ≤ n) && decide (n ≤ 64)) && decide (k ≤ n)
def clsM (n k : Int) : List Int := if okCls n k = false then [-2] else [0, (((clsRow n.toNat).getD k.toNat 0 : Nat) : Int)]
theorem clsM_spec {n k : Int} (h0 : 0 ≤ n) (hk : 0 ≤ k) (ha : PySh15.classes_asked n k = true) : clsM n k = PySh15.classes n k := by
  have e : PySh15.classes n k = (let a := (if (Sh15.among n.toNat 1 64 && decide (k.toNat ≤ n.toNat)) = false then Sh15.ok (-2) else ⟨0, [((Sh15Neutral.classesOf n.toNat k.toNat).length : Int)], []⟩); a.v :: (a.l ++ Sh15Neutral.ints a.a)) := rfl
  have e2 : (Sh15.among n.toNat 1 64 && decide (k.toNat ≤ n.toNat)) = okCls n k := by
    unfold Sh15.among okCls
    congr 1
    · congr 1
      · exact decide_eq_decide.mpr (by omega)
      · exact decide_eq_decide.mpr (by omega)
    · exact decide_eq_decide.mpr (by omega)
  rw [e, e2]
  unfold clsM
  cases c : okCls n k with
  | false => rfl
  | true =>
    unfold okCls at c
    rw [Bool.and_eq_true, Bool.and_eq_true] at c
    have c1 := of_decide_eq_true c.1.1
    have c2 := of_decide_eq_true c.1.2
    have c3 := of_decide_eq_true c.2
    have hn : n ≤ 10 := by
      rcases not_many h0 hk ha with h | h | h
      · exact h
      · omega
      · omega
    show [0, (((clsRow n.toNat).getD k.toNat 0 : Nat) : Int)] = [0, ((Sh15Neutral.classesOf n.toNat k.toNat).length : Int)]
    rw [classes_tab (by omega) (by omega) (by omega)]
end Cn

set_option linter.all false
set_option maxRecDepth 100000
namespace Cn
/-! ### what the program reckons -/
def chooseI (s : Int) : Nat → Int
  | 0 => 1
  | t + 1 => chooseI s t * (s - t) / ((t : Int) + 1)
def ringI (n r : Int) : Int := n / (Int.gcd n r : Int)
def stayI (n k r : Int) : Int := if k % ringI n r ≠ 0 then 0 else chooseI (Int.gcd n r : Int) (k / ringI n r).toNat
def burnL (n k : Int) : List Int := (List.range n.toNat).map fun (r : Nat) => stayI n k r
def burnI (n k : Int) : Int := (burnL n k).sum / n
def burnOk : Bool := (List.range 10).all fun a => (List.range (a + 2)).all fun k => decide (burnI ((a + 1 : Nat) : Int) (k : Int) = (((clsRow (a + 1)).getD k 0 : Nat) : Int))
theorem burn_ok : burnOk = true := by decide +kernel
theorem burn_tab {n k : Int} (h1 : 1 ≤ n) (h2 : n ≤ 10) (hk : 0 ≤ k) (hk2 : k ≤ n) : burnI n k = (((clsRow n.toNat).getD k.toNat 0 : Nat) : Int) := by
  have h := burn_ok
  unfold burnOk at h
  rw [List.all_eq_true] at h
  have ha := h (n.toNat - 1) (by rw [List.mem_range]; omega)
  rw [List.all_eq_true] at ha
  have hb := of_decide_eq_true (ha k.toNat (by rw [List.mem_range]; omega))
  rw [show n.toNat - 1 + 1 = n.toNat by omega, Int.toNat_of_nonneg (by omega), Int.toNat_of_nonneg hk] at hb
  exact hb
theorem ring_pos {n r : Int} (hn : 1 ≤ n) : 0 < (Int.gcd n r : Int) ∧ (Int.gcd n r : Int) ≤ n ∧ 0 < ringI n r ∧ ringI n r ≤ n := by
  have hp : 0 < Int.gcd n r := Int.gcd_pos_of_ne_zero_left _ (by omega)
  have hd : (Int.gcd n r : Int) ∣ n := Int.gcd_dvd_left ..
  have hle := Int.le_of_dvd (by omega) hd
  refine ⟨by omega, hle, ?_, ?_⟩
  · unfold ringI
    have := Int.ediv_mul_cancel hd
    rcases Int.lt_or_le 0 (n / (Int.gcd n r : Int)) with h | h
    · exact h
    · have : n / (Int.gcd n r : Int) * (Int.gcd n r : Int) ≤ 0 := Int.mul_nonpos_of_nonpos_of_nonneg h (by omega)
      omega
  · unfold ringI
    exact Int.ediv_le_self _ (by omega)
theorem gcd_step {d r : Int} (hd : 0 ≤ d) (hr : 0 ≤ r) : Int.gcd r (d % r) = Int.gcd d r := by
  obtain ⟨a, rfl⟩ := Int.eq_ofNat_of_zero_le hd
  obtain ⟨b, rfl⟩ := Int.eq_ofNat_of_zero_le hr
  have e : ((a : Int) % (b : Int)) = ((a % b : Nat) : Int) := (Int.natCast_emod a b).symm
  rw [e]
  show Nat.gcd b (a % b) = Nat.gcd a b
  rw [Nat.gcd_comm b, ← Nat.gcd_rec, Nat.gcd_comm]
def clsP (n k : Int) : List Int := if okCls n k = false then [-2] else [0, burnI n k]
theorem clsP_spec {n k : Int} (h0 : 0 ≤ n) (hk : 0 ≤ k) (ha : PySh15.classes_asked n k = true) : clsP n k = PySh15.classes n k := by
  rw [← clsM_spec h0 hk ha]
  unfold clsP clsM
  cases c : okCls n k with
  | false => rfl
  | true =>
    unfold okCls at c
    rw [Bool.and_eq_true, Bool.and_eq_true] at c
    have c1 := of_decide_eq_true c.1.1
    have c2 := of_decide_eq_true c.1.2
    have c3 := of_decide_eq_true c.2
    have hn : n ≤ 10 := by
      rcases not_many h0 hk ha with h | h | h
      · exact h
      · omega
      · omega
    show [0, burnI n k] = [0, (((clsRow n.toNat).getD k.toNat 0 : Nat) : Int)]
    rw [burn_tab c1 hn hk c3]
end Cn

namespace Cn
open PySem PySem.Spec PyProof.Rows L2
/-! ### the text -/
def topS (i : Nat) : Stmt := PySem.Challenge.pw_circlenotes_s07_classes.main.body.getD i (.Pass ⟨0, 0, 0, 0⟩)
abbrev sCls : Stmt := topS 3
abbrev sStay : Stmt := topS 4
abbrev sGcd : Stmt := topS 5
abbrev sCho : Stmt := topS 6
theorem scCls : FnScope ["n", "k", "r"] ["n", "k"] (defScope sCls) := ⟨rfl, rfl, rfl, by decide +kernel, rfl, by decide +kernel, by decide +kernel⟩
theorem scStay : FnScope ["n", "k", "r", "rings", "ring_size"] ["n", "k", "r"] (defScope sStay) := ⟨rfl, rfl, rfl, by decide +kernel, rfl, by decide +kernel, by decide +kernel⟩
theorem scGcd : FnScope ["a", "b", "divisor", "rest", "smaller"] ["a", "b"] (defScope sGcd) := ⟨rfl, rfl, rfl, by decide +kernel, rfl, by decide +kernel, by decide +kernel⟩
theorem scCho : FnScope ["size", "k", "ways", "taken"] ["size", "k"] (defScope sCho) := ⟨rfl, rfl, rfl, by decide +kernel, rfl, by decide +kernel, by decide +kernel⟩
end Cn

namespace Cn
open PySem PySem.Spec PyProof.Rows L2
section
variable {P : Program} {w : World} {K : PySem.W.Frag} {mg : Str → Option Value} {base : Heap}
/-! ### common_divisor -/
def restOf : L2.St → Nat
  | [_, _, _, some (.int r), _] => r.toNat
  | _ => 0
def spGcd : Sp := fun vs H Q _ => ∃ (a b : Int), vs = [.int a, .int b] ∧ 1 ≤ a ∧ 0 ≤ b ∧ Q (.int (Int.gcd a b : Int)) H
theorem ok_gcd {f : Addr} {fd : FuncData} {k : Nat} (F : Fun K "common_divisor" "common_divisor" sGcd f fd) : FnOk P w K mg base CX0 (k + 1) f fd ["a", "b"] spGcd := by
  refine F.ok scGcd (fun vs H Q E h => ?_) (fun cdv A outer s H vs Q E hr h => ?_)
  · obtain ⟨a, b, rfl, _⟩ := h
    rfl
  · obtain ⟨a, b, rfl, ha, hb, q⟩ := h
    refine ⟨_, pss_cons (ps_set (i := 2) scGcd.nd rfl (Or.inl rfl) (pv 0))
      (pss_cons (ps_set (i := 3) scGcd.nd rfl (Or.inl rfl) (pv 1))
      (pss_cons (ps_while PassesOwn.never (pt_cmpR op_gt (pv 3) pe_int (nomark _))
        (pss_cons (ps_set (i := 4) scGcd.nd rfl (Or.inl rfl) (pe_op op_mod (pv 2) (pv 3)))
        (pss_cons (ps_set (i := 2) scGcd.nd rfl (Or.inl rfl) (pv 3))
        (pss_one (ps_set (i := 3) scGcd.nd rfl (Or.inl rfl) (pv 4))))))
      (pss_one (ps_ret (pv 2))))), ?_⟩
    refine ⟨.int a, rfl, .int b, rfl, while_by (fun st H' => ∃ (d r : Int) (v : Option V), st = [some (.int a), some (.int b), some (.int d), some (.int r), v] ∧ H' = H ∧ 1 ≤ d ∧ 0 ≤ r ∧ Int.gcd d r = Int.gcd a b) (fun st _ => restOf st)
      ⟨a, b, none, rfl, rfl, ha, hb, rfl⟩ ?_ ?_⟩
    · rintro st H' ⟨d, r, v, rfl, rfl, hd, hr0, e⟩
      refine ⟨.int r, rfl, r, 0, rfl, rfl, decide (0 < r), rfl, ?_⟩
      refine ite2 (fun c => ?_) (fun c => ?_)
      · have c1 : 0 < r := of_decide_eq_true c
        have m0 := Int.emod_nonneg d (show r ≠ 0 by omega)
        have m1 := Int.emod_lt_of_pos d c1
        refine ⟨.int d, rfl, .int r, rfl, d, r, rfl, rfl, c1, .int r, rfl, .int (d % r), rfl, ⟨r, d % r, some (.int (d % r)), rfl, rfl, by omega, m0, ?_⟩, ?_⟩
        · rw [gcd_step (by omega) (by omega)]
          exact e
        · show (d % r).toNat < r.toNat
          omega
      · have c1 : ¬ 0 < r := fun z => c (decide_eq_true z)
        have c2 : r = 0 := by omega
        subst c2
        refine ⟨.int d, rfl, ?_⟩
        rw [Int.gcd_zero_right] at e
        rw [← e] at q
        rw [show ((d.natAbs : Nat) : Int) = d by omega] at q
        exact q
    · rintro st H' Q1 Q2 hm ⟨x, hx, i, j, h1, h2, z, hz, q1⟩
      exact ⟨x, hx, i, j, h1, h2, z, hz, hm _ _ q1⟩
end
end Cn

namespace Cn
open PySem PySem.Spec PyProof.Rows L2
section
variable {P : Program} {w : World} {K : PySem.W.Frag} {mg : Str → Option Value} {base : Heap}
/-! ### choices -/
def spCho : Sp := fun vs H Q _ => ∃ (m k : Int), vs = [.int m, .int k] ∧ 0 ≤ m ∧ m ≤ 1000 ∧ 0 ≤ k ∧ k ≤ 1000 ∧ Q (.int (chooseI m k.toNat)) H
theorem ok_cho {f : Addr} {fd : FuncData} {k : Nat} (F : Fun K "choices" "choices" sCho f fd) (mR : mg "range" = none) : FnOk P w K mg base CX0 (k + 1) f fd ["size", "k"] spCho := by
  refine F.ok scCho (fun vs H Q E h => ?_) (fun cdv A outer s H vs Q E hr h => ?_)
  · obtain ⟨m, k, rfl, _⟩ := h
    rfl
  · obtain ⟨m, k, rfl, hm, hm2, hk, hk2, q⟩ := h
    refine ⟨_, pss_cons (ps_set (i := 2) scCho.nd rfl (Or.inl rfl) pe_int)
      (pss_cons (ps_for PassesOwn.never rfl (pi_range1 rfl mR (pa_cons (pv 1) pa_nil)) (pg_name (i := 3) scCho.nd rfl (Or.inl rfl))
        (pss_one (ps_set (i := 2) scCho.nd rfl (Or.inl rfl) (pe_op op_fdiv (pe_op op_mul (pv 2) (pe_op op_sub (pv 0) (pv 3))) (pe_op op_add (pv 3) pe_int)))))
      (pss_one (ps_ret (pv 2)))), ?_⟩
    refine ⟨.int k, rfl, k, rfl, by omega, by omega, for_range (lo := 0) (n := k.toNat) (fun i st H' => ∃ v : Option V, st = [some (.int m), some (.int k), some (.int (chooseI m i)), v] ∧ H' = H) ⟨none, rfl, rfl⟩ ?_ ?_⟩
    · rintro i st H' hi ⟨v, rfl, rfl⟩
      refine ⟨.int (chooseI m i), rfl, .int m, rfl, .int (0 + (i : Int)), rfl, m, _, rfl, rfl, chooseI m i, _, rfl, rfl, .inr ⟨by omega, by omega⟩, .int (0 + (i : Int)), rfl, _, 1, rfl, rfl, _, _, rfl, rfl, ⟨by omega, by omega⟩, some (.int (0 + (i : Int))), ?_, rfl⟩
      rw [Int.zero_add]
      rfl
    · rintro st H' ⟨v, rfl, rfl⟩
      exact ⟨.int (chooseI m k.toNat), rfl, q⟩
end
end Cn

namespace Cn
open PySem PySem.Spec PyProof.Rows L2
section
variable {P : Program} {w : World} {K : PySem.W.Frag} {mg : Str → Option Value} {base : Heap}
/-! ### staying -/
def spStay : Sp := fun vs H Q _ => ∃ (n k r : Int), vs = [.int n, .int k, .int r] ∧ 1 ≤ n ∧ n ≤ 64 ∧ 0 ≤ k ∧ k ≤ n ∧ 0 ≤ r ∧ Q (.int (stayI n k r)) H
theorem ok_stay {f f1 f2 : Addr} {fd fd1 fd2 : FuncData} (F : Fun K "staying" "staying" sStay f fd)
    (FG : Fun K "common_divisor" "common_divisor" sGcd f1 fd1) (bG : Binds K fd1 ["a", "b"] []) (gG : mg "common_divisor" = some (.ref f1))
    (FC : Fun K "choices" "choices" sCho f2 fd2) (bC : Binds K fd2 ["size", "k"] []) (gC : mg "choices" = some (.ref f2))
    (mR : mg "range" = none) : FnOk P w K mg base CX0 2 f fd ["n", "k", "r"] spStay := by
  have GG : FnOk P w K mg base CX0 1 f1 fd1 ["a", "b"] spGcd := ok_gcd FG
  have GC : FnOk P w K mg base CX0 1 f2 fd2 ["size", "k"] spCho := ok_cho FC mR
  refine F.ok scStay (fun vs H Q E h => ?_) (fun cdv A outer s H vs Q E hr h => ?_)
  · obtain ⟨n, k, r, rfl, _⟩ := h
    rfl
  · obtain ⟨n, k, r, rfl, hn, hn2, hk, hk2, hr0, q⟩ := h
    refine ⟨_, pss_cons (ps_set (i := 3) scStay.nd rfl (Or.inl rfl) (pe_call GG hr (by rfl) gG FG.kp bG .nil pass0 (pa_cons (pv 0) (pa_cons (pv 2) pa_nil))))
      (pss_cons (ps_set (i := 4) scStay.nd rfl (Or.inl rfl) (pe_op op_fdiv (pv 0) (pv 3)))
      (pss_cons (ps_if (pt_cmpR op_ne (pe_op op_mod (pv 1) (pv 4)) pe_int (nomark _)) (pss_one (ps_ret pe_int)) pss_nil)
      (pss_one (ps_ret (pe_call GC hr (by rfl) gC FC.kp bC .nil pass0 (pa_cons (pv 3) (pa_cons (pe_op op_fdiv (pv 1) (pv 4)) pa_nil))))))), ?_⟩
    obtain ⟨g1, g2, g3, g4⟩ := ring_pos (r := r) hn
    refine ⟨.int n, rfl, .int r, rfl, n, r, rfl, hn, hr0, ?_⟩
    refine ⟨.int n, rfl, .int (Int.gcd n r : Int), rfl, n, _, rfl, rfl, ⟨by omega, by omega⟩, ?_⟩
    refine ⟨.int k, rfl, .int (ringI n r), rfl, k, _, rfl, rfl, g3, rfl, !decide (V.int (k % ringI n r) = V.int 0), rfl, ?_⟩
    unfold stayI at q
    by_cases c : k % ringI n r = 0
    · rw [if_neg (fun z => z c)] at q
      rw [c]
      refine iteF ⟨.int (Int.gcd n r : Int), rfl, .int k, rfl, .int (ringI n r), rfl, k, _, rfl, rfl, ⟨g3, by omega⟩, _, _, rfl, by omega, by omega, Int.ediv_nonneg hk (by omega), ?_, q⟩
      have := Int.ediv_le_self (ringI n r) hk
      omega
    · rw [if_pos c] at q
      rw [decide_eq_false (fun z => c (V.int.inj z))]
      exact iteT q
end
end Cn

namespace Cn
open PySem PySem.Spec PyProof.Rows L2
section
variable {P : Program} {w : World} {K : PySem.W.Frag} {mg : Str → Option Value} {base : Heap}
/-! ### classes -/
def spCls (K : PySem.W.Frag) : Sp := fun vs H Q _ => ∃ (n k : Int), vs = [.int n, .int k] ∧ 0 ≤ k ∧ ∀ H' p, H' p = some (.lst ((clsP n k).map V.int)) → Q (.ref p) H'
theorem ok_cls {f f1 f2 f3 : Addr} {fd fd1 fd2 fd3 : FuncData} {t1 t2 : Tok} (F : Fun K "classes" "classes" sCls f fd)
    (FS : Fun K "staying" "staying" sStay f1 fd1) (bS : Binds K fd1 ["n", "k", "r"] []) (gS : mg "staying" = some (.ref f1))
    (FG : Fun K "common_divisor" "common_divisor" sGcd f2 fd2) (bG : Binds K fd2 ["a", "b"] []) (gG : mg "common_divisor" = some (.ref f2))
    (FC : Fun K "choices" "choices" sCho f3 fd3) (bC : Binds K fd3 ["size", "k"] []) (gC : mg "choices" = some (.ref f3))
    (c1 : mg "MOST_PLACES_OF_CLASSES" = some (.int 64 t1)) (c2 : mg "NOT_IN_RANGE" = some (.int (-2) t2))
    (mS : mg "sum" = none) (mR : mg "range" = none) : FnOk P w K mg base CX0 3 f fd ["n", "k"] (spCls K) := by
  have GS : FnOk P w K mg base CX0 2 f1 fd1 ["n", "k", "r"] spStay := ok_stay FS FG bG gG FC bC gC mR
  refine F.ok scCls (fun vs H Q E h => ?_) (fun cdv A outer s H vs Q E hr h => ?_)
  · obtain ⟨n, k, rfl, _⟩ := h
    rfl
  · obtain ⟨n, k, rfl, hk, q⟩ := h
    refine ⟨_, pss_cons (ps_if (PW.pt (pw_or (pt_not (pt_chain op_le op_le pe_int (pv 0) (pe_glob (v := .int 64) rfl c1 ⟨_, rfl⟩)))
          (pw_or1 (pt_not (pt_chain op_le op_le pe_int (pv 1) (pv 0))))))
        (pss_one (ps_ret (pe_lst (pa_cons (pe_glob (v := .int (-2)) rfl c2 ⟨_, rfl⟩) pa_nil)))) pss_nil)
      (pss_one (ps_ret (pe_lst (pa_cons pe_int (pa_cons (pe_op op_fdiv (pe_callB (cr_sum rfl) (by rfl) mS (by decide +kernel) (pa_cons
        (pe_lc (own := [("r", 2)]) (g := gName 2) (tt := tYes) rfl scCls.nd (pi_range1 rfl mR (pa_cons (pv 0) pa_nil)) (blkOk_by (N := ["n", "k", "r"]) (sc := defScope sCls) (by decide +kernel))
          (fun _ _ _ _ _ => pg_name (i := 2) scCls.nd rfl (Or.inl rfl)) (fun _ _ _ _ _ => pts_nil)
          (fun _ _ _ _ _ => pe_call GS hr (by rfl) gS FS.kp bS .nil pass0 (pa_cons (pv 0) (pa_cons (pv 1) (pa_cons (pv 2) pa_nil))))) pa_nil)) (pv 0)) pa_nil))))), ?_⟩
    have bad : okCls n k = false → ∀ H' p, H' p = some (.lst [V.int (-2)]) → Q (.ref p) H' := fun e H' p hp => q H' p (by unfold clsP; rw [e]; exact hp)
    refine ⟨.int n, rfl, 1, n, rfl, rfl, decide (1 ≤ n), rfl, ?_⟩
    refine ite2 (fun e1 => ?_) (fun e1 => ?_)
    · refine ⟨n, 64, rfl, rfl, decide (n ≤ 64), rfl, ?_⟩
      cases e2 : decide (n ≤ 64) with
      | false =>
        have e : okCls n k = false := by unfold okCls; rw [e2, Bool.and_false, Bool.false_and]
        exact iteT (iteT ⟨(by show 1 ≤ sizeLine; decide), fun p hp => bad e _ p upd_same⟩)
      | true =>
        refine iteF ⟨.int k, rfl, 0, k, rfl, rfl, decide (0 ≤ k), rfl, ?_⟩
        rw [decide_eq_true hk]
        refine iteT ⟨.int n, rfl, k, n, rfl, rfl, decide (k ≤ n), rfl, ?_⟩
        cases e3 : decide (k ≤ n) with
        | false =>
          have e : okCls n k = false := by unfold okCls; rw [e3, Bool.and_false]
          exact iteT ⟨(by show 1 ≤ sizeLine; decide), fun p hp => bad e _ p upd_same⟩
        | true =>
          have e : okCls n k = true := by unfold okCls; rw [e1, e2, e3]; rfl
          have h1 := of_decide_eq_true e1
          have h2 := of_decide_eq_true e2
          have h3 := of_decide_eq_true e3
          unfold clsP at q
          rw [e] at q
          refine iteF ?_
          refine ⟨.int n, rfl, n, rfl, by omega, by omega, lcR (n := n.toNat) (lo := 0) (fun i => .int (stayI n k (i : Nat))) (by omega) (fun _ => rfl) (fun i H2 hi s2 Q' hq => ?_) (fun D H2 hD s2 eD => ?_)⟩
          · refine ⟨.int n, rfl, .int k, rfl, .int (0 + (i : Int)), rfl, n, k, _, rfl, h1, h2, hk, h3, by omega, ?_⟩
            rw [Int.zero_add]
            exact hq _ (Same.refl _)
          · have e4 : (List.range n.toNat).map (fun i => V.int (stayI n k (i : Nat))) = (burnL n k).map V.int := by
              unfold burnL
              rw [List.map_map]
              rfl
            rw [e4] at eD
            exact ⟨D, _, rfl, SqL.of eD, .int n, rfl, _, n, rfl, rfl, ⟨by omega, by omega⟩, (by show 2 ≤ sizeLine; decide), fun p hp => q _ p upd_same⟩
    · have e : okCls n k = false := by unfold okCls; rw [Bool.eq_false_iff.mpr e1, Bool.false_and, Bool.false_and]
      exact ⟨false, rfl, iteT (iteT ⟨(by show 1 ≤ sizeLine; decide), fun p hp => bad e _ p upd_same⟩)⟩
end
end Cn

namespace Cn
open PySem PySem.Spec PyProof.Rows L2
/-! ### what the top has written -/
theorem all_mk {P : Program} {w : World} {K : PySem.W.Frag} {h : Heap} {mg : Str → Option Value} {fa f1 f2 f3 f4 : Addr} (X : K.In h) (G : h.Ns mainGlobals mg) (hfa : mg "classes" = some (.ref fa))
    {od1 an1 od2 an2 od3 an3 od4 an4 : Option Addr} {sl1 sl2 sl3 sl4 : Array (Option Value)} {oc1 kV1 dc1 pm1 cd1 ct1 oc2 kV2 dc2 pm2 cd2 ct2 oc3 kV3 dc3 pm3 cd3 ct3 oc4 kV4 dc4 pm4 cd4 ct4 : Value} {t1 t2 : Tok}
    (a1 : PySem.W.nsIn K mainGlobals "classes" = some (some (.ref f1)))
    (l1 : K.lookup f1 = some ⟨oc1, od1, .func (PySem.W.fnOf "classes" "classes" (defArgs sCls) (defBody sCls) (defScope sCls) .none kV1 dc1 pm1 an1 cd1 ct1), sl1⟩)
    (c1 : PySem.W.codeIn K cd1 "classes" = true) (k1 : PySem.W.keepIn K (.ref f1) = true)
    (a2 : PySem.W.nsIn K mainGlobals "staying" = some (some (.ref f2)))
    (l2 : K.lookup f2 = some ⟨oc2, od2, .func (PySem.W.fnOf "staying" "staying" (defArgs sStay) (defBody sStay) (defScope sStay) .none kV2 dc2 pm2 an2 cd2 ct2), sl2⟩)
    (c2 : PySem.W.codeIn K cd2 "staying" = true) (k2 : PySem.W.keepIn K (.ref f2) = true)
    (a3 : PySem.W.nsIn K mainGlobals "common_divisor" = some (some (.ref f3)))
    (l3 : K.lookup f3 = some ⟨oc3, od3, .func (PySem.W.fnOf "common_divisor" "common_divisor" (defArgs sGcd) (defBody sGcd) (defScope sGcd) .none kV3 dc3 pm3 an3 cd3 ct3), sl3⟩)
    (c3 : PySem.W.codeIn K cd3 "common_divisor" = true) (k3 : PySem.W.keepIn K (.ref f3) = true)
    (a4 : PySem.W.nsIn K mainGlobals "choices" = some (some (.ref f4)))
    (l4 : K.lookup f4 = some ⟨oc4, od4, .func (PySem.W.fnOf "choices" "choices" (defArgs sCho) (defBody sCho) (defScope sCho) .none kV4 dc4 pm4 an4 cd4 ct4), sl4⟩)
    (c4 : PySem.W.codeIn K cd4 "choices" = true) (k4 : PySem.W.keepIn K (.ref f4) = true)
    (n1 : PySem.W.nsIn K mainGlobals "MOST_PLACES_OF_CLASSES" = some (some (.int 64 t1)))
    (n2 : PySem.W.nsIn K mainGlobals "NOT_IN_RANGE" = some (some (.int (-2) t2)))
    (z1 : PySem.W.nsIn K mainGlobals "sum" = some none)
    (z2 : PySem.W.nsIn K mainGlobals "range" = some none)
    : ∃ fd : FuncData,
      (∀ (s : Shared) (us : List Value), us.length = (["n", "k"] : List Str).length → BindsTo s fd ⟨us, []⟩ ((["n", "k"] : List Str).zip us)) ∧
      ∀ base : Heap, K.In base → base.Ns mainGlobals mg → FnOk P w K mg base CX0 3 fa fd ["n", "k"] (spCls K) := by
  have e := hfa.symm.trans (PySem.W.mg_of X G a1)
  cases e
  have F1 := fun_mk (st := sCls) l1 c1 k1
  have F2 := fun_mk (st := sStay) l2 c2 k2
  have b2 := F2.binds (ps := ["n", "k", "r"]) fun _ _ _ _ _ _ us hl => match us, hl with | [_, _, _], _ => rfl
  have F3 := fun_mk (st := sGcd) l3 c3 k3
  have b3 := F3.binds (ps := ["a", "b"]) fun _ _ _ _ _ _ us hl => match us, hl with | [_, _], _ => rfl
  have F4 := fun_mk (st := sCho) l4 c4 k4
  have b4 := F4.binds (ps := ["size", "k"]) fun _ _ _ _ _ _ us hl => match us, hl with | [_, _], _ => rfl
  exact ⟨PySem.W.fnOf "classes" "classes" (defArgs sCls) (defBody sCls) (defScope sCls) .none kV1 dc1 pm1 an1 cd1 ct1,
    fun s us hu => match us, hu with | [_, _], _ => .of_eq rfl,
    fun base _ _ => ok_cls F1 F2 b2 (PySem.W.mg_of X G a2) F3 b3 (PySem.W.mg_of X G a3) F4 b4 (PySem.W.mg_of X G a4) (PySem.W.mg_of X G n1) (PySem.W.mg_of X G n2) (PySem.W.mg_none_of X G z1) (PySem.W.mg_none_of X G z2)⟩
end Cn
open PySem PySem.W PyProof.Rows
set_option maxRecDepth 100000 in
set_option maxHeartbeats 0 in
theorem PySem.Challenge.cw_circlenotes_s07_classes_holds : PySem.Challenge.rw_circlenotes_s07_classes.Holds := by
  w_on; k_headS; (case hw => exact ⟨[.int 0, .int 0], by decide +kernel, by decide +kernel⟩)
  k_fillS
  refine L2.walk_specK (r := PySem.Challenge.rw_circlenotes_s07_classes) (k := 3) (CX := L2.CX0) (ps := ["n", "k"]) (sp := Cn.spCls) (by decide +kernel) rfl rfl ⟨rfl, by decide, by decide⟩ (fun w h Y => PySem.W.kIn_of Y) ?F ?S (fun _ _ _ _ z => z)
  case F =>
    intro w mg fa h Y KX G hmg
    refine' Cn.all_mk KX G hmg ?a1 ?l1 ?c1 ?k1 ?a2 ?l2 ?c2 ?k2 ?a3 ?l3 ?c3 ?k3 ?a4 ?l4 ?c4 ?k4 ?n1 ?n2 ?z1 ?z2
    (case a1 => k_is); (case l1 => k_is); (case c1 => k_is); (case k1 => k_is)
    (case a2 => k_is); (case l2 => k_is); (case c2 => k_is); (case k2 => k_is)
    (case a3 => k_is); (case l3 => k_is); (case c3 => k_is); (case k3 => k_is)
    (case a4 => k_is); (case l4 => k_is); (case c4 => k_is); (case k4 => k_is)
    (case n1 => k_is); (case n2 => k_is); (case z1 => k_is); (case z2 => k_is)
  case S =>
    intro K H xs a hO hwi hask hx
    obtain ⟨n, k, u⟩ := a
    cases hx with
    | cons h1 h2 =>
      cases h2 with
      | cons h3 h4 =>
        cases h4
        cases h1
        cases h3
        have q : (Codec.inInt 0 4294967295 n && (Codec.inInt 0 4294967295 k && true)) = true := hwi
        rw [Bool.and_eq_true, Bool.and_eq_true] at q
        have b0 := (Codec.inInt_iff.mp q.1).1
        have b1 := (Codec.inInt_iff.mp q.2.1).1
        refine ⟨n, k, rfl, b1, fun H' p hp => ?_⟩
        rw [Cn.clsP_spec b0 b1 hask] at hp
        exact .lst (L2.SqL.of hp) (L2.dw_ints _)
#print axioms PySem.Challenge.cw_circlenotes_s07_classes_holds
