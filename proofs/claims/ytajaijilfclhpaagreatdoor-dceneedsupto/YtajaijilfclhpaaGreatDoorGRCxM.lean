/- A region that draws its order, whose first operations only read and whose other ones all wait for them: the first ones in the order of the text, then whatever order the rest allows. -/
import Derived.Test.YtajaijilfclhpaaGreatDoorGBoxM
import Derived.BigQuiet
import Derived.Deep.RegionWith
import Derived.Deep.RegionLaw
import Derived.Deep.RegionHeld3
import Derived.Test.YtajaijilfclhpaaGreatDoorNEvM
namespace Go.Proofs.YtajaijilfclhpaaGreatDoor
open Go.RowKit

theorem getD_f {l : Array Bool} {j : Nat} : l.getD j true = false ↔ l[j]? = some false := by
 rw [Array.getD_eq_getD_getElem?]
 cases l[j]? with
 | none => simp
 | some b => cases b <;> simp
theorem getD_t {l : Array Bool} {j : Nat} : l.getD j false = true ↔ l[j]? = some true := by
 rw [Array.getD_eq_getD_getElem?]
 cases l[j]? with
 | none => simp
 | some b => cases b <;> simp
def depB (md : Region.Mode) (ops : Array Oper) (k j : Nat) : Bool := match ops[k]? with
 | some o => o.after.any fun e => Region.binds md e && e.on == j
 | none => false
/-- The first m wait only for those ahead of them; none is guarded; each other one waits for one of its like, or for all of the first. -/
def preB (md : Region.Mode) (ops : Array Oper) (m : Nat) (l0 : Array Bool) : Bool :=
 ((List.range m).all fun j => match ops[j]? with
  | some o => (match o.guard with | none => true | some q => decide (q.1 < m)) && o.after.all (fun e => !Region.binds md e || decide (e.on < j))
  | none => false) &&
 ((List.range ops.size).all fun k => decide (k < m) || l0.getD k true ||
  ((List.range ops.size).any fun i => decide (m ≤ i) && depB md ops k i && !l0.getD i true) ||
  ((List.range m).all fun j => depB md ops k j || ((List.range m).any fun i => decide (j < i) && depB md ops i j)))
theorem depB_spec {md : Region.Mode} {ops : Array Oper} {k j : Nat} (h : depB md ops k j = true) : ∃ o, ops[k]? = some o ∧ ∃ e ∈ o.after, Region.binds md e = true ∧ e.on = j := by
 unfold depB at h
 split at h
 ·rename_i o ho
  rw [Array.any_eq_true'] at h
  obtain ⟨e, he, h1⟩ := h
  simp at h1
  exact ⟨o, ho, e, he, h1.1, h1.2⟩
 ·cases h
structure PInv (md : Region.Mode) (ops : Array Oper) (m : Nat) (l0 listed lp : Array Bool) : Prop where
 sz : listed.size = l0.size
 szP : lp.size = m
 lo : ∀ j, j < m → lp[j]? = listed[j]?
 hi : ∀ k, m ≤ k → listed[k]? = l0[k]?
 cl : ∀ j o, j < m → listed[j]? = some true → ops[j]? = some o → ∀ e ∈ o.after, Region.binds md e = true → listed[e.on]? = some true
structure Pre (md : Region.Mode) (ops pops : Array Oper) (m : Nat) (l0 : Array Bool) : Prop where
 ml : m ≤ ops.size
 pl : pops.size = m
 pe : ∀ j, j < m → pops[j]? = ops[j]?
 sz : l0.size = ops.size
 gd : ∀ j o, j < m → ops[j]? = some o → ∀ q, o.guard = some q → q.1 < m
 dn : ∀ j o, j < m → ops[j]? = some o → ∀ e ∈ o.after, Region.binds md e = true → e.on < j
 cv : ∀ k, m ≤ k → l0[k]? = some false → (∃ i, m ≤ i ∧ depB md ops k i = true ∧ l0[i]? = some false) ∨ (∀ j, j < m → depB md ops k j = true ∨ ∃ i, i < m ∧ j < i ∧ depB md ops i j = true)
theorem Pre.of {md : Region.Mode} {L : List Oper} {m : Nat} {l0 : Array Bool} (hm : m ≤ L.length) (hs : l0.size = L.length) (h : preB md L.toArray m l0 = true) : Pre md L.toArray (L.take m).toArray m l0 := by
 unfold preB at h
 rw [Bool.and_eq_true, List.all_eq_true, List.all_eq_true] at h
 obtain ⟨h1, h2⟩ := h
 have g1 : ∀ j o, j < m → L.toArray[j]? = some o → (∀ q, o.guard = some q → q.1 < m) ∧ ∀ e ∈ o.after, Region.binds md e = true → e.on < j := by
  intro j o hj ho
  have := h1 j (by simpa using hj)
  rw [ho] at this
  simp only [Bool.and_eq_true, Array.all_eq_true_iff_forall_mem, Bool.or_eq_true, Bool.not_eq_true', decide_eq_true_eq] at this
  refine ⟨fun q hq => by have h9 := this.1; rw [hq] at h9; simpa using h9, fun e he hb => ?_⟩
  rcases this.2 e he with h3 | h3
  ·rw [hb] at h3; cases h3
  ·exact h3
 refine ⟨by simpa using hm, by simp; omega, fun j hj => by simp [hj], by simpa using hs, fun j o hj ho => (g1 j o hj ho).1, fun j o hj ho => (g1 j o hj ho).2, fun k hk hf => ?_⟩
 have hks : k < L.length := by
  have := (Array.getElem?_eq_some_iff.1 hf).1
  omega
 have := h2 k (by simpa using hks)
 simp only [Bool.or_eq_true, decide_eq_true_eq, List.any_eq_true, List.all_eq_true, List.mem_range, Bool.and_eq_true, Bool.not_eq_true'] at this
 rcases this with ((h3 | h3) | h3) | h3
 ·omega
 ·rw [getD_f.2 hf] at h3; cases h3
 ·obtain ⟨i, hi, ⟨h4, h5⟩, h6⟩ := h3
  exact .inl ⟨i, h4, h5, getD_f.1 h6⟩
 ·refine .inr fun j hj => ?_
  rcases h3 j hj with h4 | ⟨i, hi, h5, h6⟩
  ·exact .inl h4
  ·exact .inr ⟨i, hi, h5, h6⟩
theorem pre_ready {md : Region.Mode} {ops pops : Array Oper} {m : Nat} {l0 listed lp : Array Bool} (hp : Pre md ops pops m l0) (hv : PInv md ops m l0 listed lp) {j : Nat} (hj : j < m) (h : j ∈ Region.ready md ops listed) : j ∈ Region.ready md pops lp := by
 rw [mem_ready] at h ⊢
 obtain ⟨h0, o, ho, hall⟩ := h
 refine ⟨getD_f.2 (by rw [hv.lo j hj]; exact getD_f.1 h0), o, by rw [hp.pe j hj]; exact ho, fun e he hb => ?_⟩
 have hlt := hp.dn j o hj ho e he hb
 exact getD_t.2 (by rw [hv.lo _ (by omega)]; exact getD_t.1 (hall e he hb))
theorem pre_all {md : Region.Mode} {ops pops : Array Oper} {m : Nat} {l0 listed lp : Array Bool} (hp : Pre md ops pops m l0) (hv : PInv md ops m l0 listed lp) (h : Region.ready md pops lp = []) : ∀ j, j < m → listed[j]? = some true := by
 intro j
 induction j using Nat.strongRecOn with
 | _ j ih =>
  intro hj
  obtain ⟨o, ho⟩ : ∃ o, ops[j]? = some o := ⟨_, Array.getElem?_eq_getElem (by have := hp.ml; omega)⟩
  rcases hb : lp[j]? with _ | b
  ·have := Array.getElem?_eq_none_iff.1 hb
   have := hv.szP
   omega
  ·cases b with
   | true => rw [← hv.lo j hj]; exact hb
   | false =>
    have : j ∈ Region.ready md pops lp := mem_ready.2 ⟨getD_f.2 hb, o, by rw [hp.pe j hj]; exact ho, fun e he hbd => by
     have hlt := hp.dn j o hj ho e he hbd
     exact getD_t.2 (by rw [hv.lo _ (by omega)]; exact ih e.on hlt (by omega))⟩
    rw [h] at this
    cases this
theorem pre_late {md : Region.Mode} {ops pops : Array Oper} {m : Nat} {l0 listed lp : Array Bool} (hp : Pre md ops pops m l0) (hv : PInv md ops m l0 listed lp) {k : Nat} (hk : m ≤ k) (h : k ∈ Region.ready md ops listed) : ∀ j, j < m → listed[j]? = some true := by
 obtain ⟨h0, o, ho, hall⟩ := mem_ready.1 h
 have hk0 : l0[k]? = some false := by rw [← hv.hi k hk]; exact getD_f.1 h0
 have dep : ∀ i, depB md ops k i = true → listed[i]? = some true := fun i hi => by
  obtain ⟨o', ho', e, he, hb, hon⟩ := depB_spec hi
  rw [ho] at ho'
  cases ho'
  rw [← hon]
  exact getD_t.1 (hall e he hb)
 rcases hp.cv k hk hk0 with ⟨i, hi, hd, hf⟩ | hc
 ·have := dep i hd
  rw [hv.hi i hi, hf] at this
  cases this
 ·have go : ∀ d j, m - j = d → j < m → listed[j]? = some true := by
   intro d
   induction d using Nat.strongRecOn with
   | _ d ih =>
    intro j hd hj
    rcases hc j hj with h1 | ⟨i, hi, hij, h1⟩
    ·exact dep j h1
    ·have hi1 := ih (m - i) (by omega) i rfl hi
     obtain ⟨o', ho', e, he, hb, hon⟩ := depB_spec h1
     rw [← hon]
     exact hv.cl i o' hi hi1 ho' e he hb
  exact fun j hj => go _ j rfl hj
theorem PInv.add {md : Region.Mode} {ops : Array Oper} {m : Nat} {l0 listed lp : Array Bool} (hv : PInv md ops m l0 listed lp) {j : Nat} (hj : j < m) (h : j ∈ Region.ready md ops listed) : PInv md ops m l0 (listed.setIfInBounds j true) (lp.setIfInBounds j true) := by
 obtain ⟨h0, o, ho, hall⟩ := mem_ready.1 h
 have hlj : j < listed.size := (Array.getElem?_eq_some_iff.1 (getD_f.1 h0)).1
 have up : ∀ i, listed[i]? = some true → (listed.setIfInBounds j true)[i]? = some true := fun i hi => by
  rw [Array.getElem?_setIfInBounds]
  split
  ·rename_i e; subst e; simp
  ·exact hi
 refine ⟨by simpa using hv.sz, by simpa using hv.szP, fun i hi => ?_, fun k hk => ?_, fun i oi hi hl hoi e he hb => ?_⟩
 ·rw [Array.getElem?_setIfInBounds, Array.getElem?_setIfInBounds]
  split
  ·simp [hv.szP, hj]
  ·exact hv.lo i hi
 ·rw [Array.getElem?_setIfInBounds, if_neg (by omega)]
  exact hv.hi k hk
 ·by_cases e1 : j = i
  ·subst e1
   rw [ho] at hoi
   cases hoi
   exact up _ (getD_t.1 (hall e he hb))
  ·rw [Array.getElem?_setIfInBounds, if_neg e1] at hl
   exact up _ (hv.cl i oi hi hl hoi e he hb)
theorem wpAny_more {P : Program} {md : Region.Mode} {ops : Array Oper} {Q : Exit → Act → World → Prop} : ∀ (n : Nat) (listed : Array Bool) (a : Act) (w : World), wpAny P md ops Q n listed a w → wpAny P md ops Q (n + 1) listed a w
 | 0, _, _, _, h => ⟨fun _ => h.2, fun i hi => by rw [h.1] at hi; cases hi⟩
 | n + 1, _, _, _, h => ⟨h.1, fun i hi => wpOp_mono (fun a w h' => wpAny_more n _ a w h') (h.2 i hi)⟩
theorem wpAny_moreN {P : Program} {md : Region.Mode} {ops : Array Oper} {Q : Exit → Act → World → Prop} {n : Nat} {listed : Array Bool} {a : Act} {w : World} (h : wpAny P md ops Q n listed a w) : ∀ k, wpAny P md ops Q (k + n) listed a w
 | 0 => by rw [Nat.zero_add]; exact h
 | k + 1 => by rw [Nat.add_right_comm]; exact wpAny_more _ _ _ _ (wpAny_moreN h k)
theorem pre_op {P : Program} {ops pops : Array Oper} {C : World → Prop} {i : Nat} {o : Oper} {a : Act} {w : World} {K : Act → Prop} {K' : Act → World → Prop} {Q : Exit → Act → World → Prop} (ho : ops[i]? = some o) (hp : pops[i]? = some o) (hg : ∀ q, o.guard = some q → pops[q.1]? = ops[q.1]?) (hC : C w) (h : ∀ a w, C w → K a → K' a w) (hh : qOp P pops C i K a) : wpOp P ops Q i K' a w := by
 unfold qOp at hh
 unfold wpOp
 simp only [hp] at hh
 simp only [ho]
 have hw : Region.wanted o (yielded pops a.tmps) = Region.wanted o (yielded ops a.tmps) := by
  unfold Region.wanted
  cases hgu : o.guard with
  | none => rfl
  | some q =>
   have := hg q hgu
   obtain ⟨q1, q2⟩ := q
   show (yielded pops a.tmps q1 == some q2) = (yielded ops a.tmps q1 == some q2)
   unfold yielded
   rw [this]
 rw [hw] at hh
 split
 ·rename_i hq
  rw [if_pos hq] at hh
  exact .inl (Oper.wp_of_quiet hC h hh)
 ·rename_i hq
  rw [if_neg hq] at hh
  exact h _ _ hC hh
theorem pre_main {P : Program} {md : Region.Mode} {ops pops : Array Oper} {m r : Nat} {l0 l1 : Array Bool} {C : World → Prop} {Q : Exit → Act → World → Prop} {Qm : Act → Prop} (hp : Pre md ops pops m l0) (hlo : ∀ j, j < m → l1[j]? = some true) (hhi : ∀ k, m ≤ k → l1[k]? = l0[k]?)
  (hF : ∀ a w, C w → Qm a → wpAny P md ops Q r l1 a w) : ∀ (n : Nat) (listed lp : Array Bool) (a : Act) (w : World), PInv md ops m l0 listed lp → C w → wpAnyQ P md pops C Qm n lp a → wpAny P md ops Q (n + r) listed a w := by
 have same : ∀ listed lp, PInv md ops m l0 listed lp → (∀ j, j < m → listed[j]? = some true) → listed = l1 := fun listed lp hv hall => by
  apply Array.ext_getElem?
  intro i
  by_cases hi : i < m
  ·rw [hall i hi, hlo i hi]
  ·rw [hv.hi i (by omega), hhi i (by omega)]
 intro n
 induction n with
 | zero =>
  intro listed lp a w hv hC h
  rw [same listed lp hv (pre_all hp hv h.1), Nat.zero_add]
  exact hF a w hC h.2
 | succ n ih =>
  intro listed lp a w hv hC h
  have done : (∀ j, j < m → listed[j]? = some true) → Region.ready md pops lp = [] := fun hall => by
   apply List.eq_nil_iff_forall_not_mem.2
   intro j hj
   obtain ⟨h0, o, ho, _⟩ := mem_ready.1 hj
   have hjm : j < m := by have := (Array.getElem?_eq_some_iff.1 ho).1; rw [hp.pl] at this; exact this
   have h1 := getD_f.1 h0
   rw [hv.lo j hjm, hall j hjm] at h1
   cases h1
  rw [show n + 1 + r = (n + r) + 1 by omega]
  refine ⟨fun h0 => ?_, fun i hi => ?_⟩
  ·have hpr : Region.ready md pops lp = [] := by
    apply List.eq_nil_iff_forall_not_mem.2
    intro j hj
    obtain ⟨g0, o, ho, hall⟩ := mem_ready.1 hj
    have hjm : j < m := by have := (Array.getElem?_eq_some_iff.1 ho).1; rw [hp.pl] at this; exact this
    rw [hp.pe j hjm] at ho
    have : j ∈ Region.ready md ops listed := mem_ready.2 ⟨getD_f.2 (by rw [← hv.lo j hjm]; exact getD_f.1 g0), o, ho, fun e he hb => by
     have hlt := hp.dn j o hjm ho e he hb
     exact getD_t.2 (by rw [← hv.lo _ (by omega)]; exact getD_t.1 (hall e he hb))⟩
    rw [h0] at this
    cases this
   have e1 := same listed lp hv (pre_all hp hv hpr)
   have hf := hF a w hC (h.1 hpr)
   rw [← e1] at hf
   cases r with
   | zero => exact hf.2
   | succ r => exact hf.1 h0
  ·by_cases him : i < m
   ·have hr := pre_ready hp hv him hi
    obtain ⟨_, o, ho, _⟩ := mem_ready.1 hi
    exact pre_op ho (by rw [hp.pe i him]; exact ho) (fun q hq => hp.pe q.1 (hp.gd i o him ho q hq)) hC (fun a' w' hw' hk => ih _ _ a' w' (hv.add him hi) hw' hk) (h.2 i hr)
   ·have hall := pre_late hp hv (by omega) hi
    have e1 := same listed lp hv hall
    have hf := wpAny_moreN (hF a w hC (h.1 (done hall))) (n + 1)
    rw [← e1, show n + 1 + r = (n + r) + 1 by omega] at hf
    exact hf.2 i hi
/-- All listed of the first m. -/
def listed1 (n m : Nat) : Array Bool := ((List.range n).map fun i => decide (i < m)).toArray
theorem listed1_at (n m i : Nat) : (listed1 n m)[i]? = if i < n then some (decide (i < m)) else none := by
 unfold listed1
 rw [List.getElem?_toArray, List.getElem?_map]
 by_cases h : i < n
 ·rw [List.getElem?_range h, if_pos h]; rfl
 ·rw [List.getElem?_eq_none (by simpa using Nat.le_of_not_lt h), if_neg h]; rfl
theorem wp_region_pre {P : Program} {id : Nat} {Q : Exit → Act → World → Prop} {a : Act} {w : World} {L : List Oper} (m : Nat) (hm : P.follows .mixedOrders = true) (hB : Region.lexB .any (L.take m).toArray = true) (hml : decide (m ≤ L.length) = true) (hp : preB .any L.toArray m (Array.replicate L.length false) = true)
  (h : wpQuiet P (L.take m).toArray (fun w' => ∃ n, w' = w.drewN n) (fun a' => ∀ w', (∃ n, w' = w.drewN n) → wpAny P .any L.toArray Q (L.length - m) (listed1 L.length m) a' w') (L.take m) a) : (Code.region id L.toArray true).wp P Q a w := by
 have hml' : m ≤ L.length := by simpa using hml
 refine wp_region_any hm ?_
 have hpre := Pre.of (md := .any) hml' (by simp) hp
 simp only [Region.lexB, Bool.and_eq_true] at hB
 have hq := wpAnyQ_lex (C := fun w' => ∃ n, w' = w.drewN n) (md := .any) hB.1 (L.take m) 0 (Array.replicate m false) a (by simp) (by simpa [Nat.min_eq_left hml'] using hB.2) h
 have hl : (L.take m).length = m := by rw [List.length_take]; omega
 rw [hl] at hq
 have := pre_main (P := P) (r := L.length - m) (C := fun w' => ∃ n, w' = w.drewN n) (Q := Q) (l1 := listed1 L.length m) (l0 := Array.replicate L.length false) hpre (fun j hj => by rw [listed1_at, if_pos (by omega), decide_eq_true hj]) (fun k hk => by
  rw [listed1_at, Array.getElem?_replicate, decide_eq_false (by omega)]) (fun a' w' hw' hqm => hqm w' hw') m (Array.replicate L.length false) (Array.replicate m false) a { w with drawn := w.drawn + 1 } ⟨by simp, by simp, fun j hj => by simp [Array.getElem?_replicate, hj]; omega, fun k hk => rfl, fun j o hj hl => by simp [Array.getElem?_replicate] at hl⟩ ⟨1, rfl⟩ hq
 rw [show m + (L.length - m) = L.toArray.size by simp; omega] at this
 simpa using this
end Go.Proofs.YtajaijilfclhpaaGreatDoor
/- A region that draws its order: one condition on the world behind every operation but the late ones, which wait for all that is taken first. -/
namespace Go.Proofs.YtajaijilfclhpaaGreatDoor
open Go.RowKit

def wpAnyL (P : Program) (ops : Array Oper) (Q : Exit → Act → World → Prop) (S : World → Prop) (late : Nat → Bool) : Nat → Array Bool → Act → World → Prop
 | 0, l, a, w => Region.ready .any ops l = [] ∧ Q .normal a w
 | n + 1, l, a, w => (Region.ready .any ops l = [] → Q .normal a w) ∧ ∀ i ∈ Region.ready .any ops l, wpOp P ops Q i (fun a' w' => (late i = false → S w') ∧ wpAnyL P ops Q S late n (l.setIfInBounds i true) a' w') a w
theorem wpAny_of_late {P : Program} {ops : Array Oper} {Q : Exit → Act → World → Prop} {S : World → Prop} {late : Nat → Bool} : ∀ (n : Nat) (l : Array Bool) (a : Act) (w : World), wpAnyL P ops Q S late n l a w → wpAny P .any ops Q n l a w
 | 0, _, _, _, h => h
 | n + 1, _, _, _, h => ⟨h.1, fun i hi => wpOp_mono (fun a' w' h' => wpAny_of_late n _ a' w' h'.2) (h.2 i hi)⟩
/-- Each late one waits for i. -/
def lateB (ops : Array Oper) (late : Nat → Bool) (i : Nat) : Bool := (List.range ops.size).all fun j => !late j || depB .any ops j i
theorem lateB_spec {ops : Array Oper} {late : Nat → Bool} {i : Nat} (h : lateB ops late i = true) {j : Nat} {oj : Oper} (hj : ops[j]? = some oj) (hl : late j = true) : ∃ e ∈ oj.after, Region.binds .any e = true ∧ e.on = i := by
 unfold lateB at h
 rw [List.all_eq_true] at h
 have h1 := h j (by simpa using (Array.getElem?_eq_some_iff.1 hj).1)
 rw [hl] at h1
 obtain ⟨o, ho, e, he⟩ := depB_spec (by simpa using h1)
 rw [hj] at ho
 cases ho
 exact ⟨e, he⟩
theorem wpAnyL_first {P : Program} {ops : Array Oper} {Q : Exit → Act → World → Prop} {S : World → Prop} {late : Nat → Bool} {i : Nat} {oi : Oper} {v : Value} (hi : ops[i]? = some oi) (hs : Region.noSelect ops = true) (hQ : ∀ c a w, Q (.panic c) (a.put oi.dst v) w → Q (.panic c) a w) (hl : lateB ops late i = true) :
  ∀ (n : Nat) (l : Array Bool) (a : Act) (w : World), (∀ j oj, ops[j]? = some oj → j ≠ i → l.getD j true = false → (∀ e ∈ oj.after, Region.binds .any e = true → e.on ≠ i) → oi.apart ops oj = true) →
   i ∈ Region.ready .any ops l → YieldsIf P ops S oi v a → S w → wpAnyL P ops Q S late n (l.setIfInBounds i true) (a.put oi.dst v) w → wpAnyL P ops Q S late (n + 1) l a w := by
 intro n
 induction n with
 | zero =>
  intro l a w _ hr hy hS H
  refine ⟨fun h => (by rw [h] at hr; cases hr), fun j hj => ?_⟩
  by_cases hji : j = i
  ·subst hji; exact hy.wpOp hi hS ⟨fun _ => hS, H⟩
  ·have := ready_mono hj hji
   rw [H.1] at this
   cases this
 | succ n ih =>
  intro l a w hfree hr hy hS H
  refine ⟨fun h => (by rw [h] at hr; cases hr), fun j hj => ?_⟩
  by_cases hji : j = i
  ·subst hji; exact hy.wpOp hi hS ⟨fun _ => hS, H⟩
  ·obtain ⟨hun, oj, hoj, hall⟩ := mem_ready.1 hj
   have hi0 := getD_f.1 (mem_ready.1 hr).1
   have hnot : ∀ e ∈ oj.after, Region.binds .any e = true → e.on ≠ i := fun e he hb heq => by
    have h1 := getD_t.1 (hall e he hb)
    rw [heq, hi0] at h1
    cases h1
   have hnl : late j = false := by
    cases hlj : late j with
    | false => rfl
    | true =>
     obtain ⟨e, he, hb, hon⟩ := lateB_spec hl hoj hlj
     exact absurd hon (hnot e he hb)
   have h2 := wpOp_putIf hoj (hfree j oj hoj hji hun hnot) (fun cs b => Region.noSelect_spec hs i oi cs b hi) (fun cs b => Region.noSelect_spec hs j oj cs b hoj) hQ hy (H.2 j (ready_mono hj hji))
   refine wpOp_mono (fun a' w' h3 => ⟨h3.2.1, ih (l.setIfInBounds j true) a' w' (fun k ok hk hki hu hno => hfree k ok hk hki ?_ hno) (ready_mono hr (Ne.symm hji)) h3.1 (h3.2.1 hnl) ?_⟩) h2
   ·by_cases hjk : j = k
    ·subst hjk; exact hun
    ·rw [getD_set_ne true hjk] at hu; exact hu
   ·rw [Array.setIfInBounds_comm _ _ hji]
    exact h3.2.2
theorem wpAnyL_take {P : Program} {ops : Array Oper} {Q : Exit → Act → World → Prop} {S : World → Prop} {late : Nat → Bool} {n : Nat} {l : Array Bool} {a : Act} {w : World} (i : Nat) {oi : Oper} {v : Value} (hi : ops[i]? = some oi) (hs : Region.noSelect ops = true) (hf : Region.free .any ops l i = true) (hr : (Region.ready .any ops l).contains i = true) (hl : lateB ops late i = true)
  (hQ : ∀ c a w, Q (.panic c) (a.put oi.dst v) w → Q (.panic c) a w) (hS : S w) (hy : YieldsIf P ops S oi v a) (h : wpAnyL P ops Q S late n (l.setIfInBounds i true) (a.put oi.dst v) w) : wpAnyL P ops Q S late (n + 1) l a w :=
 wpAnyL_first hi hs hQ hl n l a w (Region.free_spec hi hf) (by simpa using hr) hy hS h
/-- One alone may come up. -/
theorem wpAnyL_one {P : Program} {ops : Array Oper} {Q : Exit → Act → World → Prop} {S : World → Prop} {late : Nat → Bool} {n : Nat} {l : Array Bool} {a : Act} {w : World} (i : Nat) {o : Oper} (hr : Region.ready .any ops l = [i]) (ho : ops[i]? = some o)
  (h : ∀ K : Act → World → Prop, (∀ a w, (late i = false → S w) → wpAnyL P ops Q S late n (l.setIfInBounds i true) a w → K a w) → if Region.wanted o (yielded ops a.tmps) = true then Oper.wp P o a w K Q else K (a.put o.dst undef) w) : wpAnyL P ops Q S late (n + 1) l a w := by
 refine ⟨fun h0 => (by rw [hr] at h0; cases h0), fun j hj => ?_⟩
 rw [hr] at hj
 simp at hj
 subst hj
 exact wpOp_step ho (fun K hK => h K fun a w h1 h2 => hK a w ⟨h1, h2⟩)
theorem wp_region_late {P : Program} {id : Nat} {ops : Array Oper} {Q : Exit → Act → World → Prop} {a : Act} {w : World} (S : World → Prop) (late : Nat → Bool) (hm : P.follows .mixedOrders = true) (hS : S w.drew) (h : S w.drew → wpAnyL P ops Q S late ops.size (Array.replicate ops.size false) a w.drew) : (Code.region id ops true).wp P Q a w :=
 wp_region_any hm (wpAny_of_late _ _ _ _ (h hS))
end Go.Proofs.YtajaijilfclhpaaGreatDoor
/- A graph that is begun anew, a block put behind. -/
namespace Go.Proofs.YtajaijilfclhpaaGreatDoor
open Go.RowKit

theorem BG.new (w : World) (cs : List Value) : BG w ((w.alloc (.cells cs.toArray 28)).alloc (.cells #[.string ⟨#[]⟩, .slice none 0 0, .int .u8 0, .slice none 0 0, .slice none 0 0, .slice none 0 0] 28)) cs := by
 have e : (w.alloc (.cells cs.toArray 28)).heap.size = w.heap.size + 1 := by simp
 have h9 := Box.new (w.alloc (.cells cs.toArray 28)) [.string ⟨#[]⟩, .slice none 0 0, .int .u8 0, .slice none 0 0, .slice none 0 0, .slice none 0 0] 28
 have h8 := heap_alloc_new (w.alloc (.cells cs.toArray 28)) (.cells #[.string ⟨#[]⟩, .slice none 0 0, .int .u8 0, .slice none 0 0, .slice none 0 0, .slice none 0 0] 28)
 rw [e] at h9 h8
 exact ⟨below_alloc (below_alloc (Below.refl _ _) _) _, (Box.new w cs 28).below (below_alloc (Below.refl _ _) _), h8, h9, by simp⟩
theorem step_append_run {P : Program} {ops : Array Oper} {o : Oper} {a : Act} {w : World} {K : Act → World → Prop} {Q : Exit → Act → World → Prop} {E : Prop}
  (hg : o.guard = none) (s x : Operand) (t : TypeId) (hop : o.op = Op.call { callee := Callee.builtin Builtin.append, args := #[s, x], argTypes := #[t, t] })
  (v u v' : Value) (w' : World) (hs : a.eval s = v) (hx : a.eval x = u) (hrun : (Builtin.append_ #[t, t] o.type #[v, u]).run P w = .ok v' w') (hK : K (a.put o.dst v') w') :
  if Region.wanted o (yielded ops a.tmps) = true then Oper.wp P o a w K Q else E := by
 have hw : Region.wanted o (yielded ops a.tmps) = true := by simp [Region.wanted, hg]
 rw [if_pos hw]
 unfold Oper.wp
 simp [execOp, hop, resolve, invoke, builtin, hs, hx, hrun, Result.andThen]
 exact hK
end Go.Proofs.YtajaijilfclhpaaGreatDoor
