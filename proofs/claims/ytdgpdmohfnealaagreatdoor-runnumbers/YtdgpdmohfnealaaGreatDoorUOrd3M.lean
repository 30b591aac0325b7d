/- A region that draws its order, whose operations k to m only read and of which one ahead of k (the stray) may come at any time: the quiet ones in the order of the text, the stray's value put already; behind them two ways: the stray has come, or not. -/
import Derived.Test.YtdgpdmohfnealaaGreatDoorUOrdM
namespace Go.Proofs.YtdgpdmohfnealaaGreatDoor
open Go.RowKit

structure Pre2 (md : Region.Mode) (ops pops : Array Oper) (k m s : Nat) (os : Oper) : Prop where
  ml : m ≤ ops.size
  pl : pops.size = m
  pe : ∀ j, j < m → pops[j]? = ops[j]?
  sk : s < k
  km : k ≤ m
  gd : ∀ j o, k ≤ j → j < m → ops[j]? = some o → o.guard = none
  dn : ∀ j o, k ≤ j → j < m → ops[j]? = some o → ∀ e ∈ o.after, Region.binds md e = true → e.on < j ∧ e.on ≠ s
  so : ops[s]? = some os
  sg : os.guard = none
  ap : ∀ j o, k ≤ j → j < m → ops[j]? = some o → os.apart pops o = true
  ss : ∀ cs b, os.op ≠ .select cs b
  sel : ∀ j o cs b, k ≤ j → j < m → ops[j]? = some o → o.op ≠ .select cs b
  cv : ∀ p, m ≤ p → p < ops.size → (∃ i, m ≤ i ∧ i < ops.size ∧ depB md ops p i = true) ∨ (∀ j, k ≤ j → j < m → depB md ops p j = true ∨ ∃ i, i < m ∧ j < i ∧ depB md ops i j = true)
structure Inv2 (md : Region.Mode) (ops : Array Oper) (k m s : Nat) (listed lp : Array Bool) : Prop where
  sz : listed.size = ops.size
  szP : lp.size = m
  lo : ∀ j, k ≤ j → j < m → lp[j]? = listed[j]?
  lok : ∀ j, j < k → j < m → lp[j]? = some true
  los : ∀ j, j < k → j ≠ s → listed[j]? = some true
  hi : ∀ p, m ≤ p → p < ops.size → listed[p]? = some false
  cl : ∀ j o, k ≤ j → j < m → listed[j]? = some true → ops[j]? = some o → ∀ e ∈ o.after, Region.binds md e = true → listed[e.on]? = some true
theorem ready2 {md : Region.Mode} {ops pops : Array Oper} {k m s : Nat} {os : Oper} {listed lp : Array Bool} (hp : Pre2 md ops pops k m s os) (hv : Inv2 md ops k m s listed lp) {j : Nat} (hk : k ≤ j) (hj : j < m) (h : j ∈ Region.ready md ops listed) : j ∈ Region.ready md pops lp := by
  obtain ⟨h0, o, ho, hall⟩ := mem_ready.1 h
  refine mem_ready.2 ⟨getD_f.2 (by rw [hv.lo j hk hj]; exact getD_f.1 h0), o, by rw [hp.pe j hj]; exact ho, fun e he hb => ?_⟩
  have hd := hp.dn j o hk hj ho e he hb
  by_cases hek : e.on < k
  · exact getD_t.2 (hv.lok _ hek (by omega))
  · exact getD_t.2 (by rw [hv.lo _ (by omega) (by omega)]; exact getD_t.1 (hall e he hb))
theorem ready2' {md : Region.Mode} {ops pops : Array Oper} {k m s : Nat} {os : Oper} {listed lp : Array Bool} (hp : Pre2 md ops pops k m s os) (hv : Inv2 md ops k m s listed lp) {j : Nat} (h : j ∈ Region.ready md pops lp) : k ≤ j ∧ j < m ∧ j ∈ Region.ready md ops listed := by
  obtain ⟨h0, o, ho, hall⟩ := mem_ready.1 h
  have hj : j < m := by have := (Array.getElem?_eq_some_iff.1 ho).1; rw [hp.pl] at this; exact this
  have hk : k ≤ j := by
    by_cases hc : j < k
    · have := getD_f.1 h0
      rw [hv.lok j hc hj] at this
      cases this
    · omega
  rw [hp.pe j hj] at ho
  refine ⟨hk, hj, mem_ready.2 ⟨getD_f.2 (by rw [← hv.lo j hk hj]; exact getD_f.1 h0), o, ho, fun e he hb => ?_⟩⟩
  have hd := hp.dn j o hk hj ho e he hb
  by_cases hek : e.on < k
  · exact getD_t.2 (hv.los _ hek hd.2)
  · exact getD_t.2 (by rw [← hv.lo _ (by omega) (by omega)]; exact getD_t.1 (hall e he hb))
theorem all2 {md : Region.Mode} {ops pops : Array Oper} {k m s : Nat} {os : Oper} {listed lp : Array Bool} (hp : Pre2 md ops pops k m s os) (hv : Inv2 md ops k m s listed lp) (h : Region.ready md pops lp = []) : ∀ j, k ≤ j → j < m → listed[j]? = some true := by
  intro j
  induction j using Nat.strongRecOn with
  | _ j ih =>
    intro hk hj
    obtain ⟨o, ho⟩ : ∃ o, ops[j]? = some o := ⟨_, Array.getElem?_eq_getElem (by have := hp.ml; omega)⟩
    rcases hb : lp[j]? with _ | b
    · have := Array.getElem?_eq_none_iff.1 hb
      have := hv.szP
      omega
    · cases b with
      | true => rw [← hv.lo j hk hj]; exact hb
      | false =>
        have : j ∈ Region.ready md pops lp := mem_ready.2 ⟨getD_f.2 hb, o, by rw [hp.pe j hj]; exact ho, fun e he hbd => by
          have hlt := hp.dn j o hk hj ho e he hbd
          by_cases hek : e.on < k
          · exact getD_t.2 (hv.lok _ hek (by omega))
          · exact getD_t.2 (by rw [hv.lo _ (by omega) (by omega)]; exact ih e.on hlt.1 (by omega) (by omega))⟩
        rw [h] at this
        cases this
theorem late2 {md : Region.Mode} {ops pops : Array Oper} {k m s : Nat} {os : Oper} {listed lp : Array Bool} (hp : Pre2 md ops pops k m s os) (hv : Inv2 md ops k m s listed lp) {p : Nat} (hm : m ≤ p) (h : p ∈ Region.ready md ops listed) : ∀ j, k ≤ j → j < m → listed[j]? = some true := by
  obtain ⟨h0, o, ho, hall⟩ := mem_ready.1 h
  have hps : p < ops.size := (Array.getElem?_eq_some_iff.1 ho).1
  have dep : ∀ i, depB md ops p i = true → listed[i]? = some true := fun i hi => by
    obtain ⟨o', ho', e, he, hb, hon⟩ := depB_spec hi
    rw [ho] at ho'
    cases ho'
    rw [← hon]
    exact getD_t.1 (hall e he hb)
  rcases hp.cv p hm hps with ⟨i, hi, his, hd⟩ | hc
  · have := dep i hd
    rw [hv.hi i hi his] at this
    cases this
  · have go : ∀ d j, m - j = d → k ≤ j → j < m → listed[j]? = some true := by
      intro d
      induction d using Nat.strongRecOn with
      | _ d ih =>
        intro j hd hk hj
        rcases hc j hk hj with h1 | ⟨i, hi, hij, h1⟩
        · exact dep j h1
        · have hi1 := ih (m - i) (by omega) i rfl (by omega) hi
          obtain ⟨o', ho', e, he, hb, hon⟩ := depB_spec h1
          rw [← hon]
          exact hv.cl i o' (by omega) hi hi1 ho' e he hb
    exact fun j hk hj => go _ j rfl hk hj
theorem Inv2.up {md : Region.Mode} {ops : Array Oper} {k m s : Nat} {listed lp : Array Bool} (_hv : Inv2 md ops k m s listed lp) (j : Nat) {i : Nat} (hi : listed[i]? = some true) : (listed.setIfInBounds j true)[i]? = some true := by
  have hil := (Array.getElem?_eq_some_iff.1 hi).1
  rw [Array.getElem?_setIfInBounds]
  split
  · rename_i e; subst e; simp [hil]
  · exact hi
theorem Inv2.add {md : Region.Mode} {ops : Array Oper} {k m s : Nat} {listed lp : Array Bool} (hv : Inv2 md ops k m s listed lp) {j : Nat} (hk : k ≤ j) (hj : j < m) (h : j ∈ Region.ready md ops listed) : Inv2 md ops k m s (listed.setIfInBounds j true) (lp.setIfInBounds j true) := by
  obtain ⟨h0, o, ho, hall⟩ := mem_ready.1 h
  have hlj : j < listed.size := (Array.getElem?_eq_some_iff.1 (getD_f.1 h0)).1
  refine ⟨by simpa using hv.sz, by simpa using hv.szP, fun i hki hi => ?_, fun i hik him => ?_, fun i hik his => hv.up j (hv.los i hik his), fun p hp hps => ?_, fun i oi hki hi hl hoi e he hb => ?_⟩
  · rw [Array.getElem?_setIfInBounds, Array.getElem?_setIfInBounds]
    split
    · simp [hv.szP, hj]
    · exact hv.lo i hki hi
  · rw [Array.getElem?_setIfInBounds, if_neg (by omega)]
    exact hv.lok i hik him
  · rw [Array.getElem?_setIfInBounds, if_neg (by omega)]
    exact hv.hi p hp hps
  · by_cases e1 : j = i
    · subst e1
      rw [ho] at hoi
      cases hoi
      exact hv.up j (getD_t.1 (hall e he hb))
    · rw [Array.getElem?_setIfInBounds, if_neg e1] at hl
      exact hv.up j (hv.cl i oi hki hi hl hoi e he hb)
theorem Inv2.stray {md : Region.Mode} {ops : Array Oper} {k m s : Nat} {listed lp : Array Bool} (hv : Inv2 md ops k m s listed lp) (hs : s < k) (hkm : k ≤ m) : Inv2 md ops k m s (listed.setIfInBounds s true) lp := by
  refine ⟨by simpa using hv.sz, hv.szP, fun i hki hi => ?_, hv.lok, fun i hik his => hv.up s (hv.los i hik his), fun p hp hps => ?_, fun i oi hki hi hl hoi e he hb => ?_⟩
  · rw [Array.getElem?_setIfInBounds, if_neg (by omega)]
    exact hv.lo i hki hi
  · rw [Array.getElem?_setIfInBounds, if_neg (by omega)]
    exact hv.hi p hp hps
  · rw [Array.getElem?_setIfInBounds, if_neg (by omega)] at hl
    exact hv.up s (hv.cl i oi hki hi hl hoi e he hb)
/-- All of the first m are listed, the stray or not. -/
def listed2 (n m s : Nat) (b : Bool) : Array Bool := ((List.range n).map fun i => if i = s then b else decide (i < m)).toArray
theorem listed2_at (n m s i : Nat) (b : Bool) : (listed2 n m s b)[i]? = if i < n then some (if i = s then b else decide (i < m)) else none := by
  unfold listed2
  rw [List.getElem?_toArray, List.getElem?_map]
  by_cases h : i < n
  · rw [List.getElem?_range h, if_pos h]; rfl
  · rw [List.getElem?_eq_none (by simpa using Nat.le_of_not_lt h), if_neg h]; rfl
theorem same2 {md : Region.Mode} {ops pops : Array Oper} {k m s : Nat} {os : Oper} {listed lp : Array Bool} {b : Bool} (hp : Pre2 md ops pops k m s os) (hv : Inv2 md ops k m s listed lp) (hs : listed[s]? = some b) (hall : ∀ j, k ≤ j → j < m → listed[j]? = some true) : listed = listed2 ops.size m s b := by
  have h1 := hp.sk
  have h2 := hp.km
  apply Array.ext_getElem?
  intro i
  rw [listed2_at]
  by_cases hin : i < ops.size
  · rw [if_pos hin]
    by_cases his : i = s
    · subst his; rw [if_pos rfl]; exact hs
    · rw [if_neg his]
      by_cases him : i < m
      · rw [decide_eq_true him]
        by_cases hik : i < k
        · exact hv.los i hik his
        · exact hall i (by omega) him
      · rw [decide_eq_false him]
        exact hv.hi i (by omega) hin
  · rw [if_neg hin]
    exact Array.getElem?_eq_none (by have := hv.sz; omega)
theorem done2 {md : Region.Mode} {ops pops : Array Oper} {k m s : Nat} {os : Oper} {listed lp : Array Bool} (hp : Pre2 md ops pops k m s os) (hv : Inv2 md ops k m s listed lp) (hall : ∀ j, k ≤ j → j < m → listed[j]? = some true) : Region.ready md pops lp = [] := by
  apply List.eq_nil_iff_forall_not_mem.2
  intro j hj
  obtain ⟨hk, hm, hr⟩ := ready2' hp hv hj
  have := getD_f.1 (mem_ready.1 hr).1
  rw [hall j hk hm] at this
  cases this
/-- The stray has come. -/
theorem main2V {P : Program} {md : Region.Mode} {ops pops : Array Oper} {k m s r : Nat} {os : Oper} {C : World → Prop} {Q : Exit → Act → World → Prop} {Qm : Act → Prop} (hp : Pre2 md ops pops k m s os) (hF : ∀ a w, C w → Qm a → wpAny P md ops Q r (listed2 ops.size m s true) a w) :
    ∀ (n : Nat) (listed lp : Array Bool) (a : Act) (w : World), Inv2 md ops k m s listed lp → listed[s]? = some true → C w → wpAnyQ P md pops C Qm n lp a → wpAny P md ops Q (n + r) listed a w := by
  intro n
  induction n with
  | zero =>
    intro listed lp a w hv hs hC h
    rw [same2 hp hv hs (all2 hp hv h.1), Nat.zero_add]
    exact hF a w hC h.2
  | succ n ih =>
    intro listed lp a w hv hs hC h
    rw [show n + 1 + r = (n + r) + 1 by omega]
    refine ⟨fun h0 => ?_, fun i hi => ?_⟩
    · have hpr : Region.ready md pops lp = [] := List.eq_nil_iff_forall_not_mem.2 fun j hj => by
        have := (ready2' hp hv hj).2.2
        rw [h0] at this
        cases this
      have e1 := same2 hp hv hs (all2 hp hv hpr)
      have hf := hF a w hC (h.1 hpr)
      rw [← e1] at hf
      cases r with
      | zero => exact hf.2
      | succ r => exact hf.1 h0
    · by_cases him : i < m
      · have hki : k ≤ i := by
          by_cases hc : i < k
          · have h2 := getD_f.1 (mem_ready.1 hi).1
            by_cases his : i = s
            · subst his; rw [hs] at h2; cases h2
            · rw [hv.los i hc his] at h2; cases h2
          · omega
        have hr := ready2 hp hv hki him hi
        obtain ⟨_, o, ho, _⟩ := mem_ready.1 hi
        exact pre_op ho (by rw [hp.pe i him]; exact ho) (hp.gd i o hki him ho) hC (fun a' w' hw' hk => ih _ _ a' w' (hv.add hki him hi) (hv.up i hs) hw' hk) (h.2 i hr)
      · have hall := late2 hp hv (by omega) hi
        have e1 := same2 hp hv hs hall
        have hf := wpAny_moreN (hF a w hC (h.1 (done2 hp hv hall))) (n + 1)
        rw [← e1, show n + 1 + r = (n + r) + 1 by omega] at hf
        exact hf.2 i hi
/-- The stray has not come yet. -/
theorem main2U {P : Program} {md : Region.Mode} {ops pops : Array Oper} {k m s r : Nat} {os : Oper} {v : Value} {C : World → Prop} {Q : Exit → Act → World → Prop} {Qm : Act → Prop} (hp : Pre2 md ops pops k m s os) (hF : ∀ a w, C w → Qm a → wpAny P md ops Q r (listed2 ops.size m s true) a w)
    (hU : ∀ a w, C w → Qm (a.put os.dst v) → wpAny P md ops Q (r + 1) (listed2 ops.size m s false) a w) :
    ∀ (n : Nat) (listed lp : Array Bool) (a : Act) (w : World), Inv2 md ops k m s listed lp → listed[s]? = some false → C w → YieldsIn P pops C os v a → wpAnyQ P md pops C Qm n lp (a.put os.dst v) → wpAny P md ops Q (n + (r + 1)) listed a w := by
  have hsm : s < m := Nat.lt_of_lt_of_le hp.sk hp.km
  have stray : ∀ (n : Nat) (listed lp : Array Bool) (a : Act) (w : World), Inv2 md ops k m s listed lp → listed[s]? = some false → C w → YieldsIn P pops C os v a → wpAnyQ P md pops C Qm n lp (a.put os.dst v) → wpOp P ops Q s (wpAny P md ops Q (n + r) (listed.setIfInBounds s true)) a w := fun n listed lp a w hv hs hC hy h => by
    have hsl : s < listed.size := (Array.getElem?_eq_some_iff.1 hs).1
    exact pre_op hp.so (by rw [hp.pe s hsm]; exact hp.so) hp.sg hC (fun a' w' hw' hk => main2V hp hF n _ lp a' w' (hv.stray hp.sk hp.km) (by simp [hsl]) hw' hk) (hy.qOp (by rw [hp.pe s hsm]; exact hp.so) h)
  intro n
  induction n with
  | zero =>
    intro listed lp a w hv hs hC hy h
    rw [same2 hp hv hs (all2 hp hv h.1), Nat.zero_add]
    exact hU a w hC h.2
  | succ n ih =>
    intro listed lp a w hv hs hC hy h
    rw [show n + 1 + (r + 1) = (n + 1 + r) + 1 by omega]
    refine ⟨fun h0 => ?_, fun i hi => ?_⟩
    · have hpr : Region.ready md pops lp = [] := List.eq_nil_iff_forall_not_mem.2 fun j hj => by
        have := (ready2' hp hv hj).2.2
        rw [h0] at this
        cases this
      have e1 := same2 hp hv hs (all2 hp hv hpr)
      have hf := hU a w hC (h.1 hpr)
      rw [← e1] at hf
      exact hf.1 h0
    · by_cases his : i = s
      · subst his
        exact stray (n + 1) listed lp a w hv hs hC hy h
      · by_cases him : i < m
        · have hki : k ≤ i := by
            by_cases hc : i < k
            · have h2 := getD_f.1 (mem_ready.1 hi).1
              rw [hv.los i hc his] at h2; cases h2
            · omega
          have hr := ready2 hp hv hki him hi
          obtain ⟨_, o, ho, _⟩ := mem_ready.1 hi
          have hpo : pops[i]? = some o := by rw [hp.pe i him]; exact ho
          have hq := qOp_put hpo (hp.ap i o hki him ho) hp.ss (fun cs b => hp.sel i o cs b hki him ho) hy (h.2 i hr)
          have hns : (listed.setIfInBounds i true)[s]? = some false := by rw [Array.getElem?_setIfInBounds, if_neg his]; exact hs
          rw [show n + 1 + r = n + (r + 1) by omega]
          exact pre_op ho hpo (hp.gd i o hki him ho) hC (fun a' w' hw' hk => ih _ _ a' w' (hv.add hki him hi) hns hw' hk.1 hk.2) hq
        · have hall := late2 hp hv (by omega) hi
          have e1 := same2 hp hv hs hall
          have hf := wpAny_moreN (hU a w hC (h.1 (done2 hp hv hall))) (n + 1)
          rw [← e1, show n + 1 + (r + 1) = (n + 1 + r) + 1 by omega] at hf
          exact hf.2 i hi
end Go.Proofs.YtdgpdmohfnealaaGreatDoor
/- The law with one stray, as it is used. -/
namespace Go.Proofs.YtdgpdmohfnealaaGreatDoor
open Go.RowKit

def pre2B (md : Region.Mode) (ops pops : Array Oper) (k m s : Nat) (os : Oper) : Bool :=
  decide (s < k) && decide (k ≤ m) && os.guard.isNone &&
  ((List.range m).all fun j => decide (j < k) || match ops[j]? with
    | some o => o.guard.isNone && o.after.all (fun e => !Region.binds md e || (decide (e.on < j) && !(e.on == s))) && os.apart pops o
    | none => false) &&
  ((List.range ops.size).all fun p => decide (p < m) ||
    ((List.range ops.size).any fun i => decide (m ≤ i) && depB md ops p i) ||
    ((List.range m).all fun j => decide (j < k) || depB md ops p j || ((List.range m).any fun i => decide (j < i) && depB md ops i j)))
theorem Pre2.of {md : Region.Mode} {L : List Oper} {k m s : Nat} {os : Oper} (hm : m ≤ L.length) (hos : L.toArray[s]? = some os) (hsel : Region.noSelect L.toArray = true) (h : pre2B md L.toArray (L.take m).toArray k m s os = true) : Pre2 md L.toArray (L.take m).toArray k m s os := by
  unfold pre2B at h
  simp only [Bool.and_eq_true, decide_eq_true_eq, List.all_eq_true, List.mem_range, Option.isNone_iff_eq_none, Bool.or_eq_true] at h
  obtain ⟨⟨⟨⟨h1, h2⟩, h3⟩, h4⟩, h5⟩ := h
  have g1 : ∀ j o, k ≤ j → j < m → L.toArray[j]? = some o → o.guard = none ∧ (∀ e ∈ o.after, Region.binds md e = true → e.on < j ∧ e.on ≠ s) ∧ os.apart (L.take m).toArray o = true := by
    intro j o hk hj ho
    rcases h4 j hj with h6 | h6
    · omega
    · rw [ho] at h6
      simp only [Bool.and_eq_true, Option.isNone_iff_eq_none, Array.all_eq_true_iff_forall_mem, Bool.or_eq_true, Bool.not_eq_true', decide_eq_true_eq] at h6
      refine ⟨h6.1.1, fun e he hb => ?_, h6.2⟩
      rcases h6.1.2 e he with h7 | h7
      · rw [hb] at h7; cases h7
      · exact ⟨h7.1, by simpa using h7.2⟩
  refine ⟨by simpa using hm, by simp; omega, fun j hj => by simp [hj], h1, h2, fun j o hk hj ho => (g1 j o hk hj ho).1, fun j o hk hj ho => (g1 j o hk hj ho).2.1, hos, h3, fun j o hk hj ho => (g1 j o hk hj ho).2.2, fun cs b => Region.noSelect_spec hsel s os cs b hos, fun j o cs b _ _ ho => Region.noSelect_spec hsel j o cs b ho, fun p hp hps => ?_⟩
  rcases h5 p hps with (h6 | h6) | h6
  · omega
  · rw [List.any_eq_true] at h6
    obtain ⟨i, hi, h7⟩ := h6
    simp only [Bool.and_eq_true, decide_eq_true_eq] at h7
    exact .inl ⟨i, h7.1, by simpa using hi, h7.2⟩
  · refine .inr fun j hk hj => ?_
    rcases h6 j hj with (h7 | h7) | h7
    · omega
    · exact .inl h7
    · rw [List.any_eq_true] at h7
      obtain ⟨i, hi, h8⟩ := h7
      simp only [Bool.and_eq_true, decide_eq_true_eq] at h8
      exact .inr ⟨i, by simpa using hi, h8.1, h8.2⟩
theorem put_back (a : Act) (d : Option Tmp) (v : Value) : ∃ x, (a.put d v).put d x = a := by
  cases d with
  | none => exact ⟨v, rfl⟩
  | some d =>
    refine ⟨a.tmps.getD d undef, ?_⟩
    unfold Act.put
    dsimp only
    have : (a.tmps.setIfInBounds d v).setIfInBounds d (a.tmps.getD d undef) = a.tmps := by
      apply Array.ext_getElem?
      intro i
      rw [Array.getElem?_setIfInBounds]
      split
      · rename_i e; subst e
        by_cases hd : d < a.tmps.size
        · simp [hd, Array.getD_eq_getD_getElem?]
        · simp [hd]
      · rename_i e
        rw [Array.getElem?_setIfInBounds, if_neg e]
    rw [this]
/-- Those ahead of k are listed but for the stray. -/
def listed0 (n k s : Nat) : Array Bool := ((List.range n).map fun i => decide (i < k) && !(i == s)).toArray
theorem listed0_at (n k s i : Nat) : (listed0 n k s)[i]? = if i < n then some (decide (i < k) && !(i == s)) else none := by
  unfold listed0
  rw [List.getElem?_toArray, List.getElem?_map]
  by_cases h : i < n
  · rw [List.getElem?_range h, if_pos h]; rfl
  · rw [List.getElem?_eq_none (by simpa using Nat.le_of_not_lt h), if_neg h]; rfl
def listedP (m k : Nat) : Array Bool := ((List.range m).map fun i => decide (i < k)).toArray
theorem listedP_at (m k i : Nat) : (listedP m k)[i]? = if i < m then some (decide (i < k)) else none := listed1_at m k i
theorem wpAny_stray {P : Program} {Q : Exit → Act → World → Prop} {a : Act} {w w' : World} {L : List Oper} (k m s r : Nat) (os : Oper) (v : Value) (hos : L.toArray[s]? = some os) (hml : decide (m ≤ L.length) = true) (hsel : Region.noSelect L.toArray = true) (hsel2 : Region.noSelect (L.take m).toArray = true) (hlex : Region.lexFrom .any (L.take m).toArray (m - k) k (listedP m k) = true) (hp : pre2B .any L.toArray (L.take m).toArray k m s os = true)
    (hw : ∃ n, w' = w.drewN n) (hy : YieldsIn P (L.take m).toArray (fun w' => ∃ n, w' = w.drewN n) os v a)
    (h : wpQuiet P (L.take m).toArray (fun w' => ∃ n, w' = w.drewN n) (fun F => ∀ w', (∃ n, w' = w.drewN n) → (∀ x, wpAny P .any L.toArray Q (r + 1) (listed2 L.length m s false) (F.put os.dst x) w') ∧ wpAny P .any L.toArray Q r (listed2 L.length m s true) F w') ((L.take m).drop k) (a.put os.dst v)) :
    wpAny P .any L.toArray Q (m - k + (r + 1)) (listed0 L.length k s) a w' := by
  have hml' : m ≤ L.length := by simpa using hml
  have hpre := Pre2.of (md := .any) hml' hos hsel hp
  have h1 := hpre.sk
  have h2 := hpre.km
  have hl : ((L.take m).drop k).length = m - k := by rw [List.length_drop, List.length_take]; omega
  have hq := wpAnyQ_lex (C := fun w' => ∃ n, w' = w.drewN n) (md := .any) hsel2 ((L.take m).drop k) k (listedP m k) (a.put os.dst v) (fun j => by simp [List.getElem?_drop]) (by rw [hl]; exact hlex) h
  rw [hl] at hq
  have hsz : L.toArray.size = L.length := by simp
  refine main2U (P := P) (Q := Q) (v := v) (C := fun w' => ∃ n, w' = w.drewN n) hpre (fun a' w2 hw2 hqm => by rw [hsz]; exact (hqm w2 hw2).2) (fun a' w2 hw2 hqm => ?_) (m - k) (listed0 L.length k s) (listedP m k) a w' ⟨?_, ?_, ?_, ?_, ?_, ?_, ?_⟩ ?_ hw hy hq
  · obtain ⟨x, hx⟩ := put_back a' os.dst v
    have := (hqm w2 hw2).1 x
    rw [hx] at this
    rw [hsz]
    exact this
  · simp [listed0]
  · simp [listedP]
  · intro j hk hj
    rw [listedP_at, listed0_at, if_pos hj, if_pos (by omega), decide_eq_false (by omega)]
    rfl
  · intro j hk hj
    rw [listedP_at, if_pos hj, decide_eq_true hk]
  · intro j hk hs
    rw [listed0_at, if_pos (by omega), decide_eq_true hk]
    simp [hs]
  · intro p hp hps
    rw [listed0_at, if_pos (by simpa using hps), decide_eq_false (by omega)]
    rfl
  · intro j o hk hj hlt
    rw [listed0_at, if_pos (by omega), decide_eq_false (by omega)] at hlt
    cases hlt
  · rw [listed0_at, if_pos (by omega)]
    simp
end Go.Proofs.YtdgpdmohfnealaaGreatDoor
