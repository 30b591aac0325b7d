/- Rows that a call has told: all their own; what is kept of them. -/
import Derived.Test.YtogjjmbcbnceoaaGreatKArM
namespace Go.Proofs.YtogjjmbcbnceoaaGreat
open Go.RowKit

structure RK (w : World) (base : Nat) (va : Value) (kvs : List Value) (rows : List (List Int)) : Prop where
  kl : kvs.length = rows.length
  own : w.ownsRow base 23 1 va rows.length kvs
  kid : ∀ (i : Nat) (r : List Int) (kv : Value), rows[i]? = some r → kvs[i]? = some kv → OwnI w base kv r
  far : ∀ kv ∈ kvs, ∀ g, kv.ownBlock = some g → va.ownBlock ≠ some g
  ap : ∀ (i j : Nat) (a b : Value) (g : Nat), i ≠ j → kvs[i]? = some a → kvs[j]? = some b → a.ownBlock = some g → b.ownBlock ≠ some g
theorem RK.nil (w : World) (base : Nat) : RK w base nilV [] [] := ⟨rfl, World.ownsRow_nil _ _ _ _, fun i r kv h => (by simp at h), fun kv h => (by cases h), fun i j a b g _ h => (by simp at h)⟩
theorem RK.of {w : World} {base G n : Nat} {kvs : List Value} {rows : List (List Int)} (h : RowsIn w base G n kvs rows) : RK w base (.slice (some ⟨G, 0, none⟩) n n) kvs rows :=
  ⟨by rw [h.klen, h.rlen], by rw [h.rlen]; exact h.own, fun i r kv h1 h2 => (h.kid i r kv h1 h2).1, fun kv hk g hg e => by
    obtain ⟨i, hi⟩ := List.getElem?_of_mem hk
    have hir : i < rows.length := by rw [h.rlen, ← h.klen]; exact (List.getElem?_eq_some_iff.1 hi).1
    have := (h.kid i _ kv (List.getElem?_eq_getElem hir) hi).2
    simp [Value.ownBlock] at e
    rw [e] at this
    exact this hg, h.apart⟩
theorem RK.mono {w : World} {base base' : Nat} {va : Value} {kvs : List Value} {rows : List (List Int)} (h : RK w base va kvs rows) (hb : base' ≤ base) : RK w base' va kvs rows :=
  ⟨h.kl, own_mono h.own hb, fun i r kv h1 h2 => own_mono (h.kid i r kv h1 h2) hb, h.far, h.ap⟩
/-- What lies from s on is as it was. -/
structure Above (s : Nat) (w w' : World) : Prop where
  size : w.heap.size ≤ w'.heap.size
  same : ∀ k, s ≤ k → k < w.heap.size → w'.heap[k]? = w.heap[k]?
theorem Above.of {s : Nat} {w w' : World} (h : Below w.heap.size w w') : Above s w w' := ⟨h.size, fun k _ hk => h.block k hk⟩
theorem Above.trans {s : Nat} {w w1 w2 : World} (h : Above s w w1) (h2 : Above s w1 w2) : Above s w w2 := ⟨Nat.le_trans h.size h2.size, fun k hs hk => (h2.same k hs (Nat.lt_of_lt_of_le hk h.size)).trans (h.same k hs hk)⟩
theorem Above.only {s : Nat} {w w' : World} {S : Nat → Prop} (h : Only w w' S) (hS : ∀ k, S k → k < s) : Above s w w' := ⟨h.low.size, fun k hs hk => h.same k hk (fun hc => by have := hS k hc; omega)⟩
theorem Above.but {s : Nat} {w w' : World} {g : Nat} (h : But w w' g) (hg : g < s) : Above s w w' := ⟨by rw [h.size]; exact Nat.le_refl _, fun k hs _ => h.same k (by omega)⟩
theorem Above.own {s : Nat} {w w' : World} (h : Above s w w') {base : Nat} {e : TypeId} {sz : Nat} {v : Value} {n : Nat} {xs : List Value} (ho : w.ownsRow base e sz v n xs) (hs : s ≤ base) : w'.ownsRow base e sz v n xs :=
  owns_same ho fun q hq => h.same q (Nat.le_trans hs (World.ownsRow.lt ho q hq).1) (World.ownsRow.lt ho q hq).2
theorem RK.above {s : Nat} {w w' : World} (h : Above s w w') {base : Nat} {va : Value} {kvs : List Value} {rows : List (List Int)} (hr : RK w base va kvs rows) (hs : s ≤ base) : RK w' base va kvs rows :=
  ⟨hr.kl, h.own hr.own hs, fun i r kv h1 h2 => h.own (hr.kid i r kv h1 h2) hs, hr.far, hr.ap⟩
theorem RK.net {w : World} {base : Nat} {va : Value} {kvs : List Value} {rows : List (List Int)} (h : RK w base va kvs rows) (hn : rows.length ≤ 100000) (hl : ∀ r ∈ rows, r.length ≤ 100000) : NetAt w va rows := by
  refine ⟨kvs, h.kl, ?_, fun i r kv h1 h2 => OwnI.at' (h.kid i r kv h1 h2) (by have := hl r (List.mem_of_getElem? h1); omega)⟩
  rcases h.own.2 with ⟨hv, h0⟩ | ⟨g, cap, cur, hv, _, hh, hc, _⟩
  · exact ⟨none, 0, by rw [hv, h0], ⟨by omega, by omega⟩, .inl h0⟩
  · subst hv
    refine ⟨_, _, rfl, ⟨hc, by omega⟩, .inr ⟨g, 0, rfl, (Array.getElem?_eq_some_iff.1 hh).1, fun j u hj => ?_⟩⟩
    rw [Nat.zero_add, World.ownsRow.cellAt h.own j (by have := (List.getElem?_eq_some_iff.1 hj).1; rw [h.kl] at this; omega)]
    exact hj
theorem RK.lt {w : World} {base : Nat} {va : Value} {kvs : List Value} {rows : List (List Int)} (h : RK w base va kvs rows) : (∀ g, va.ownBlock = some g → base ≤ g ∧ g < w.heap.size) ∧ ∀ kv ∈ kvs, ∀ g, kv.ownBlock = some g → base ≤ g ∧ g < w.heap.size := by
  refine ⟨fun g hg => World.ownsRow.lt h.own g hg, fun kv hk g hg => ?_⟩
  obtain ⟨i, hi⟩ := List.getElem?_of_mem hk
  have hir : i < rows.length := by rw [← h.kl]; exact (List.getElem?_eq_some_iff.1 hi).1
  exact World.ownsRow.lt (h.kid i _ kv (List.getElem?_eq_getElem hir) hi) g hg
/-- Two such, one behind the other, in a list of two. -/
theorem RK.two {w3 w : World} {base b2 : Nat} {va vb : Value} {kva kvb : List Value} {rows : List (List Int)} {gL : Nat} (ha3 : RK w3 base va kva rows) (h3 : w3.heap.size ≤ b2) (ha : RK w base va kva rows) (hb : RK w b2 vb kvb rows) (hbb : base ≤ b2) (hbs : base ≤ w.heap.size) (hgl : gL < w.heap.size) (hn : ∀ r ∈ rows, r.length ≤ 100000)
    (hca : w.cell? ⟨gL, 0, none⟩ = some va) (hcb : w.cell? ⟨gL, 1, none⟩ = some vb) (hfa : ∀ g, (va.ownBlock = some g ∨ vb.ownBlock = some g ∨ (∃ x ∈ kva ++ kvb, x.ownBlock = some g)) → g ≠ gL) :
    RA w base gL 2 (fun k => if k = 0 then va else vb) (fun _ => rows.length) (fun k => if k = 0 then kva else kvb) (kva ++ kvb) (rows ++ rows) := by
  have hA := ha3.lt
  have hB := hb.lt
  refine ⟨hbs, hgl, fun k hk => ?_, fun k hk => ?_, fun j k g hj hk hjk h1 h2 => ?_, fun k hk e => ?_, ?_, ⟨by simp [ha.kl, hb.kl], fun k x l h1 h2 => ?_, fun i j a b g hij h1 h2 hga hgb => ?_⟩, fun x hx g hg => ⟨hfa g (.inr (.inr ⟨x, hx, hg⟩)), fun k hk e => ?_⟩⟩
  · rcases k with _ | _ | k
    · exact hca
    · exact hcb
    · omega
  · rcases k with _ | _ | k
    · exact ha.own
    · exact own_mono hb.own hbb
    · omega
  · have key : ∀ g, va.ownBlock = some g → vb.ownBlock ≠ some g := fun g h1 h2 => by
      have := (hA.1 g h1).2
      have := (hB.1 g h2).1
      omega
    rcases j with _ | _ | j
    · rcases k with _ | _ | k
      · exact hjk rfl
      · exact key g h1 h2
      · omega
    · rcases k with _ | _ | k
      · exact key g h2 h1
      · exact hjk rfl
      · omega
    · omega
  · rcases k with _ | _ | k
    · exact hfa gL (.inl e) rfl
    · exact hfa gL (.inr (.inl e)) rfl
    · omega
  · show kva ++ kvb = (List.range 2).flatMap _
    simp [List.range_succ]
  · have hl := hn l (by
      have := List.mem_of_getElem? h2
      rcases List.mem_append.1 this with h | h <;> exact h)
    refine ⟨?_, hl⟩
    rw [List.getElem?_append] at h1 h2
    rw [ha.kl] at h1
    split at h1
    · rename_i hlt
      rw [if_pos hlt] at h2
      exact ha.kid k l x h2 h1
    · rename_i hlt
      rw [if_neg hlt] at h2
      exact own_mono (hb.kid _ l x h2 h1) hbb
  · rw [List.getElem?_append] at h1 h2
    by_cases e1 : i < kva.length
    · rw [if_pos e1] at h1
      by_cases e2 : j < kva.length
      · rw [if_pos e2] at h2
        exact ha.ap i j a b g hij h1 h2 hga hgb
      · rw [if_neg e2] at h2
        have := (hA.2 a (List.mem_of_getElem? h1) g hga).2
        have := (hB.2 b (List.mem_of_getElem? h2) g hgb).1
        omega
    · rw [if_neg e1] at h1
      by_cases e2 : j < kva.length
      · rw [if_pos e2] at h2
        have := (hA.2 b (List.mem_of_getElem? h2) g hgb).2
        have := (hB.2 a (List.mem_of_getElem? h1) g hga).1
        omega
      · rw [if_neg e2] at h2
        exact hb.ap _ _ a b g (by omega) h1 h2 hga hgb
  · rcases List.mem_append.1 hx with hx | hx
    · rcases k with _ | _ | k
      · exact ha.far x hx g hg e
      · have := (hA.2 x hx g hg).2
        have := (hB.1 g e).1
        omega
      · omega
    · rcases k with _ | _ | k
      · have := (hB.2 x hx g hg).1
        have := (hA.1 g e).2
        omega
      · exact hb.far x hx g hg e
      · omega
end Go.Proofs.YtogjjmbcbnceoaaGreat
