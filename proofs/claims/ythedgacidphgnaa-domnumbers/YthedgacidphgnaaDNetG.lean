/- Rows of one's own in a row that grows (as in DFr1). -/
import Derived.Test.YthedgacidphgnaaDMem
namespace Go.Proofs.Ythedgacidphgnaa
open Go.RowKit

/-- Rows of one's own in a row that grows. -/
def NetG (w : World) (base : Nat) (v : Value) (rows : List (List Int)) : Prop :=
  ∃ kvs : List Value, kvs.length = rows.length ∧ w.ownsRow base 25 1 v rows.length kvs ∧ ∀ (i : Nat) (r : List Int) (kv : Value), rows[i]? = some r → kvs[i]? = some kv → OwnI w base kv r ∧ ∀ g, kv.ownBlock = some g → v.ownBlock ≠ some g
theorem NetG.nil (w : World) (base : Nat) : NetG w base (.slice none 0 0) [] := ⟨[], rfl, World.ownsRow_nil _ _ _ _, fun i r kv h => by simp at h⟩
theorem NetG.below {w w' : World} {base : Nat} {v : Value} {rows : List (List Int)} (h : NetG w base v rows) (hb : Below w.heap.size w w') : NetG w' base v rows := by
  obtain ⟨kvs, h1, h2, h3⟩ := h
  exact ⟨kvs, h1, owns_below h2 hb, fun i r kv e1 e2 => ⟨owns_below (h3 i r kv e1 e2).1 hb, (h3 i r kv e1 e2).2⟩⟩
theorem NetG.mono {w : World} {base base' : Nat} {v : Value} {rows : List (List Int)} (h : NetG w base v rows) (hb : base' ≤ base) : NetG w base' v rows := by
  obtain ⟨kvs, h1, h2, h3⟩ := h
  exact ⟨kvs, h1, own_mono h2 hb, fun i r kv e1 e2 => ⟨own_mono (h3 i r kv e1 e2).1 hb, (h3 i r kv e1 e2).2⟩⟩
theorem NetG.own {w : World} {base : Nat} {v : Value} {rows : List (List Int)} (h : NetG w base v rows) : ∃ kvs : List Value, w.ownsRow base 25 1 v rows.length kvs := by
  obtain ⟨kvs, _, h2, _⟩ := h
  exact ⟨kvs, h2⟩
/-- One more row. -/
theorem NetG.push {w w2 : World} {base : Nat} {v v2 lv : Value} {rows : List (List Int)} {l : List Int} {kvs : List Value} (hl : kvs.length = rows.length)
    (hk : ∀ (i : Nat) (r : List Int) (kv : Value), rows[i]? = some r → kvs[i]? = some kv → OwnI w base kv r ∧ ∀ g, kv.ownBlock = some g → v.ownBlock ≠ some g) (hL : OwnI w base lv l) (hLv : ∀ g, lv.ownBlock = some g → v.ownBlock ≠ some g)
    (ho : w2.ownsRow base 25 1 v2 (rows.length + 1) (kvs ++ [lv])) (hg : w.grownBy w2 v.ownBlock) (hat : v2.ownBlock = v.ownBlock ∨ v2.ownBlock = some w.heap.size) : NetG w2 base v2 (rows ++ [l]) := by
  have fr : ∀ (kv : Value) (r : List Int), OwnI w base kv r → (∀ g, kv.ownBlock = some g → v.ownBlock ≠ some g) → OwnI w2 base kv r ∧ ∀ g, kv.ownBlock = some g → v2.ownBlock ≠ some g := fun kv r h1 h2 => by
    refine ⟨owns_same h1 fun g hgk => hg.block g (h1.lt g hgk).2 (fun e => h2 g hgk e.symm), fun g hgk e => ?_⟩
    rcases hat with h3 | h3
    · exact h2 g hgk (by rw [← h3]; exact e)
    · rw [h3] at e
      have := (h1.lt g hgk).2
      cases e
      omega
  refine ⟨kvs ++ [lv], by simp [hl], by simpa using ho, fun i r kv e1 e2 => ?_⟩
  rcases Nat.lt_or_ge i rows.length with h1 | h1
  · rw [List.getElem?_append_left h1] at e1
    rw [List.getElem?_append_left (by omega)] at e2
    obtain ⟨h2, h3⟩ := hk i r kv e1 e2
    exact fr kv r h2 h3
  · rw [List.getElem?_append_right h1] at e1
    rw [List.getElem?_append_right (by omega)] at e2
    have hi : i = rows.length := by
      have := (List.getElem?_eq_some_iff.1 e1).1
      simp at this
      omega
    subst hi
    simp at e1
    rw [hl] at e2
    simp at e2
    subst e1; subst e2
    exact fr _ _ hL hLv
theorem NetG.at' {w : World} {base : Nat} {v : Value} {rows : List (List Int)} (h : NetG w base v rows) (hn : rows.length ≤ 140737488355328) (hl : ∀ r ∈ rows, r.length ≤ 140737488355328) : NetAt w v rows := by
  obtain ⟨kvs, h1, h2, h3⟩ := h
  refine ⟨kvs, h1, ?_, fun i r kv e1 e2 => (h3 i r kv e1 e2).1.at' (hl r (List.mem_of_getElem? e1))⟩
  rcases h2.2 with ⟨rfl, h0⟩ | ⟨g, cap, cur, rfl, _, hg, hc, _⟩
  · exact ⟨none, 0, by rw [h0], ⟨by omega, hn⟩, .inl h0⟩
  · refine ⟨_, _, rfl, ⟨hc, hn⟩, .inr ⟨g, 0, rfl, (Array.getElem?_eq_some_iff.1 hg).1, fun j u hj => ?_⟩⟩
    have := h2.cells (g := g) rfl j u hj
    rwa [Addr.add_lit] at this
end Go.Proofs.Ythedgacidphgnaa
