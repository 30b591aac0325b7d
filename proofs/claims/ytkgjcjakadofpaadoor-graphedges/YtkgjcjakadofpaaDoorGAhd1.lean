/- Rows of rows in memory of one's own. -/
import Derived.Test.YtkgjcjakadofpaaDoorGLib
import Derived.Test.YtkgjcjakadofpaaDoorGAhead
import Derived.Deep.OwnRows
namespace Go.Proofs.YtkgjcjakadofpaaDoor
open Go.RowKit

structure RowsIn (w : World) (base G n : Nat) (kvs : List Value) (rows : List (List Int)) : Prop where
  klen : kvs.length = n
  rlen : rows.length = n
  own : w.ownsRow base 28 1 (.slice (some ⟨G, 0, none⟩) n n) n kvs
  kid : ∀ (i : Nat) (r : List Int) (kv : Value), rows[i]? = some r → kvs[i]? = some kv → OwnI w base kv r ∧ kv.ownBlock ≠ some G
  apart : ∀ (i j : Nat) (a b : Value) (g : Nat), i ≠ j → kvs[i]? = some a → kvs[j]? = some b → a.ownBlock = some g → b.ownBlock ≠ some g
theorem RowsIn.below {w w' : World} {base G n : Nat} {kvs : List Value} {rows : List (List Int)} (h : RowsIn w base G n kvs rows) (hb : Below w.heap.size w w') : RowsIn w' base G n kvs rows :=
  ⟨h.klen, h.rlen, owns_below h.own hb, fun i r kv h1 h2 => ⟨owns_below (h.kid i r kv h1 h2).1 hb, (h.kid i r kv h1 h2).2⟩, h.apart⟩
theorem RowsIn.cellG {w : World} {base G n : Nat} {kvs : List Value} {rows : List (List Int)} (h : RowsIn w base G n kvs rows) {t : Nat} {kv : Value} (hk : kvs[t]? = some kv) : w.cell? ⟨G, t, none⟩ = some kv := by
  have ht : t < n := by have := (List.getElem?_eq_some_iff.1 hk).1; rw [h.klen] at this; exact this
  rw [h.own.cellAt t (by omega)]
  exact hk
theorem RowsIn.fzG {w : World} {base G n : Nat} {kvs : List Value} {rows : List (List Int)} (h : RowsIn w base G n kvs rows) (t : Nat) : w.frozen? ⟨G, t, none⟩ = false := h.own.frozenAt t
theorem RowsIn.ltG {w : World} {base G n : Nat} {kvs : List Value} {rows : List (List Int)} (h : RowsIn w base G n kvs rows) : base ≤ G ∧ G < w.heap.size := h.own.lt G rfl
/-- One row is longer by one. -/
theorem RowsIn.push {w w2 : World} {base G n : Nat} {kvs : List Value} {rows : List (List Int)} (h : RowsIn w base G n kvs rows) {t : Nat} {r : List Int} {kv v' : Value} {x : Int} (hr : rows[t]? = some r) (hk : kvs[t]? = some kv)
    (ho : w2.ownsRow base 3 1 v' (r.length + 1) (r.map intV ++ [intV x])) (hg : w.grownBy w2 kv.ownBlock) (hat : v'.ownBlock = kv.ownBlock ∨ v'.ownBlock = some w.heap.size) :
    RowsIn (w2.setCell ⟨G, t, none⟩ v') base G n (kvs.set t v') (rows.modify t (· ++ [x])) ∧ w2.cell? ⟨G, t, none⟩ = some kv ∧ w2.frozen? ⟨G, t, none⟩ = false ∧
      (∀ k, k < w.heap.size → k ≠ G → kv.ownBlock ≠ some k → (w2.setCell ⟨G, t, none⟩ v').heap[k]? = w.heap[k]?) ∧ w.heap.size ≤ (w2.setCell ⟨G, t, none⟩ v').heap.size := by
  have hG := h.ltG
  have hkG := (h.kid t r kv hr hk).2
  have eG : w2.heap[G]? = w.heap[G]? := hg.block G hG.2 (fun e => hkG e.symm)
  have own2 : w2.ownsRow base 28 1 (.slice (some ⟨G, 0, none⟩) n n) n kvs := owns_same h.own fun q hq => by simp [Value.ownBlock] at hq; subst hq; exact eG
  have hvG : v'.ownBlock ≠ some G := by
    rcases hat with e | e
    · rw [e]; exact hkG
    · rw [e]; intro hc; cases hc; omega
  have htn : t < n := by have := (List.getElem?_eq_some_iff.1 hk).1; rw [h.klen] at this; exact this
  have cG : w2.cell? ⟨G, t, none⟩ = some kv := (World.cell?_of_block (w := w) (a := ⟨G, t, none⟩) eG).trans (h.cellG hk)
  have fG : w2.frozen? ⟨G, t, none⟩ = false := (World.frozen?_of_block (w := w) (a := ⟨G, t, none⟩) eG).trans (h.fzG t)
  refine ⟨⟨by simp [h.klen], by simp [h.rlen], (World.ownsRow.stored own2 t v').1, ?_, ?_⟩, cG, fG, ?_, ?_⟩
  · intro i q u hq hu
    rw [List.getElem?_modify] at hq
    rw [List.getElem?_set] at hu
    by_cases e : t = i
    · subst e
      rw [if_pos rfl, if_pos (by rw [h.klen]; exact htn)] at hu
      cases hu
      rw [hr] at hq
      simp at hq
      subst hq
      refine ⟨owns_other ?_ (by simpa using hvG) _, hvG⟩
      show World.ownsRow _ _ _ _ _ _ _
      simpa using ho
    · rw [if_neg e] at hu
      simp [e] at hq
      obtain ⟨k1, k2⟩ := h.kid i q u hq hu
      refine ⟨owns_other (owns_same k1 fun g hgu => hg.block g (k1.lt g hgu).2 (fun hc => h.apart t i kv u g e hk hu hc.symm hgu)) (by simpa using k2) _, k2⟩
  · intro i j a b g hij ha hb hag hbg
    rw [List.getElem?_set] at ha hb
    by_cases e1 : t = i
    · subst e1
      rw [if_pos rfl, if_pos (by rw [h.klen]; exact htn)] at ha
      cases ha
      rw [if_neg hij] at hb
      rcases hat with e | e
      · exact h.apart t j kv b g hij hk hb (by rw [← e]; exact hag) hbg
      · rw [e] at hag; cases hag
        have hj : j < rows.length := by have := (List.getElem?_eq_some_iff.1 hb).1; rw [h.klen] at this; rw [h.rlen]; exact this
        have := ((h.kid j _ b (List.getElem?_eq_getElem hj) hb).1.lt _ hbg).2
        omega
    · rw [if_neg e1] at ha
      by_cases e2 : t = j
      · subst e2
        rw [if_pos rfl, if_pos (by rw [h.klen]; exact htn)] at hb
        cases hb
        rcases hat with e | e
        · exact h.apart i t a kv g hij ha hk hag (by rw [← e]; exact hbg)
        · rw [e] at hbg; cases hbg
          have hj : i < rows.length := by have := (List.getElem?_eq_some_iff.1 ha).1; rw [h.klen] at this; rw [h.rlen]; exact this
          have := ((h.kid i _ a (List.getElem?_eq_getElem hj) ha).1.lt _ hag).2
          omega
      · rw [if_neg e2] at hb
        exact h.apart i j a b g hij ha hb hag hbg
  · intro k hk1 hk2 hk3
    exact (Below.heap_setCell _ _ _ _ (by simpa using hk2)).trans (hg.block k hk1 (fun e => hk3 e.symm))
  · simpa [World.setCell] using hg.size
theorem infoS : (Tryd.prog.info? 28).map (fun i => (i.zero, i.size, i.bytes)) = some (some (.slice none 0 0), 1, 24) := by kernel_rfl
theorem rows_new (w : World) (base n : Nat) (hb : base ≤ w.heap.size) (hn : n ≤ 1000000) : RowsIn (w.alloc (.cells (madeCells #[.slice none 0 0] n) 28)) base w.heap.size n (List.replicate n (.slice none 0 0)) (List.replicate n []) := by
  have r1 := World.ownsRow_lit (base := base) (e := 28) (size := 1) w (madeCells #[.slice none 0 0] n) n hb (by unfold maxLen; omega) (by simp [size_madeCells])
  rw [toList_madeCells_one] at r1
  refine ⟨by simp, by simp, r1, ?_, ?_⟩
  · intro i r kv h1 h2
    rw [List.getElem?_replicate] at h1 h2
    split at h1
    · rename_i hi
      rw [if_pos hi] at h2
      cases h1; cases h2
      exact ⟨World.ownsRow_nil _ _ _ _, by simp [Value.ownBlock]⟩
    · cases h1
  · intro i j a b g _ ha _ hg
    rw [List.getElem?_replicate] at ha
    split at ha
    · cases ha; simp [Value.ownBlock] at hg
    · cases ha
theorem lens_mem : ∀ {rows : List (List Int)} {r : List Int}, r ∈ rows → r.length ≤ lensA rows
  | a :: rows, r, h => by
    have e : lensA (a :: rows) = a.length + lensA rows := by simp [lensA]
    rcases List.mem_cons.1 h with rfl | h
    · omega
    · have := lens_mem h; omega
end Go.Proofs.YtkgjcjakadofpaaDoor
