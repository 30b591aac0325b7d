/- Edges: the law's run. -/
import Derived.Test.YtkgjcjakadofpaaDoorGEdg1
import Derived.Test.YtkgjcjakadofpaaDoorGAwk2
import Derived.Test.YtkgjcjakadofpaaDoorGAhd2
import Derived.Test.YtkgjcjakadofpaaDoorGDfs2
import Derived.Test.YtkgjcjakadofpaaDoorGLib
namespace Go.Proofs.YtkgjcjakadofpaaDoor
open Go.RowKit

theorem order_len (ts : List Tm) : (orderT ts).length ≤ ts.length := by
  unfold orderT
  by_cases h0 : ts.length = 0
  · rw [if_pos h0]; simp
  · rw [if_neg h0, List.length_reverse]
    have h0' : 0 < ts.length := by omega
    have hg : ((List.replicate ts.length false).set 0 true).getD 0 true = true := by rw [getD_set (by simpa using h0')]; simp
    have hr : (List.replicate ts.length false).getD 0 true = false := by simp [List.getD, h0']
    have hc := cntF_set hr
    have hl : cntF (List.replicate ts.length false) ≤ ts.length := by unfold cntF; exact Nat.le_trans List.count_le_length (by simp)
    have := cnt_all ts ts.length 0 ((List.replicate ts.length false).set 0 true) [] (by simp) h0' hg (by omega)
    simp only [List.length_nil] at this
    omega
theorem edgesF_drop {n : Nat} {ts : List Tm} {i : Nat} (h : i < ts.length) : edgesF n (ts.drop i) = edgesT n (nextT (ts.getD i default)) + edgesF n (ts.drop (i + 1)) := by
  have e : ts.getD i default = ts[i] := by simp [List.getD, List.getElem?_eq_getElem h]
  rw [e, List.drop_eq_getElem_cons h]
  unfold edgesF
  rw [List.map_cons, List.sum_cons]
theorem edgesT_drop {n : Nat} {L : List Int} {k : Nat} (h : k < L.length) : edgesT n (L.drop k) = (if inB (L.getD k 0) n = true then 1 else 0) + edgesT n (L.drop (k + 1)) := by
  have e : L.getD k 0 = L[k] := by simp [List.getD, List.getElem?_eq_getElem h]
  rw [e, List.drop_eq_getElem_cons h]
  unfold edgesT
  rw [List.countP_cons]
  omega
theorem lensA_drop {A : List (List Int)} {i : Nat} (h : i < A.length) : lensA (A.drop i) = (A.getD i []).length + lensA (A.drop (i + 1)) := by
  have e : A.getD i [] = A[i] := by simp [List.getD, List.getElem?_eq_getElem h]
  rw [e, List.drop_eq_getElem_cons h]
  unfold lensA
  rw [List.map_cons, List.sum_cons]
theorem any_drop {r : List Int} {p : Int → Bool} {k : Nat} (h : k < r.length) : (r.drop k).any p = (p (r.getD k 0) || (r.drop (k + 1)).any p) := by
  have e : r.getD k 0 = r[k] := by simp [List.getD, List.getElem?_eq_getElem h]
  rw [e, List.drop_eq_getElem_cons h, List.any_cons]
theorem up_lt {r : List Int} (h : r.Pairwise (· < ·)) {k : Nat} (hk : k + 1 < r.length) : r.getD k 0 < r.getD (k + 1) 0 := by
  have e1 : r.getD k 0 = r[k] := by simp [List.getD, List.getElem?_eq_getElem (show k < r.length by omega)]
  have e2 : r.getD (k + 1) 0 = r[k + 1] := by simp [List.getD, List.getElem?_eq_getElem hk]
  rw [e1, e2]
  exact List.pairwise_iff_getElem.1 h k (k + 1) (by omega) hk (by omega)
/-- What stands in memory ahead of the loops. -/
structure Laid (w4 : World) (b gA n : Nat) (cs : List Value) (ov : Value) (A : List (List Int)) (O : List Int) : Prop where
  box : Box w4 b cs
  ord : IntsAt w4 ov O
  row : ∀ j, j < n → ∃ ka kc, w4.cell? ⟨gA, j, none⟩ = some (.slice ka (A.getD j []).length kc) ∧ IntsAt w4 (.slice ka (A.getD j []).length kc) (A.getD j [])
  lt : gA < w4.heap.size
theorem Laid.below {w4 W : World} {b gA n : Nat} {cs : List Value} {ov : Value} {A : List (List Int)} {O : List Int} (h : Laid w4 b gA n cs ov A O) (hb : Below w4.heap.size w4 W) : Laid W b gA n cs ov A O :=
  ⟨h.box.below hb, h.ord.below hb, fun j hj => by
    obtain ⟨ka, kc, h1, h2⟩ := h.row j hj
    exact ⟨ka, kc, (hb.cell (p := ⟨gA, j, none⟩) h.lt).trans h1, h2.below hb⟩, Nat.lt_of_lt_of_le h.lt hb.size⟩
theorem Laid.of {w3 w4 : World} {b gA n base : Nat} {cs kvs : List Value} {ov : Value} {A : List (List Int)} {O : List Int} (h1 : Box w3 b cs) (h2 : RowsIn w3 base gA n kvs A) (hA : ∀ j, j < n → (A.getD j []).length ≤ 140737488355328) (hb : Below w3.heap.size w3 w4) (h3 : IntsAt w4 ov O) : Laid w4 b gA n cs ov A O := by
  refine ⟨h1.below hb, h3, fun j hj => ?_, Nat.lt_of_lt_of_le h2.ltG.2 hb.size⟩
  have er : A[j]? = some (A.getD j []) := by rw [List.getD, List.getElem?_eq_getElem (by rw [h2.rlen]; exact hj)]; rfl
  obtain ⟨kv, ek⟩ : ∃ kv, kvs[j]? = some kv := ⟨_, List.getElem?_eq_getElem (by rw [h2.klen]; exact hj)⟩
  have hi := OwnI.at' (h2.kid j _ kv er ek).1 (hA j hj)
  obtain ⟨ka, kc, rfl, _⟩ := hi.form
  exact ⟨ka, kc, (hb.cell (p := ⟨gA, j, none⟩) h2.ltG.2).trans (h2.cellG ek), hi.below hb⟩
end Go.Proofs.YtkgjcjakadofpaaDoor
