/- All strips of a graph. -/
import Derived.Test.YtcggbedjhglmmaaGreatDoorGFit1M
import Derived.Test.YtcggbedjhglmmaaGreatDoorLTell
import Derived.Test.YtcggbedjhglmmaaGreatDoorLOrdM
import Derived.Deep.RegionHeld3
namespace Go.Proofs.YtcggbedjhglmmaaGreatDoor
open Go.RowKit

def szI (l : List In) : Nat := (l.map fun x => x.args.length + 1).sum
def szB (bs : List Bl) : Nat := (bs.map fun b => szI b.ins + 1).sum
theorem szI_drop {l : List In} {k : Nat} (h : k < l.length) : szI (l.drop k) = (l.getD k default).args.length + 1 + szI (l.drop (k + 1)) := by
  unfold szI
  rw [List.drop_eq_getElem_cons h, List.map_cons, List.sum_cons]
  simp [List.getElem?_eq_getElem h]
theorem szB_drop {l : List Bl} {k : Nat} (h : k < l.length) : szB (l.drop k) = szI (blk l k).ins + 1 + szB (l.drop (k + 1)) := by
  unfold szB blk
  rw [List.drop_eq_getElem_cons h, List.map_cons, List.sum_cons]
  simp [List.getElem?_eq_getElem h]
theorem szI_len : ∀ l : List In, l.length ≤ szI l
  | [] => by simp [szI]
  | b :: l => by
    have := szI_len l
    unfold szI at this ⊢
    simp only [List.map_cons, List.sum_cons, List.length_cons]; omega
theorem szB_len : ∀ l : List Bl, l.length ≤ szB l
  | [] => by simp [szB]
  | b :: l => by
    have := szB_len l
    unfold szB at this ⊢
    simp only [List.map_cons, List.sum_cons, List.length_cons]; omega
theorem rows_ints {wA : World} {b0 G n : Nat} {kvs : List Value} {rows : List (List Int)} (h : RowsIn wA b0 G n kvs rows) {j : Nat} (hj : j < n) (hl : (rows.getD j []).length ≤ 1000000) :
    ∃ a c, ∀ W, Below wA.heap.size wA W → W.cell? ⟨G, j, none⟩ = some (.slice a (rows.getD j []).length c) ∧ IntsAt W (.slice a (rows.getD j []).length c) (rows.getD j []) := by
  have hr : rows[j]? = some (rows.getD j []) := by rw [List.getD, List.getElem?_eq_getElem (by rw [h.rlen]; exact hj)]; rfl
  have hk : kvs[j]? = some (kvs[j]'(by rw [h.klen]; exact hj)) := List.getElem?_eq_getElem _
  generalize kvs[j]'(by rw [h.klen]; exact hj) = kv at hk
  have ho := OwnI.at' (h.kid j _ kv hr hk).1 (by omega)
  have hc := h.cellG hk
  obtain ⟨a, c, rfl, _⟩ := ho.form
  exact ⟨a, c, fun W hW => ⟨(hW.cell (p := ⟨G, j, none⟩) h.ltG.2).trans hc, ho.below hW⟩⟩
theorem insS_drop {i : Nat} {ah : List Int} {l : List In} {k : Nat} (h : k < l.length) (s : List Sp) : (l.drop k).foldl (insS i ah) s = (l.drop (k + 1)).foldl (insS i ah) (insS i ah s (l.getD k default)) := by
  rw [List.drop_eq_getElem_cons h, List.foldl_cons]
  congr 2
  simp [List.getElem?_eq_getElem h]
theorem StOk.asked {n : Nat} {i : Nat} (hi : i < n) : ∀ (l : List Int) {L : Nat} {all : List Sp}, StOk n L all → StOk n (L + l.length) (askAll i all l)
  | [], _, _, h => h
  | a :: l, L, all, h => by
    have := StOk.asked hi l (h.askOne hi a)
    unfold askAll at this ⊢
    rw [List.foldl_cons, List.length_cons, show L + (l.length + 1) = L + 1 + l.length by omega]
    exact this
theorem StOk.handed {n : Nat} : ∀ (l : List (Int × Int)) {L : Nat} {all : List Sp}, StOk n L all → (∀ q ∈ l, q.2.toNat < n) → StOk n (L + l.length) (l.foldl handOne all)
  | [], _, _, h, _ => h
  | q :: l, L, all, h, hl => by
    have h1 : StOk n (L + 1) (handOne all q) := h.addHand (hl q (by simp)) _
    have := StOk.handed l h1 fun x hx => hl x (by simp [hx])
    rw [List.foldl_cons, List.length_cons, show L + (l.length + 1) = L + 1 + l.length by omega]
    exact this
theorem infoSt : (Tryz.prog.info? 64).map (fun i => (i.zero, i.size, i.bytes)) = some (some (.agg #[.slice none 0 0, .slice none 0 0, .slice none 0 0]), 3, 72) := by kernel_rfl
theorem make_strips (m : Nat) (hm : m ≤ 1000000) (W : World) : (Instr.makeSlice 60 (.int .i64 (m : Int)) (.int .i64 (m : Int))).run Tryz.prog W = .ok (.slice (some ⟨W.heap.size, 0, none⟩) m m) (W.alloc (.cells (madeCells #[.slice none 0 0, .slice none 0 0, .slice none 0 0] (m * 3)) 64)) := by
  obtain ⟨i, hi, hz, hs, hb⟩ := info_parts infoSt
  have hr := run_make (P := Tryz.prog) W 60 64 i _ Tryz.underlying60 hi hz .i64 .i64 m m (by omega) (Int.le_refl _) (by rw [hb]; omega) (by omega)
  simp only [Int.toNat_natCast, hs] at hr
  exact hr
theorem made3 (m : Nat) : (madeCells #[.slice none 0 0, .slice none 0 0, .slice none 0 0] (m * 3)).toList = flat v3Cells (List.replicate m (Value.slice none 0 0, Value.slice none 0 0, Value.slice none 0 0)) := by
  have hl : (flat v3Cells (List.replicate m (Value.slice none 0 0, Value.slice none 0 0, Value.slice none 0 0))).length = m * 3 := by rw [flat_len v3Cells_len]; simp
  have hall : ∀ x ∈ flat v3Cells (List.replicate m (Value.slice none 0 0, Value.slice none 0 0, Value.slice none 0 0)), x = Value.slice none 0 0 := fun x hx => by
    unfold flat at hx
    obtain ⟨a, ha, hx⟩ := List.mem_flatMap.1 hx
    rw [List.eq_of_mem_replicate ha] at hx
    simpa [v3Cells] using hx
  rw [List.eq_replicate_of_mem hall, hl]
  refine List.ext_getElem (by simp [size_madeCells]) fun k h1 h2 => ?_
  rw [List.getElem_replicate]
  have h3 : k < m * 3 := by simpa [size_madeCells] using h1
  have hk : k % 3 = 0 ∨ k % 3 = 1 ∨ k % 3 = 2 := by omega
  simp only [madeCells, Array.getElem_toList, Array.getElem_map, Array.getElem_range]
  rcases hk with e | e | e <;> simp [e]
theorem sts_new (w0 w : World) (hb : Below w0.heap.size w0 w) (m : Nat) (hm : m ≤ 1000000) : ∃ ss, Sts w0 (w.alloc (.cells (madeCells #[.slice none 0 0, .slice none 0 0, .slice none 0 0] (m * 3)) 64)) w.heap.size m ss (List.replicate m (Value.slice none 0 0, Value.slice none 0 0, Value.slice none 0 0)) (List.replicate m emp) := by
  have hn := World.ownsRow_lit (base := w0.heap.size) (e := 64) (size := 3) w (madeCells #[.slice none 0 0, .slice none 0 0, .slice none 0 0] (m * 3)) m hb.size (by unfold maxLen; omega) (by simp [size_madeCells])
  rw [made3] at hn
  refine ⟨⟨.slice (some ⟨w.heap.size, 0, none⟩) m m, 64, 3, m, flat v3Cells (List.replicate m (Value.slice none 0 0, Value.slice none 0 0, Value.slice none 0 0))⟩ :: List.replicate (3 * m) (mkSlot (.slice none 0 0) []), below_alloc hb _, by simp, by simp, ⟨fun i s hs => ?_, fun i j a b g hij ha hb' hga hgb => ?_⟩, by simp; omega, rfl, fun i t s ht hs => ?_⟩
  · cases i with
    | zero => simp at hs; subst hs; exact hn
    | succ i =>
      rw [List.getElem?_cons_succ, List.getElem?_replicate] at hs
      split at hs
      · cases hs; exact World.ownsRow_nil _ _ _ _
      · cases hs
  · cases i with
    | zero =>
      cases j with
      | zero => exact hij rfl
      | succ j =>
        rw [List.getElem?_cons_succ, List.getElem?_replicate] at hb'
        split at hb'
        · cases hb'; simp [mkSlot, Value.ownBlock] at hgb
        · cases hb'
    | succ i =>
      rw [List.getElem?_cons_succ, List.getElem?_replicate] at ha
      split at ha
      · cases ha; simp [mkSlot, Value.ownBlock] at hga
      · cases ha
  · rw [List.getElem?_replicate] at ht hs
    split at ht
    · rename_i hi
      rw [if_pos hi] at hs
      cases ht; cases hs
      have k : ∀ q, q < 3 → (⟨.slice (some ⟨w.heap.size, 0, none⟩) m m, 64, 3, m, flat v3Cells (List.replicate m (Value.slice none 0 0, Value.slice none 0 0, Value.slice none 0 0))⟩ :: List.replicate (3 * m) (mkSlot (.slice none 0 0) []))[1 + 3 * i + q]? = some (mkSlot (.slice none 0 0) []) := fun q hq => by
        rw [show 1 + 3 * i + q = (3 * i + q) + 1 by omega, List.getElem?_cons_succ, List.getElem?_replicate, if_pos (by omega)]
      exact ⟨k 0 (by omega), k 1 (by omega), k 2 (by omega)⟩
    · cases ht
theorem stOk_new (n m : Nat) : StOk n 0 (List.replicate m emp) := by
  have e : ∀ k, (List.replicate m emp).getD k default = ⟨[], [], []⟩ := fun k => by
    rw [List.getD_eq_getElem?_getD, List.getElem?_replicate]; split <;> rfl
  exact ⟨fun k => by rw [e]; exact ⟨OkM.nil _, by simp⟩, fun k => by rw [e]; exact ⟨OkM.nil _, by simp⟩, fun k => by rw [e]; exact ⟨OkM.nil _, by simp⟩⟩
end Go.Proofs.YtcggbedjhglmmaaGreatDoor
/- A region that draws its order: one condition on the world behind every operation but the late ones, which wait for all that is taken first. -/
namespace Go.Proofs.YtcggbedjhglmmaaGreatDoor
open Go.RowKit

def wpAnyL (P : Program) (ops : Array Oper) (Q : Exit → Act → World → Prop) (S : World → Prop) (late : Nat → Bool) : Nat → Array Bool → Act → World → Prop
  | 0, l, a, w => Region.ready .any ops l = [] ∧ Q .normal a w
  | n + 1, l, a, w => (Region.ready .any ops l = [] → Q .normal a w) ∧ ∀ i ∈ Region.ready .any ops l, wpOp P ops Q i (fun a' w' => (late i = false → S w') ∧ wpAnyL P ops Q S late n (l.setIfInBounds i true) a' w') a w
theorem wpAny_of_late {P : Program} {ops : Array Oper} {Q : Exit → Act → World → Prop} {S : World → Prop} {late : Nat → Bool} : ∀ (n : Nat) (l : Array Bool) (a : Act) (w : World), wpAnyL P ops Q S late n l a w → wpAny P .any ops Q n l a w
  | 0, _, _, _, h => h
  | n + 1, _, _, _, h => ⟨h.1, fun i hi => wpOp_mono (fun a' w' h' => wpAny_of_late n _ a' w' h'.2) (h.2 i hi)⟩
/-- Each late one waits for i. -/
def lateB (ops : Array Oper) (late : Nat → Bool) (i : Nat) : Bool := (List.range ops.size).all fun j => !late j || depB .any ops j i
theorem lateB_spec {ops : Array Oper} {late : Nat → Bool} {i : Nat} (h : lateB ops late i = true) {j : Nat} {oj : Oper} (hj : ops[j]? = some oj) (hl : late j = true) : ∃ e ∈ oj.after, Region.binds .any e = true ∧ e.on = i := by
  unfold lateB at h
  rw [List.all_eq_true] at h
  have h1 := h j (by simpa using (Array.getElem?_eq_some_iff.1 hj).1)
  rw [hl] at h1
  obtain ⟨o, ho, e, he⟩ := depB_spec (by simpa using h1)
  rw [hj] at ho
  cases ho
  exact ⟨e, he⟩
theorem wpAnyL_first {P : Program} {ops : Array Oper} {Q : Exit → Act → World → Prop} {S : World → Prop} {late : Nat → Bool} {i : Nat} {oi : Oper} {v : Value} (hi : ops[i]? = some oi) (hs : Region.noSelect ops = true) (hQ : ∀ c a w, Q (.panic c) (a.put oi.dst v) w → Q (.panic c) a w) (hl : lateB ops late i = true) :
    ∀ (n : Nat) (l : Array Bool) (a : Act) (w : World), (∀ j oj, ops[j]? = some oj → j ≠ i → l.getD j true = false → (∀ e ∈ oj.after, Region.binds .any e = true → e.on ≠ i) → oi.apart ops oj = true) →
      i ∈ Region.ready .any ops l → YieldsIf P ops S oi v a → S w → wpAnyL P ops Q S late n (l.setIfInBounds i true) (a.put oi.dst v) w → wpAnyL P ops Q S late (n + 1) l a w := by
  intro n
  induction n with
  | zero =>
    intro l a w _ hr hy hS H
    refine ⟨fun h => (by rw [h] at hr; cases hr), fun j hj => ?_⟩
    by_cases hji : j = i
    · subst hji; exact hy.wpOp hi hS ⟨fun _ => hS, H⟩
    · have := ready_mono hj hji
      rw [H.1] at this
      cases this
  | succ n ih =>
    intro l a w hfree hr hy hS H
    refine ⟨fun h => (by rw [h] at hr; cases hr), fun j hj => ?_⟩
    by_cases hji : j = i
    · subst hji; exact hy.wpOp hi hS ⟨fun _ => hS, H⟩
    · obtain ⟨hun, oj, hoj, hall⟩ := mem_ready.1 hj
      have hi0 := getD_f.1 (mem_ready.1 hr).1
      have hnot : ∀ e ∈ oj.after, Region.binds .any e = true → e.on ≠ i := fun e he hb heq => by
        have h1 := getD_t.1 (hall e he hb)
        rw [heq, hi0] at h1
        cases h1
      have hnl : late j = false := by
        cases hlj : late j with
        | false => rfl
        | true =>
          obtain ⟨e, he, hb, hon⟩ := lateB_spec hl hoj hlj
          exact absurd hon (hnot e he hb)
      have h2 := wpOp_putIf hoj (hfree j oj hoj hji hun hnot) (fun cs b => Region.noSelect_spec hs i oi cs b hi) (fun cs b => Region.noSelect_spec hs j oj cs b hoj) hQ hy (H.2 j (ready_mono hj hji))
      refine wpOp_mono (fun a' w' h3 => ⟨h3.2.1, ih (l.setIfInBounds j true) a' w' (fun k ok hk hki hu hno => hfree k ok hk hki ?_ hno) (ready_mono hr (Ne.symm hji)) h3.1 (h3.2.1 hnl) ?_⟩) h2
      · by_cases hjk : j = k
        · subst hjk; exact hun
        · rw [getD_set_ne true hjk] at hu; exact hu
      · rw [Array.setIfInBounds_comm _ _ hji]
        exact h3.2.2
theorem wpAnyL_take {P : Program} {ops : Array Oper} {Q : Exit → Act → World → Prop} {S : World → Prop} {late : Nat → Bool} {n : Nat} {l : Array Bool} {a : Act} {w : World} (i : Nat) {oi : Oper} {v : Value} (hi : ops[i]? = some oi) (hs : Region.noSelect ops = true) (hf : Region.free .any ops l i = true) (hr : (Region.ready .any ops l).contains i = true) (hl : lateB ops late i = true)
    (hQ : ∀ c a w, Q (.panic c) (a.put oi.dst v) w → Q (.panic c) a w) (hS : S w) (hy : YieldsIf P ops S oi v a) (h : wpAnyL P ops Q S late n (l.setIfInBounds i true) (a.put oi.dst v) w) : wpAnyL P ops Q S late (n + 1) l a w :=
  wpAnyL_first hi hs hQ hl n l a w (Region.free_spec hi hf) (by simpa using hr) hy hS h
/-- One alone may come up. -/
theorem wpAnyL_one {P : Program} {ops : Array Oper} {Q : Exit → Act → World → Prop} {S : World → Prop} {late : Nat → Bool} {n : Nat} {l : Array Bool} {a : Act} {w : World} (i : Nat) {o : Oper} (hr : Region.ready .any ops l = [i]) (ho : ops[i]? = some o)
    (h : ∀ K : Act → World → Prop, (∀ a w, (late i = false → S w) → wpAnyL P ops Q S late n (l.setIfInBounds i true) a w → K a w) → if Region.wanted o (yielded ops a.tmps) = true then Oper.wp P o a w K Q else K (a.put o.dst undef) w) : wpAnyL P ops Q S late (n + 1) l a w := by
  refine ⟨fun h0 => (by rw [hr] at h0; cases h0), fun j hj => ?_⟩
  rw [hr] at hj
  simp at hj
  subst hj
  exact wpOp_step ho (fun K hK => h K fun a w h1 h2 => hK a w ⟨h1, h2⟩)
theorem wpAnyL_done {P : Program} {ops : Array Oper} {Q : Exit → Act → World → Prop} {S : World → Prop} {late : Nat → Bool} {l : Array Bool} {a : Act} {w : World} (hr : Region.ready .any ops l = []) (h : Q .normal a w) : wpAnyL P ops Q S late 0 l a w := ⟨hr, h⟩
theorem wp_region_late {P : Program} {id : Nat} {ops : Array Oper} {Q : Exit → Act → World → Prop} {a : Act} {w : World} (S : World → Prop) (late : Nat → Bool) (hm : P.follows .mixedOrders = true) (hS : S w.drew) (h : S w.drew → wpAnyL P ops Q S late ops.size (Array.replicate ops.size false) a w.drew) : (Code.region id ops true).wp P Q a w :=
  wp_region_any hm (wpAny_of_late _ _ _ _ (h hS))
end Go.Proofs.YtcggbedjhglmmaaGreatDoor
/- A region that draws its order, by what holds whichever operations are done. -/
namespace Go.Proofs.YtcggbedjhglmmaaGreatDoor
open Go.RowKit

theorem ready_some {ops : Array Oper} {l : Array Bool} (hord : (List.range ops.size).all (fun i => match ops[i]? with | some o => o.after.toList.all (fun e => decide (e.on < i)) | none => true) = true) (hsz : l.size = ops.size) : ∀ i, l.getD i true = false → Region.ready .any ops l ≠ [] := by
  intro i
  induction i using Nat.strongRecOn with
  | _ i ih =>
    intro hi hr
    have hil : i < ops.size := by
      rw [← hsz]
      have := getD_f.1 hi
      exact (Array.getElem?_eq_some_iff.1 this).1
    have ho : ops[i]? = some ops[i] := Array.getElem?_eq_getElem hil
    have h1 := (List.all_eq_true.1 hord) i (List.mem_range.2 hil)
    rw [ho] at h1
    by_cases hc : ∀ e ∈ (ops[i]).after, Region.binds .any e = true → l.getD e.on false = true
    · have : i ∈ Region.ready .any ops l := mem_ready.2 ⟨hi, _, ho, hc⟩
      rw [hr] at this
      cases this
    · simp only [Classical.not_forall] at hc
      obtain ⟨e, he, hb, hd⟩ := hc
      have hlt : e.on < i := by
        have := (List.all_eq_true.1 h1) e (by simpa using he)
        simpa using this
      refine ih e.on hlt ?_ hr
      have hel : e.on < l.size := by rw [hsz]; omega
      have h2 : l.getD e.on false = l[e.on] := by simp [Array.getD, hel]
      have h3 : l.getD e.on true = l[e.on] := by simp [Array.getD, hel]
      rw [h2] at hd
      rw [h3]
      simpa using hd
theorem count_done {l : Array Bool} {i : Nat} (h : l.getD i true = false) : (l.setIfInBounds i true).toList.count false + 1 = l.toList.count false := by
  have h1 : l.toList.getD i true = false := by
    have := getD_f.1 h
    rw [List.getD_eq_getElem?_getD]
    simp [this]
  have := cntF_set h1
  unfold cntF at this
  rw [Array.toList_setIfInBounds]
  exact this
theorem wpAnyL_inv {P : Program} {ops : Array Oper} {Q : Exit → Act → World → Prop} {S : World → Prop} {late : Nat → Bool} (I : Array Bool → Act → World → Prop) (hS : ∀ l a w, I l a w → S w) (hsz : ∀ l a w, I l a w → l.size = ops.size)
    (hord : (List.range ops.size).all (fun i => match ops[i]? with | some o => o.after.toList.all (fun e => decide (e.on < i)) | none => true) = true)
    (hend : ∀ l a w, I l a w → (∀ i, i < ops.size → l.getD i true = true) → Q .normal a w)
    (hstep : ∀ (i : Nat) (o : Oper) (l : Array Bool) (a : Act) (w : World), ops[i]? = some o → I l a w → l.getD i true = false → (∀ e ∈ o.after, Region.binds .any e = true → l.getD e.on false = true) → ∀ K : Act → World → Prop, (∀ a' w', I (l.setIfInBounds i true) a' w' → K a' w') → if Region.wanted o (yielded ops a.tmps) = true then Oper.wp P o a w K Q else K (a.put o.dst undef) w) :
    ∀ (n : Nat) (l : Array Bool) (a : Act) (w : World), I l a w → l.toList.count false = n → wpAnyL P ops Q S late n l a w
  | 0, l, a, w, hI, hc => by
    have hall : ∀ i, l.getD i true = true := fun i => by
      cases h : l.getD i true with
      | true => rfl
      | false =>
        have := count_done h
        omega
    refine ⟨?_, hend l a w hI fun i _ => hall i⟩
    rw [List.eq_nil_iff_forall_not_mem]
    intro j hj
    have h1 := (mem_ready.1 hj).1
    rw [hall j] at h1
    cases h1
  | n + 1, l, a, w, hI, hc => by
    refine ⟨fun hr => ?_, fun i hi => ?_⟩
    · exfalso
      have hm : false ∈ l.toList := List.count_pos_iff.1 (by omega)
      obtain ⟨i, hi⟩ := List.getElem?_of_mem hm
      refine ready_some hord (hsz l a w hI) i ?_ hr
      exact getD_f.2 (by simpa using hi)
    · obtain ⟨hu, o, ho, hd⟩ := mem_ready.1 hi
      refine wpOp_step ho fun K' hK' => hstep i o l a w ho hI hu hd K' fun a' w' hI' => hK' a' w' ⟨fun _ => hS _ _ _ hI', wpAnyL_inv I hS hsz hord hend hstep n _ a' w' hI' ?_⟩
      have := count_done hu
      omega
end Go.Proofs.YtcggbedjhglmmaaGreatDoor
/- A flow with nothing in it (live.newFlow). -/
namespace Go.Proofs.YtcggbedjhglmmaaGreatDoor
open Go.RowKit

theorem infoU64 : (Tryz.prog.info? 52).map (fun i => (i.zero, i.size, i.bytes)) = some (some (.int .u64 0), 1, 8) := by kernel_rfl
theorem make_words (n : Nat) (hn : n ≤ 1000000) (W : World) : (Instr.makeSlice 74 (.int .i64 (n : Int)) (.int .i64 (n : Int))).run Tryz.prog W = .ok (rowN W.heap.size n) (W.alloc (.cells (madeCells #[.int .u64 0] n) 52)) := by
  obtain ⟨i, hi, hz, hs, hb⟩ := info_parts infoU64
  have hr := run_make (P := Tryz.prog) W 74 52 i _ Tryz.underlying74 hi hz .i64 .i64 n n (by omega) (Int.le_refl _) (by rw [hb]; omega) (by omega)
  simp only [Int.toNat_natCast, hs, Nat.mul_one] at hr
  exact hr
abbrev wZ (W : World) (n : Nat) : World := W.alloc (.cells (madeCells #[.int .u64 0] n) 52)
set_option maxRecDepth 100000 in
theorem newrow_any (W : World) (B n c : Nat) (a : Option Addr) (hn : n ≤ 1000000) (hc : W.cell? ⟨B, 0, none⟩ = some (.slice a n c)) :
    Calls Tryz.prog 34 #[ptr B] W fun e w' => e = .returned (rowN W.heap.size n) ∧ w' = wZ W n := by
  have hm := make_words n hn W
  go_enter Tryz.func34, Tryz.ntmps34
  go_wp2
  go_ret
  exact ⟨rfl, rfl⟩
set_option maxRecDepth 100000 in
set_option maxHeartbeats 4000000 in
theorem newflow_any (w : World) (n c : Nat) (a : Option Addr) (hn : n ≤ 1000000) :
    Calls Tryz.prog 18 #[.slice a n c] w fun e w' => ∃ W, Below w.heap.size w W ∧ e = .returned (ptr (W.heap.size + 4)) ∧ w'.heap = ((wZ (wZ (wZ (wZ W n) n) n) n).alloc (.cells #[.slice a n c, rowN W.heap.size n, rowN (W.heap.size + 1) n, rowN (W.heap.size + 2) n, rowN (W.heap.size + 3) n, .slice none 0 0, .slice none 0 0] 77)).heap ∧ Below w.heap.size w w' := by
  have HC : Hid (∀ W, Below (w.alloc (.cells #[.slice a n c] 31)).heap.size (w.alloc (.cells #[.slice a n c] 31)) W → Calls Tryz.prog 34 #[ptr w.heap.size] W fun e w' => e = .returned (rowN W.heap.size n) ∧ w' = wZ W n) := fun W hW => newrow_any W w.heap.size n c a hn (((Box.new w [.slice a n c] 31).below hW).cell 0 _ rfl)
  clear hn
  go_enter Tryz.func18, Tryz.ntmps18
  go_wp2
  have k3 : (w.alloc (.cells #[.slice a n c] 31)).drew.cell? ⟨w.heap.size, 0, none⟩ = some (.slice a n c) := (Box.new w [.slice a n c] 31).cell 0 _ rfl
  refine wp_region_late (fun w' => w'.cell? ⟨w.heap.size, 0, none⟩ = some (.slice a n c)) (fun _ => false) (by kernel_rfl) k3 (fun hHeld => ?_)
  refine wpAnyL_take 0 (v := ?_) rfl (by kernel_rfl) (by kernel_rfl) (by kernel_rfl) (by kernel_rfl) (fun _ _ _ h => h) hHeld (Or.inl ⟨by rfl, ?_⟩) ?_
  rotate_left 1
  · (intro w hSw; (try dsimp only at hSw); first | (go_simp; done) | (go_simp; with_reducible rfl))
  simp only [Act.put, List.setIfInBounds_toArray]
  refine wpAnyL_take 1 (v := ?_) rfl (by kernel_rfl) (by kernel_rfl) (by kernel_rfl) (by kernel_rfl) (fun _ _ _ h => h) hHeld (Or.inl ⟨by rfl, ?_⟩) ?_
  rotate_left 1
  · (intro w hSw; (try dsimp only at hSw); first | (go_simp; done) | (go_simp; with_reducible rfl))
  simp only [Act.put]
  refine wpAnyL_take 3 (v := ?_) rfl (by kernel_rfl) (by kernel_rfl) (by kernel_rfl) (by kernel_rfl) (fun _ _ _ h => h) hHeld (Or.inl ⟨by rfl, ?_⟩) ?_
  rotate_left 1
  · (intro w hSw; (try dsimp only at hSw); first | (go_simp; done) | (go_simp; with_reducible rfl))
  simp only [Act.put]
  refine wpAnyL_take 5 (v := ?_) rfl (by kernel_rfl) (by kernel_rfl) (by kernel_rfl) (by kernel_rfl) (fun _ _ _ h => h) hHeld (Or.inl ⟨by rfl, ?_⟩) ?_
  rotate_left 1
  · (intro w hSw; (try dsimp only at hSw); first | (go_simp; done) | (go_simp; with_reducible rfl))
  simp only [Act.put]
  refine wpAnyL_take 7 (v := ?_) rfl (by kernel_rfl) (by kernel_rfl) (by kernel_rfl) (by kernel_rfl) (fun _ _ _ h => h) hHeld (Or.inl ⟨by rfl, ?_⟩) ?_
  rotate_left 1
  · (intro w hSw; (try dsimp only at hSw); first | (go_simp; done) | (go_simp; with_reducible rfl))
  simp only [Act.put]
  have HC2 : Hid (∀ W', Below (w.alloc (.cells #[.slice a n c] 31)).drew.heap.size (w.alloc (.cells #[.slice a n c] 31)).drew W' → Calls Tryz.prog 34 #[ptr w.heap.size] W' fun e w' => e = .returned (rowN W'.heap.size n) ∧ w' = wZ W' n) := fun W' hW' => HC.out W' (below_trans (below_drew (Below.refl _ _)) hW')
  have hBW : Below w.heap.size w (w.alloc (.cells #[.slice a n c] 31)).drew := below_drew (below_alloc (Below.refl _ _) _)
  have hlt : w.heap.size < (w.alloc (.cells #[.slice a n c] 31)).drew.heap.size := by show w.heap.size < (w.alloc (.cells #[.slice a n c] 31)).heap.size; simp
  clear HC hHeld
  generalize (w.alloc (.cells #[.slice a n c] 31)).drew = W at *
  have HK : Hid (∀ W', Below W.heap.size W W' → W'.cell? ⟨w.heap.size, 0, none⟩ = some (.slice a n c)) := fun W' hW' => (hW'.cell (p := ⟨w.heap.size, 0, none⟩) hlt).trans k3
  have HBW : Hid _ := hBW
  have hb1 : Below W.heap.size W (wZ W n) := below_alloc (Below.refl _ _) _
  have hb2 : Below W.heap.size W (wZ (wZ W n) n) := below_alloc hb1 _
  have hb3 : Below W.heap.size W (wZ (wZ (wZ W n) n) n) := below_alloc hb2 _
  have hb4 : Below W.heap.size W (wZ (wZ (wZ (wZ W n) n) n) n) := below_alloc hb3 _
  have HB : Hid (Below W.heap.size W (wZ W n) ∧ Below W.heap.size W (wZ (wZ W n) n) ∧ Below W.heap.size W (wZ (wZ (wZ W n) n) n) ∧ Below W.heap.size W (wZ (wZ (wZ (wZ W n) n) n) n)) := ⟨hb1, hb2, hb3, hb4⟩
  have hs1 : (wZ W n).heap.size = W.heap.size + 1 := by simp
  have hs2 : (wZ (wZ W n) n).heap.size = W.heap.size + 2 := by simp
  have hs3 : (wZ (wZ (wZ W n) n) n).heap.size = W.heap.size + 3 := by simp
  have hs4 : (wZ (wZ (wZ (wZ W n) n) n) n).heap.size = W.heap.size + 4 := by simp
  have HC3 : Hid ((Calls Tryz.prog 34 #[ptr w.heap.size] W fun e w' => e = .returned (rowN W.heap.size n) ∧ w' = wZ W n) ∧ (Calls Tryz.prog 34 #[ptr w.heap.size] (wZ W n) fun e w' => e = .returned (rowN (W.heap.size + 1) n) ∧ w' = wZ (wZ W n) n) ∧ (Calls Tryz.prog 34 #[ptr w.heap.size] (wZ (wZ W n) n) fun e w' => e = .returned (rowN (W.heap.size + 2) n) ∧ w' = wZ (wZ (wZ W n) n) n) ∧ (Calls Tryz.prog 34 #[ptr w.heap.size] (wZ (wZ (wZ W n) n) n) fun e w' => e = .returned (rowN (W.heap.size + 3) n) ∧ w' = wZ (wZ (wZ (wZ W n) n) n) n)) := by
    refine ⟨HC2.out W (Below.refl _ _), ?_, ?_, ?_⟩
    · have := HC2.out _ hb1; rw [hs1] at this; exact this
    · have := HC2.out _ hb2; rw [hs2] at this; exact this
    · have := HC2.out _ hb3; rw [hs3] at this; exact this
  unfold rowN at HC3
  clear HC2 hb1 hb2 hb3 hb4 hs1 hs2 hs3 k3 hBW
  obtain ⟨W1, hW1⟩ : ∃ W1, W1 = wZ W n := ⟨_, rfl⟩
  rw [← hW1] at HC3 HB hs4
  obtain ⟨W2, hW2⟩ : ∃ W2, W2 = wZ W1 n := ⟨_, rfl⟩
  rw [← hW2] at HC3 HB hs4
  obtain ⟨W3, hW3⟩ : ∃ W3, W3 = wZ W2 n := ⟨_, rfl⟩
  rw [← hW3] at HC3 HB hs4
  obtain ⟨W4, hW4⟩ : ∃ W4, W4 = wZ W3 n := ⟨_, rfl⟩
  rw [← hW4] at HC3 HB hs4
  have HE : Hid (W4 = wZ (wZ (wZ (wZ W n) n) n) n) := by show _ = _; rw [hW4, hW3, hW2, hW1]
  have HS4 : Hid _ := hs4
  clear hW1 hW2 hW3 hW4 hs4
  refine wpAnyL_one 2 (by kernel_rfl) rfl (fun K hK0 => ?_)
  have hK : Shut _ := hK0
  clear hK0
  go_simp
  refine Calls.mono (by exact HC3.out.1) ?_
  rintro e w2 ⟨rfl, rfl⟩
  dsimp only
  refine hK.out _ _ (fun _ => HK.out _ HB.out.1) ?_
  clear hK K
  refine wpAnyL_one 4 (by kernel_rfl) rfl (fun K hK0 => ?_)
  have hK : Shut _ := hK0
  clear hK0
  go_simp
  refine Calls.mono (by exact HC3.out.2.1) ?_
  rintro e w2 ⟨rfl, rfl⟩
  dsimp only
  refine hK.out _ _ (fun _ => HK.out _ HB.out.2.1) ?_
  clear hK K
  refine wpAnyL_one 6 (by kernel_rfl) rfl (fun K hK0 => ?_)
  have hK : Shut _ := hK0
  clear hK0
  go_simp
  refine Calls.mono (by exact HC3.out.2.2.1) ?_
  rintro e w2 ⟨rfl, rfl⟩
  dsimp only
  refine hK.out _ _ (fun _ => HK.out _ HB.out.2.2.1) ?_
  clear hK K
  refine wpAnyL_one 8 (by kernel_rfl) rfl (fun K hK0 => ?_)
  have hK : Shut _ := hK0
  clear hK0
  go_simp
  refine Calls.mono (by exact HC3.out.2.2.2) ?_
  rintro e w2 ⟨rfl, rfl⟩
  dsimp only
  refine hK.out _ _ (fun _ => HK.out _ HB.out.2.2.2) ?_
  clear hK K
  refine wpAnyL_one 9 (by kernel_rfl) rfl (fun K hK0 => ?_)
  have hK : Shut _ := hK0
  clear hK0
  go_simp
  refine hK.out _ _ (fun _ => HK.out _ HB.out.2.2.2) ?_
  clear hK K
  refine wpAnyL_one 10 (by kernel_rfl) rfl (fun K hK0 => ?_)
  have hK : Shut _ := hK0
  clear hK0
  go_simp
  refine hK.out _ _ (fun _ => HK.out _ (below_alloc HB.out.2.2.2 _)) ?_
  clear hK K
  refine wpAnyL_one 11 (by kernel_rfl) rfl (fun K hK0 => ?_)
  have hK : Shut _ := hK0
  clear hK0
  go_simp
  refine hK.out _ _ (fun _ => HK.out _ (below_alloc HB.out.2.2.2 _)) ?_
  clear hK K
  refine wpAnyL_done (by kernel_rfl) ?_
  go_wp2
  go_ret
  refine ⟨W, HBW.out, ?_, ?_, below_alloc (below_trans HBW.out HB.out.2.2.2) _⟩
  · first | rfl | (rw [HS4.out]; rfl)
  · rw [HE.out]; rfl
end Go.Proofs.YtcggbedjhglmmaaGreatDoor
