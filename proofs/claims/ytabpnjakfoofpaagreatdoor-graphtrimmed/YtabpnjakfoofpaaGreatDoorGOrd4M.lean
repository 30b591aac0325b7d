/- A region that draws its order: one condition on the world behind every operation but the late ones, which wait for all that is taken first. -/
import Derived.Test.YtabpnjakfoofpaaGreatDoorLOrd
import Derived.Deep.RegionHeld3
import Derived.Test.YtabpnjakfoofpaaGreatDoorGOrd3
import Derived.Deep.OwnRows
namespace Go.Proofs.YtabpnjakfoofpaaGreatDoor
open Go.RowKit

def wpAnyL (P : Program) (ops : Array Oper) (Q : Exit → Act → World → Prop) (S : World → Prop) (late : Nat → Bool) : Nat → Array Bool → Act → World → Prop
  | 0, l, a, w => Region.ready .any ops l = [] ∧ Q .normal a w
  | n + 1, l, a, w => (Region.ready .any ops l = [] → Q .normal a w) ∧ ∀ i ∈ Region.ready .any ops l, wpOp P ops Q i (fun a' w' => (late i = false → S w') ∧ wpAnyL P ops Q S late n (l.setIfInBounds i true) a' w') a w
theorem wpAny_of_late {P : Program} {ops : Array Oper} {Q : Exit → Act → World → Prop} {S : World → Prop} {late : Nat → Bool} : ∀ (n : Nat) (l : Array Bool) (a : Act) (w : World), wpAnyL P ops Q S late n l a w → wpAny P .any ops Q n l a w
  | 0, _, _, _, h => h
  | n + 1, _, _, _, h => ⟨h.1, fun i hi => wpOp_mono (fun a' w' h' => wpAny_of_late n _ a' w' h'.2) (h.2 i hi)⟩
/-- Each late one waits for i. -/
def lateB (ops : Array Oper) (late : Nat → Bool) (i : Nat) : Bool := (List.range ops.size).all fun j => !late j || depB .any ops j i
theorem lateB_spec {ops : Array Oper} {late : Nat → Bool} {i : Nat} (h : lateB ops late i = true) {j : Nat} {oj : Oper} (hj : ops[j]? = some oj) (hl : late j = true) : ∃ e ∈ oj.after, Region.binds .any e = true ∧ e.on = i := by
  unfold lateB at h
  rw [List.all_eq_true] at h
  have h1 := h j (by simpa using (Array.getElem?_eq_some_iff.1 hj).1)
  rw [hl] at h1
  obtain ⟨o, ho, e, he⟩ := depB_spec (by simpa using h1)
  rw [hj] at ho
  cases ho
  exact ⟨e, he⟩
theorem wpAnyL_first {P : Program} {ops : Array Oper} {Q : Exit → Act → World → Prop} {S : World → Prop} {late : Nat → Bool} {i : Nat} {oi : Oper} {v : Value} (hi : ops[i]? = some oi) (hs : Region.noSelect ops = true) (hQ : ∀ c a w, Q (.panic c) (a.put oi.dst v) w → Q (.panic c) a w) (hl : lateB ops late i = true) :
    ∀ (n : Nat) (l : Array Bool) (a : Act) (w : World), (∀ j oj, ops[j]? = some oj → j ≠ i → l.getD j true = false → (∀ e ∈ oj.after, Region.binds .any e = true → e.on ≠ i) → oi.apart ops oj = true) →
      i ∈ Region.ready .any ops l → YieldsIf P ops S oi v a → S w → wpAnyL P ops Q S late n (l.setIfInBounds i true) (a.put oi.dst v) w → wpAnyL P ops Q S late (n + 1) l a w := by
  intro n
  induction n with
  | zero =>
    intro l a w _ hr hy hS H
    refine ⟨fun h => (by rw [h] at hr; cases hr), fun j hj => ?_⟩
    by_cases hji : j = i
    · subst hji; exact hy.wpOp hi hS ⟨fun _ => hS, H⟩
    · have := ready_mono hj hji
      rw [H.1] at this
      cases this
  | succ n ih =>
    intro l a w hfree hr hy hS H
    refine ⟨fun h => (by rw [h] at hr; cases hr), fun j hj => ?_⟩
    by_cases hji : j = i
    · subst hji; exact hy.wpOp hi hS ⟨fun _ => hS, H⟩
    · obtain ⟨hun, oj, hoj, hall⟩ := mem_ready.1 hj
      have hi0 := getD_f.1 (mem_ready.1 hr).1
      have hnot : ∀ e ∈ oj.after, Region.binds .any e = true → e.on ≠ i := fun e he hb heq => by
        have h1 := getD_t.1 (hall e he hb)
        rw [heq, hi0] at h1
        cases h1
      have hnl : late j = false := by
        cases hlj : late j with
        | false => rfl
        | true =>
          obtain ⟨e, he, hb, hon⟩ := lateB_spec hl hoj hlj
          exact absurd hon (hnot e he hb)
      have h2 := wpOp_putIf hoj (hfree j oj hoj hji hun hnot) (fun cs b => Region.noSelect_spec hs i oi cs b hi) (fun cs b => Region.noSelect_spec hs j oj cs b hoj) hQ hy (H.2 j (ready_mono hj hji))
      refine wpOp_mono (fun a' w' h3 => ⟨h3.2.1, ih (l.setIfInBounds j true) a' w' (fun k ok hk hki hu hno => hfree k ok hk hki ?_ hno) (ready_mono hr (Ne.symm hji)) h3.1 (h3.2.1 hnl) ?_⟩) h2
      · by_cases hjk : j = k
        · subst hjk; exact hun
        · rw [getD_set_ne true hjk] at hu; exact hu
      · rw [Array.setIfInBounds_comm _ _ hji]
        exact h3.2.2
theorem wpAnyL_take {P : Program} {ops : Array Oper} {Q : Exit → Act → World → Prop} {S : World → Prop} {late : Nat → Bool} {n : Nat} {l : Array Bool} {a : Act} {w : World} (i : Nat) {oi : Oper} {v : Value} (hi : ops[i]? = some oi) (hs : Region.noSelect ops = true) (hf : Region.free .any ops l i = true) (hr : (Region.ready .any ops l).contains i = true) (hl : lateB ops late i = true)
    (hQ : ∀ c a w, Q (.panic c) (a.put oi.dst v) w → Q (.panic c) a w) (hS : S w) (hy : YieldsIf P ops S oi v a) (h : wpAnyL P ops Q S late n (l.setIfInBounds i true) (a.put oi.dst v) w) : wpAnyL P ops Q S late (n + 1) l a w :=
  wpAnyL_first hi hs hQ hl n l a w (Region.free_spec hi hf) (by simpa using hr) hy hS h
/-- One alone may come up. -/
theorem wpAnyL_one {P : Program} {ops : Array Oper} {Q : Exit → Act → World → Prop} {S : World → Prop} {late : Nat → Bool} {n : Nat} {l : Array Bool} {a : Act} {w : World} (i : Nat) {o : Oper} (hr : Region.ready .any ops l = [i]) (ho : ops[i]? = some o)
    (h : ∀ K : Act → World → Prop, (∀ a w, (late i = false → S w) → wpAnyL P ops Q S late n (l.setIfInBounds i true) a w → K a w) → if Region.wanted o (yielded ops a.tmps) = true then Oper.wp P o a w K Q else K (a.put o.dst undef) w) : wpAnyL P ops Q S late (n + 1) l a w := by
  refine ⟨fun h0 => (by rw [hr] at h0; cases h0), fun j hj => ?_⟩
  rw [hr] at hj
  simp at hj
  subst hj
  exact wpOp_step ho (fun K hK => h K fun a w h1 h2 => hK a w ⟨h1, h2⟩)
theorem wpAnyL_done {P : Program} {ops : Array Oper} {Q : Exit → Act → World → Prop} {S : World → Prop} {late : Nat → Bool} {l : Array Bool} {a : Act} {w : World} (hr : Region.ready .any ops l = []) (h : Q .normal a w) : wpAnyL P ops Q S late 0 l a w := ⟨hr, h⟩
theorem wp_region_late {P : Program} {id : Nat} {ops : Array Oper} {Q : Exit → Act → World → Prop} {a : Act} {w : World} (S : World → Prop) (late : Nat → Bool) (hm : P.follows .mixedOrders = true) (hS : S w.drew) (h : S w.drew → wpAnyL P ops Q S late ops.size (Array.replicate ops.size false) a w.drew) : (Code.region id ops true).wp P Q a w :=
  wp_region_any hm (wpAny_of_late _ _ _ _ (h hS))
end Go.Proofs.YtabpnjakfoofpaaGreatDoor
/- The blocks that are reached, in reverse postorder. -/
namespace Go.Proofs.YtabpnjakfoofpaaGreatDoor
open Go.RowKit

theorem walk_all {w0 : World} {gcs : List Value} {bv : Value} {bs : List Bl} (hB : BlsAt w0 bv bs) (h5 : gcs[5]? = some bv) (hn : bs.length ≤ 4000) : ∀ f, DoesWalk w0 bs.length gcs (tms bs) f
  | 0 => walk_step hB h5 hn (fun f' he => by omega)
  | f + 1 => walk_step hB h5 hn (fun f' he => by cases he; exact walk_all hB h5 hn f)
abbrev nilV : Value := .slice none 0 0
theorem infoB : (Tryz.prog.info? 4).map (fun i => (i.zero, i.size, i.bytes)) = some (some (.bool false), 1, 1) := by kernel_rfl
theorem made_bools (n : Nat) : (madeCells #[.bool false] n).toList = (List.replicate n false).map Value.bool := by
  rw [toList_madeCells_one]
  simp
theorem ws_init (w : World) (gcs : List Value) (n : Nat) (hn : n ≤ 4000) (ta tb tc td te tf : TypeId) :
    WS w n gcs (((((((w.alloc (.cells gcs.toArray ta)).alloc (.cells (madeCells #[.bool false] n) 4)).alloc (.cells #[metV w.heap.size n] tb)).alloc (.cells #[nilV] tc)).alloc (.cells #[nilV] td)).alloc (.cells #[meetV w.heap.size] te)).alloc (.cells #[walkV w.heap.size] tf)) nilV nilV (List.replicate n false) [] [] := by
  have e1 : ∀ (W : World) (o : Obj), (W.alloc o).heap.size = W.heap.size + 1 := fun W o => by simp
  have b0 := Box.new w gcs ta
  have r1 := World.ownsRow_lit (base := w.heap.size) (e := 4) (size := 1) (w.alloc (.cells gcs.toArray ta)) (madeCells #[.bool false] n) n (by rw [e1]; omega) (by unfold maxLen; omega) (by simp [size_madeCells])
  have b2 := Box.new ((w.alloc (.cells gcs.toArray ta)).alloc (.cells (madeCells #[.bool false] n) 4)) [metV w.heap.size n] tb
  generalize hW2 : (w.alloc (.cells gcs.toArray ta)).alloc (.cells (madeCells #[.bool false] n) 4) = W2 at *
  have l1 : Below (w.alloc (.cells gcs.toArray ta)).heap.size (w.alloc (.cells gcs.toArray ta)) W2 := by rw [← hW2]; exact below_alloc (Below.refl _ _) _
  have s2 : W2.heap.size = w.heap.size + 2 := by rw [← hW2, e1, e1]
  have b0' := b0.below l1
  have bw : Below w.heap.size w W2 := below_trans (below_alloc (Below.refl _ _) _) l1
  rw [e1] at r1
  rw [s2] at b2
  have b3 := Box.new (W2.alloc (.cells #[metV w.heap.size n] tb)) [nilV] tc
  have b4 := Box.new ((W2.alloc (.cells #[metV w.heap.size n] tb)).alloc (.cells #[nilV] tc)) [nilV] td
  have b5 := Box.new (((W2.alloc (.cells #[metV w.heap.size n] tb)).alloc (.cells #[nilV] tc)).alloc (.cells #[nilV] td)) [meetV w.heap.size] te
  have b6 := Box.new ((((W2.alloc (.cells #[metV w.heap.size n] tb)).alloc (.cells #[nilV] tc)).alloc (.cells #[nilV] td)).alloc (.cells #[meetV w.heap.size] te)) [walkV w.heap.size] tf
  simp only [e1, s2] at b3 b4 b5 b6
  have al : ∀ (W : World) (o : Obj), Below W.heap.size W (W.alloc o) := fun W o => below_alloc (Below.refl _ _) o
  refine ⟨?_, ?_, World.ownsRow_nil _ _ _ _, World.ownsRow_nil _ _ _ _, ?_, ?_, ?_, ?_, ?_, b6, by simp [Value.ownBlock]⟩
  · exact below_alloc (below_alloc (below_alloc (below_alloc (below_alloc bw _) _) _) _) _
  · rw [made_bools] at r1
    exact ((((r1.alloc _).alloc _).alloc _).alloc _).alloc _
  · exact ((((b0'.below (al _ _)).below (al _ _)).below (al _ _)).below (al _ _)).below (al _ _)
  · exact (((b2.below (al _ _)).below (al _ _)).below (al _ _)).below (al _ _)
  · exact ((b3.below (al _ _)).below (al _ _)).below (al _ _)
  · exact (b4.below (al _ _)).below (al _ _)
  · exact b5.below (al _ _)
theorem store_func (a : Addr) (fn : Fn) (f c : Array Value) (m : Mode) (w : World) : (store a (.func fn f c) m).run Tryz.prog w = stored Tryz.prog w a (.func fn f c) m := run_store Tryz.prog w a _ m rfl
def pathLen (B : Nat) (w : World) : Nat := match w.cell? ⟨B + 3, 0, none⟩ with
  | some (.slice _ m _) => m
  | _ => 0
set_option maxRecDepth 100000 in
set_option maxHeartbeats 2000000 in
theorem order_any (G : Gr) (pv vv av bv : Value) (w : World) (h : GrAt w pv vv av bv G) (hn : G.blocks.length ≤ 4000) :
    Calls Tryz.prog 13 #[.agg #[.string G.name, pv, .int .u8 G.result, vv, av, bv]] w fun e w' => ∃ v, e = .returned v ∧ OwnI w' w.heap.size v (orderT (tms G.blocks)) ∧ Below w.heap.size w w' := by
  obtain ⟨nm, ps, r, vs, ars, bs⟩ := G
  have hB := h.bs
  dsimp only at hB hn ⊢
  clear h
  obtain ⟨a, c, rfl, _⟩ := hB.form
  by_cases h0 : bs.length = 0
  · have hb0 : bs = [] := List.eq_nil_of_length_eq_zero h0
    subst hb0
    clear hB
    go_enter Tryz.func13, Tryz.ntmps13
    go_wp2
    go_ret
    exact ⟨_, rfl, World.ownsRow_nil _ _ _ _, below_alloc (Below.refl _ _) _⟩
  · have HW : Hid _ := walk_all (gcs := [.string nm, pv, .int .u8 r, vv, av, .slice a bs.length c]) hB rfl hn bs.length
    have hne : (((bs.length : Nat) : Int) == 0) = false := beq_false_of_ne (by omega)
    generalize hbn : bs.length = n at *
    have HBN : Hid _ := hbn
    have hmk := run_make_row' (P := Tryz.prog) 66 4 (.bool false) 1 Tryz.underlying66 infoB rfl .i64 .i64 n (by omega) (by omega)
    have HWS : Hid _ := ws_init w [.string nm, pv, .int .u8 r, vv, av, .slice a n c] n hn 28 66 22 22 67 68
    have HME : Hid _ := meet_any HWS.out 0 (by omega) (by simp)
    have hn0 : 0 < n := by omega
    have hsf := store_func
    clear hbn hB
    go_enter Tryz.func13, Tryz.ntmps13
    go_wp2_with (go_at_call 30; go_loud (refine Calls.mono (by exact HME.out) ?_; rintro e w2 ⟨rfl, p2, hS2, hM2⟩; have HS2 : Hid _ := hS2; clear hS2 hM2))
    have HTS : Hid ((tms bs).length = n) := by show _ = _; rw [← HBN.out]; simp [tms]
    have HOR : Hid (orderT (tms bs) = (dfs (tms bs) n 0 ((List.replicate n false).set 0 true) []).2.reverse) := by
      show _ = _
      unfold orderT
      rw [HTS.out, if_neg (by omega)]
    have HWK : Hid (∀ (W : World) (p' l' : Value), WS w n [.string nm, pv, .int .u8 r, vv, av, .slice a n c] W p' l' ((List.replicate n false).set 0 true) [(0 : Int)] [] → Calls Tryz.prog 31 #[.int .i64 0, ptr (w.heap.size + 3), ptr w.heap.size, ptr (w.heap.size + 2), ptr (w.heap.size + 5), ptr (w.heap.size + 6), ptr (w.heap.size + 4)] W fun e w' => e = .returned (.bool true) ∧ ∃ pv' lv', WS w n [.string nm, pv, .int .u8 r, vv, av, .slice a n c] w' pv' lv' (dfs (tms bs) n 0 ((List.replicate n false).set 0 true) []).1 [] (dfs (tms bs) n 0 ((List.replicate n false).set 0 true) []).2 ∧ WM w.heap.size W p' l' w' pv' lv') := fun W p' l' hw => by
      have hc : cntF ((List.replicate n false).set 0 true) ≤ n := by
        unfold cntF
        refine Nat.le_trans List.count_le_length ?_
        simp
      have := HW.out W p' l' ((List.replicate n false).set 0 true) [] [] 0 0 hw hn0 (by rw [getD_set (by simpa using hn0)]; simp) hc (by omega) (by simp; omega)
      exact this
    have HCL : Hid ((dfs (tms bs) n 0 ((List.replicate n false).set 0 true) []).2.length ≤ 10000) := by
      show _ ≤ _
      have hc : cntF ((List.replicate n false).set 0 true) ≤ n := by
        unfold cntF
        refine Nat.le_trans List.count_le_length ?_
        simp
      have := cnt_all (tms bs) n 0 ((List.replicate n false).set 0 true) [] (by rw [HTS.out]; simp) (by rw [HTS.out]; exact hn0) (by rw [getD_set (by simpa using hn0)]; simp) hc
      simp only [List.length_nil] at this
      omega
    generalize dfs (tms bs) n 0 ((List.replicate n false).set 0 true) [] = D at *
    generalize (List.replicate n false).set 0 true = met0 at *
    clear HW HTS HBN hmk HWS HME hsf
    go_loopw [] (fun wr => Hid (∃ p' l' m pth l, WS w n [.string nm, pv, .int .u8 r, vv, av, .slice a n c] wr p' l' m pth l ∧ ((pth = [(0 : Int)] ∧ l = [] ∧ m = met0) ∨ (pth = [] ∧ m = D.1 ∧ l = D.2)))) (fun wr => pathLen w.heap.size wr)
    case atStart => exact ⟨_, _, _, _, _, HS2.out, .inl ⟨rfl, rfl, rfl⟩⟩
    case round =>
      clear HS2
      obtain ⟨p', l', m, pth, l, hS, hC⟩ := hrel.out
      clear hrel
      rcases hC with ⟨rfl, rfl, rfl⟩ | ⟨rfl, rfl, rfl⟩
      · obtain ⟨g', c', rfl, _, _, _, _⟩ := own_form (own_snoc (l := []) hS.prow)
        have e3 : wr.cell? ⟨w.heap.size + 1 + 1 + 1, 0, none⟩ = some (.slice (some ⟨g', 0, none⟩) (([] : List Int).length + 1) c') := hS.bp.cell 0 _ rfl
        have e6 : wr.cell? ⟨w.heap.size + 1 + 1 + 1 + 1 + 1 + 1, 0, none⟩ = some (walkV w.heap.size) := hS.bk.cell 0 _ rfl
        unfold walkV at e6
        have HS : Hid _ := hS
        have HPL : Hid (pathLen w.heap.size wr = 1) := by
          show _ = _
          unfold pathLen
          rw [show w.heap.size + 3 = w.heap.size + 1 + 1 + 1 from rfl, e3]
          rfl
        clear hS
        go_wp2_with (go_at_call 31; go_loud (refine Calls.mono (by exact HWK.out _ _ _ HS.out) ?_; rintro e w3 ⟨rfl, p3, l3, hS3, hM3⟩; have HS3 : Hid _ := hS3; clear hS3 hM3))
        go_roundw
        case rel => exact ⟨_, _, _, _, _, HS3.out, .inr ⟨rfl, rfl, rfl⟩⟩
        case measure =>
          rw [HPL.out]
          obtain ⟨pa, pc, rfl, _⟩ := (OwnI.at' HS3.out.prow (by simp)).form
          have := HS3.out.bp.cell 0 _ rfl
          unfold pathLen
          rw [this]
          simp
      · obtain ⟨pa, pc, rfl, _⟩ := (OwnI.at' hS.prow (by simp)).form
        have e3 : wr.cell? ⟨w.heap.size + 1 + 1 + 1, 0, none⟩ = some (.slice pa ([] : List Int).length pc) := hS.bp.cell 0 _ rfl
        have e4 : wr.cell? ⟨w.heap.size + 1 + 1 + 1 + 1, 0, none⟩ = some l' := hS.bl.cell 0 _ rfl
        have HRV : Hid _ := reverse_own hS.lrow (by have := HCL.out; omega)
        have HS : Hid _ := hS
        clear hS
        go_wp2_with (go_at_call 32; go_loud (refine Calls.mono (by exact HRV.out) ?_; rintro e w3 ⟨rfl, ho3, hg3⟩; have e5 : w3.cell? ⟨w.heap.size + 1 + 1 + 1 + 1, 0, none⟩ = some l' := (World.cell?_of_block (w := wr) (a := ⟨w.heap.size + 1 + 1 + 1 + 1, 0, none⟩) (hg3.block _ HS.out.bl.lt (fun hc => own_lt7 HS.out.lrow (b := w.heap.size + 4) (by omega) hc.symm))).trans e4; have HO3 : Hid _ := ho3; have HG3 : Hid _ := hg3; clear ho3 hg3))
        go_ret
        refine ⟨l', rfl, ?_, ?_⟩
        · rw [HOR.out]
          exact own_mono HO3.out (by omega)
        · exact below_grown HS.out.bel HG3.out (fun q hq => by have := (HS.out.lrow.lt q hq).1; omega)
end Go.Proofs.YtabpnjakfoofpaaGreatDoor
