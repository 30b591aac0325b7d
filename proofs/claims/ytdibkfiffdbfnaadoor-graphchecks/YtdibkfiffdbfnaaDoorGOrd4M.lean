/- The chapter's graph. -/
import Derived.Test.YtdibkfiffdbfnaaDoorGWideM
import Derived.Laws.Rows
import Derived.Test.YtdibkfiffdbfnaaDoorGOrd3
import Derived.Deep.OwnRows
namespace Go.Proofs.YtdibkfiffdbfnaaDoor
open Go.RowKit

def allocs (w : World) (os : List Obj) : World := os.foldl World.alloc w
theorem allocs_below : ∀ (os : List Obj) (w : World), Below w.heap.size w (allocs w os)
  | [], _ => Below.refl _ _
  | o :: os, w => below_trans (below_alloc (Below.refl _ _) o) (allocs_below os (w.alloc o))
theorem allocs_get : ∀ (os : List Obj) (w : World) (k : Nat) (o : Obj), os[k]? = some o → (allocs w os).heap[w.heap.size + k]? = some o
  | o' :: os, w, 0, o, h => by
    cases h
    have h1 := (allocs_below os (w.alloc o')).block w.heap.size (by simp)
    exact h1.trans (heap_alloc_new w o')
  | o' :: os, w, k + 1, o, h => by
    have h1 := allocs_get os (w.alloc o') k o (by simpa using h)
    rw [show (w.alloc o').heap.size = w.heap.size + 1 by simp, show w.heap.size + 1 + k = w.heap.size + (k + 1) by omega] at h1
    exact h1
theorem row_lit {W : World} {g : Nat} {cs : List Value} {t : TypeId} (n : Nat) (h : W.heap[g]? = some (.cells cs.toArray t)) (hn : n ≤ 1000) : RowAt W (.slice (some ⟨g, 0, none⟩) n n) n cs := by
  refine ⟨_, _, rfl, ⟨Nat.le_refl _, by omega⟩, .inr ⟨g, 0, rfl, (Array.getElem?_eq_some_iff.1 h).1, fun j u hj => ?_⟩⟩
  simp only [World.cell?, h]
  simpa using hj
theorem row_nil (W : World) (cs : List Value) : RowAt W (.slice none 0 0) 0 cs := ⟨_, _, rfl, ⟨Nat.le_refl _, by omega⟩, .inl rfl⟩
abbrev sl (g n : Nat) : Value := .slice (some ⟨g, 0, none⟩) n n
abbrev u64V (k : Int) : Value := .int .u64 k
def insA : List In := [⟨2, 0, 2, [], 5, 0⟩, ⟨4, 13, 1, [0, 2], 0, 0⟩]
def insB : List In := [⟨10, 0, 0, [0], 0, 0⟩]
def insC (more : Bool) : List In := [⟨1, 0, 2, if more then [0, 2, 2] else [0, 2], 0, 0⟩]
def smallG (more : Bool) : Gr := ⟨⟨#[103]⟩, [0], 4, [4, 1, 4], [], [⟨insA, ⟨2, 1, 2, 1, 0⟩⟩, ⟨insB, ⟨1, 0, 3, 0, 0⟩⟩, ⟨[], ⟨1, 0, 3, 0, 0⟩⟩, ⟨insC more, ⟨3, 2, 0, 0, 0⟩⟩, ⟨[], ⟨1, 0, 3, 0, 0⟩⟩]⟩
def objs (more : Bool) (N : Nat) : List Obj := [
  .cells #[.string ⟨#[103]⟩, sl (N + 1) 1, bytV 4, sl (N + 2) 3, .slice none 0 0, sl (N + 9) 5] 35,
  .cells #[intV 0] 3,
  .cells #[bytV 4, bytV 1, bytV 4] 30,
  .cells #[intV 0, intV 2] 3,
  .cells #[bytV 2, bytV 0, intV 2, .slice none 0 0, u64V 5, intV 0, bytV 4, bytV 13, intV 1, sl (N + 3) 2, u64V 0, intV 0] 43,
  .cells #[intV 0] 3,
  .cells #[bytV 10, bytV 0, intV 0, sl (N + 5) 1, u64V 0, intV 0] 43,
  .cells #[intV 0, intV 2] 3,
  .cells #[bytV 1, bytV 0, intV 2, if more then sl (N + 11) 3 else sl (N + 7) 2, u64V 0, intV 0] 43,
  .cells #[sl (N + 4) 2, bytV 2, intV 1, intV 2, intV 1, bytV 0, sl (N + 6) 1, bytV 1, intV 0, intV 3, intV 0, bytV 0, .slice none 0 0, bytV 1, intV 0, intV 3, intV 0, bytV 0, sl (N + 8) 1, bytV 3, intV 2, intV 0, intV 0, bytV 0, .slice none 0 0, bytV 1, intV 0, intV 3, intV 0, bytV 0] 55,
  .cells #[.string ⟨#[103]⟩, sl (N + 1) 1, bytV 4, sl (N + 2) 3, .slice none 0 0, sl (N + 9) 5] 35] ++ (if more then [.cells #[intV 0, intV 2, intV 2] 3] else [])
theorem small_at_f (w : World) : GrAt (allocs w (objs false w.heap.size)) (sl (w.heap.size + 1) 1) (sl (w.heap.size + 2) 3) (.slice none 0 0) (sl (w.heap.size + 9) 5) (smallG false) := by
  have g := fun k o (h : (objs false w.heap.size)[k]? = some o) => allocs_get (objs false w.heap.size) w k o h
  have i0 : InsAt (allocs w (objs false w.heap.size)) (sl (w.heap.size + 4) 2) insA := by
    refine ⟨by decide, [.slice none 0 0, sl (w.heap.size + 3) 2], rfl, row_lit (t := 43) 2 (g 4 _ rfl) (by omega), fun i x a hx ha => ?_⟩
    rcases i with _ | _ | i
    · cases hx; cases ha; exact row_nil _ _
    · cases hx; cases ha; exact row_lit (t := 3) 2 (g 3 _ rfl) (by omega)
    · simp [insA] at hx
  have i1 : InsAt (allocs w (objs false w.heap.size)) (sl (w.heap.size + 6) 1) insB := by
    refine ⟨by decide, [sl (w.heap.size + 5) 1], rfl, row_lit (t := 43) 1 (g 6 _ rfl) (by omega), fun i x a hx ha => ?_⟩
    rcases i with _ | i
    · cases hx; cases ha; exact row_lit (t := 3) 1 (g 5 _ rfl) (by omega)
    · simp [insB] at hx
  have i2 : InsAt (allocs w (objs false w.heap.size)) (.slice none 0 0) [] := ⟨by simp, [], rfl, row_nil _ _, fun i x a hx ha => by simp at hx⟩
  have i3 : InsAt (allocs w (objs false w.heap.size)) (sl (w.heap.size + 8) 1) (insC false) := by
    refine ⟨by decide, [sl (w.heap.size + 7) 2], rfl, row_lit (t := 43) 1 (g 8 _ rfl) (by omega), fun i x a hx ha => ?_⟩
    rcases i with _ | i
    · cases hx; cases ha; exact row_lit (t := 3) 2 (g 7 _ rfl) (by omega)
    · simp [insC] at hx
  refine ⟨row_lit (t := 3) 1 (g 1 _ rfl) (by omega), row_lit (t := 30) 3 (g 2 _ rfl) (by omega), row_nil _ _, ⟨[sl (w.heap.size + 4) 2, sl (w.heap.size + 6) 1, .slice none 0 0, sl (w.heap.size + 8) 1, .slice none 0 0], rfl, row_lit (t := 55) 5 (g 9 _ rfl) (by omega), fun i x a hx ha => ?_⟩⟩
  rcases i with _ | _ | _ | _ | _ | i
  · cases hx; cases ha; exact i0
  · cases hx; cases ha; exact i1
  · cases hx; cases ha; exact i2
  · cases hx; cases ha; exact i3
  · cases hx; cases ha; exact i2
  · simp [smallG] at hx
set_option maxRecDepth 100000 in
set_option maxHeartbeats 4000000 in
theorem small_f (w : World) : Calls Tryd.prog 9 #[.bool false] w fun e w' => e = .returned (.agg #[.string ⟨#[103]⟩, sl (w.heap.size + 1) 1, .int .u8 4, sl (w.heap.size + 2) 3, .slice none 0 0, sl (w.heap.size + 9) 5]) ∧ GrAt w' (sl (w.heap.size + 1) 1) (sl (w.heap.size + 2) 3) (.slice none 0 0) (sl (w.heap.size + 9) 5) (smallG false) ∧ Below w.heap.size w w' := by
  go_enter Tryd.func9, Tryd.ntmps9
  go_wp2
  change bodyPost _ _ _ _ _ (allocs w (objs false w.heap.size))
  exact bodyPost_ret (results_cell_row rfl _ _ w.heap.size 35 #[.string ⟨#[103]⟩, sl (w.heap.size + 1) 1, bytV 4, sl (w.heap.size + 2) 3, .slice none 0 0, sl (w.heap.size + 9) 5] _ _ rfl (allocs_get (objs false w.heap.size) w 0 _ rfl) Tryd.underlying35 rfl (by rfl)) rfl ⟨rfl, small_at_f w, allocs_below _ _⟩
theorem small_at_t (w : World) : GrAt (allocs w (objs true w.heap.size)) (sl (w.heap.size + 1) 1) (sl (w.heap.size + 2) 3) (.slice none 0 0) (sl (w.heap.size + 9) 5) (smallG true) := by
  have g := fun k o (h : (objs true w.heap.size)[k]? = some o) => allocs_get (objs true w.heap.size) w k o h
  have i0 : InsAt (allocs w (objs true w.heap.size)) (sl (w.heap.size + 4) 2) insA := by
    refine ⟨by decide, [.slice none 0 0, sl (w.heap.size + 3) 2], rfl, row_lit (t := 43) 2 (g 4 _ rfl) (by omega), fun i x a hx ha => ?_⟩
    rcases i with _ | _ | i
    · cases hx; cases ha; exact row_nil _ _
    · cases hx; cases ha; exact row_lit (t := 3) 2 (g 3 _ rfl) (by omega)
    · simp [insA] at hx
  have i1 : InsAt (allocs w (objs true w.heap.size)) (sl (w.heap.size + 6) 1) insB := by
    refine ⟨by decide, [sl (w.heap.size + 5) 1], rfl, row_lit (t := 43) 1 (g 6 _ rfl) (by omega), fun i x a hx ha => ?_⟩
    rcases i with _ | i
    · cases hx; cases ha; exact row_lit (t := 3) 1 (g 5 _ rfl) (by omega)
    · simp [insB] at hx
  have i2 : InsAt (allocs w (objs true w.heap.size)) (.slice none 0 0) [] := ⟨by simp, [], rfl, row_nil _ _, fun i x a hx ha => by simp at hx⟩
  have i3 : InsAt (allocs w (objs true w.heap.size)) (sl (w.heap.size + 8) 1) (insC true) := by
    refine ⟨by decide, [sl (w.heap.size + 11) 3], rfl, row_lit (t := 43) 1 (g 8 _ rfl) (by omega), fun i x a hx ha => ?_⟩
    rcases i with _ | i
    · cases hx; cases ha; exact row_lit (t := 3) 3 (g 11 _ rfl) (by omega)
    · simp [insC] at hx
  refine ⟨row_lit (t := 3) 1 (g 1 _ rfl) (by omega), row_lit (t := 30) 3 (g 2 _ rfl) (by omega), row_nil _ _, ⟨[sl (w.heap.size + 4) 2, sl (w.heap.size + 6) 1, .slice none 0 0, sl (w.heap.size + 8) 1, .slice none 0 0], rfl, row_lit (t := 55) 5 (g 9 _ rfl) (by omega), fun i x a hx ha => ?_⟩⟩
  rcases i with _ | _ | _ | _ | _ | i
  · cases hx; cases ha; exact i0
  · cases hx; cases ha; exact i1
  · cases hx; cases ha; exact i2
  · cases hx; cases ha; exact i3
  · cases hx; cases ha; exact i2
  · simp [smallG] at hx
set_option maxRecDepth 100000 in
set_option maxHeartbeats 4000000 in
theorem small_t (w : World) : Calls Tryd.prog 9 #[.bool true] w fun e w' => e = .returned (.agg #[.string ⟨#[103]⟩, sl (w.heap.size + 1) 1, .int .u8 4, sl (w.heap.size + 2) 3, .slice none 0 0, sl (w.heap.size + 9) 5]) ∧ GrAt w' (sl (w.heap.size + 1) 1) (sl (w.heap.size + 2) 3) (.slice none 0 0) (sl (w.heap.size + 9) 5) (smallG true) ∧ Below w.heap.size w w' := by
  go_enter Tryd.func9, Tryd.ntmps9
  go_wp2
  change bodyPost _ _ _ _ _ (allocs w (objs true w.heap.size))
  exact bodyPost_ret (results_cell_row rfl _ _ w.heap.size 35 #[.string ⟨#[103]⟩, sl (w.heap.size + 1) 1, bytV 4, sl (w.heap.size + 2) 3, .slice none 0 0, sl (w.heap.size + 9) 5] _ _ rfl (allocs_get (objs true w.heap.size) w 0 _ rfl) Tryd.underlying35 rfl (by rfl)) rfl ⟨rfl, small_at_t w, allocs_below _ _⟩
end Go.Proofs.YtdibkfiffdbfnaaDoor
/- The blocks that are reached, in reverse postorder. -/
namespace Go.Proofs.YtdibkfiffdbfnaaDoor
open Go.RowKit

theorem walk_all {w0 : World} {gcs : List Value} {bv : Value} {bs : List Bl} (hB : BlsAt w0 bv bs) (h5 : gcs[5]? = some bv) (hn : bs.length ≤ 4000) : ∀ f, DoesWalk w0 bs.length gcs (tms bs) f
  | 0 => walk_step hB h5 hn (fun f' he => by omega)
  | f + 1 => walk_step hB h5 hn (fun f' he => by cases he; exact walk_all hB h5 hn f)
abbrev nilV : Value := .slice none 0 0
theorem infoB : (Tryd.prog.info? 4).map (fun i => (i.zero, i.size, i.bytes)) = some (some (.bool false), 1, 1) := by kernel_rfl
theorem made_bools (n : Nat) : (madeCells #[.bool false] n).toList = (List.replicate n false).map Value.bool := by
  rw [toList_madeCells_one]
  simp
theorem ws_init (w : World) (gcs : List Value) (n : Nat) (hn : n ≤ 4000) (ta tb tc td te tf : TypeId) :
    WS w n gcs (((((((w.alloc (.cells gcs.toArray ta)).alloc (.cells (madeCells #[.bool false] n) 4)).alloc (.cells #[metV w.heap.size n] tb)).alloc (.cells #[nilV] tc)).alloc (.cells #[nilV] td)).alloc (.cells #[meetV w.heap.size] te)).alloc (.cells #[walkV w.heap.size] tf)) nilV nilV (List.replicate n false) [] [] := by
  have e1 : ∀ (W : World) (o : Obj), (W.alloc o).heap.size = W.heap.size + 1 := fun W o => by simp
  have b0 := Box.new w gcs ta
  have r1 := World.ownsRow_lit (base := w.heap.size) (e := 4) (size := 1) (w.alloc (.cells gcs.toArray ta)) (madeCells #[.bool false] n) n (by rw [e1]; omega) (by unfold maxLen; omega) (by simp [size_madeCells])
  have b2 := Box.new ((w.alloc (.cells gcs.toArray ta)).alloc (.cells (madeCells #[.bool false] n) 4)) [metV w.heap.size n] tb
  generalize hW2 : (w.alloc (.cells gcs.toArray ta)).alloc (.cells (madeCells #[.bool false] n) 4) = W2 at *
  have l1 : Below (w.alloc (.cells gcs.toArray ta)).heap.size (w.alloc (.cells gcs.toArray ta)) W2 := by rw [← hW2]; exact below_alloc (Below.refl _ _) _
  have s2 : W2.heap.size = w.heap.size + 2 := by rw [← hW2, e1, e1]
  have b0' := b0.below l1
  have bw : Below w.heap.size w W2 := below_trans (below_alloc (Below.refl _ _) _) l1
  rw [e1] at r1
  rw [s2] at b2
  have b3 := Box.new (W2.alloc (.cells #[metV w.heap.size n] tb)) [nilV] tc
  have b4 := Box.new ((W2.alloc (.cells #[metV w.heap.size n] tb)).alloc (.cells #[nilV] tc)) [nilV] td
  have b5 := Box.new (((W2.alloc (.cells #[metV w.heap.size n] tb)).alloc (.cells #[nilV] tc)).alloc (.cells #[nilV] td)) [meetV w.heap.size] te
  have b6 := Box.new ((((W2.alloc (.cells #[metV w.heap.size n] tb)).alloc (.cells #[nilV] tc)).alloc (.cells #[nilV] td)).alloc (.cells #[meetV w.heap.size] te)) [walkV w.heap.size] tf
  simp only [e1, s2] at b3 b4 b5 b6
  have al : ∀ (W : World) (o : Obj), Below W.heap.size W (W.alloc o) := fun W o => below_alloc (Below.refl _ _) o
  refine ⟨?_, ?_, World.ownsRow_nil _ _ _ _, World.ownsRow_nil _ _ _ _, ?_, ?_, ?_, ?_, ?_, b6, by simp [Value.ownBlock]⟩
  · exact below_alloc (below_alloc (below_alloc (below_alloc (below_alloc bw _) _) _) _) _
  · rw [made_bools] at r1
    exact ((((r1.alloc _).alloc _).alloc _).alloc _).alloc _
  · exact ((((b0'.below (al _ _)).below (al _ _)).below (al _ _)).below (al _ _)).below (al _ _)
  · exact (((b2.below (al _ _)).below (al _ _)).below (al _ _)).below (al _ _)
  · exact ((b3.below (al _ _)).below (al _ _)).below (al _ _)
  · exact (b4.below (al _ _)).below (al _ _)
  · exact b5.below (al _ _)
theorem store_func (a : Addr) (fn : Fn) (f c : Array Value) (m : Mode) (w : World) : (store a (.func fn f c) m).run Tryd.prog w = stored Tryd.prog w a (.func fn f c) m := run_store Tryd.prog w a _ m rfl
def pathLen (B : Nat) (w : World) : Nat := match w.cell? ⟨B + 3, 0, none⟩ with
  | some (.slice _ m _) => m
  | _ => 0
set_option maxRecDepth 100000 in
set_option maxHeartbeats 2000000 in
theorem order_any (G : Gr) (pv vv av bv : Value) (w : World) (h : GrAt w pv vv av bv G) (hn : G.blocks.length ≤ 4000) :
    Calls Tryd.prog 12 #[.agg #[.string G.name, pv, .int .u8 G.result, vv, av, bv]] w fun e w' => ∃ v, e = .returned v ∧ OwnI w' w.heap.size v (orderT (tms G.blocks)) ∧ Below w.heap.size w w' := by
  obtain ⟨nm, ps, r, vs, ars, bs⟩ := G
  have hB := h.bs
  dsimp only at hB hn ⊢
  clear h
  obtain ⟨a, c, rfl, _⟩ := hB.form
  by_cases h0 : bs.length = 0
  · have hb0 : bs = [] := List.eq_nil_of_length_eq_zero h0
    subst hb0
    clear hB
    go_enter Tryd.func12, Tryd.ntmps12
    go_wp2
    go_ret
    exact ⟨_, rfl, World.ownsRow_nil _ _ _ _, below_alloc (Below.refl _ _) _⟩
  · have HW : Hid _ := walk_all (gcs := [.string nm, pv, .int .u8 r, vv, av, .slice a bs.length c]) hB rfl hn bs.length
    have hne : (((bs.length : Nat) : Int) == 0) = false := beq_false_of_ne (by omega)
    generalize hbn : bs.length = n at *
    have HBN : Hid _ := hbn
    have hmk := run_make_row' (P := Tryd.prog) 61 4 (.bool false) 1 Tryd.underlying61 infoB rfl .i64 .i64 n (by omega) (by omega)
    have HWS : Hid _ := ws_init w [.string nm, pv, .int .u8 r, vv, av, .slice a n c] n hn 35 61 29 29 62 63
    have HME : Hid _ := meet_any HWS.out 0 (by omega) (by simp)
    have hn0 : 0 < n := by omega
    have hsf := store_func
    clear hbn hB
    go_enter Tryd.func12, Tryd.ntmps12
    go_wp2_with (go_at_call 18; go_loud (refine Calls.mono (by exact HME.out) ?_; rintro e w2 ⟨rfl, p2, hS2, hM2⟩; have HS2 : Hid _ := hS2; clear hS2 hM2))
    have HTS : Hid ((tms bs).length = n) := by show _ = _; rw [← HBN.out]; simp [tms]
    have HOR : Hid (orderT (tms bs) = (dfs (tms bs) n 0 ((List.replicate n false).set 0 true) []).2.reverse) := by
      show _ = _
      unfold orderT
      rw [HTS.out, if_neg (by omega)]
    have HWK : Hid (∀ (W : World) (p' l' : Value), WS w n [.string nm, pv, .int .u8 r, vv, av, .slice a n c] W p' l' ((List.replicate n false).set 0 true) [(0 : Int)] [] → Calls Tryd.prog 19 #[.int .i64 0, ptr (w.heap.size + 3), ptr w.heap.size, ptr (w.heap.size + 2), ptr (w.heap.size + 5), ptr (w.heap.size + 6), ptr (w.heap.size + 4)] W fun e w' => e = .returned (.bool true) ∧ ∃ pv' lv', WS w n [.string nm, pv, .int .u8 r, vv, av, .slice a n c] w' pv' lv' (dfs (tms bs) n 0 ((List.replicate n false).set 0 true) []).1 [] (dfs (tms bs) n 0 ((List.replicate n false).set 0 true) []).2 ∧ WM w.heap.size W p' l' w' pv' lv') := fun W p' l' hw => by
      have hc : cntF ((List.replicate n false).set 0 true) ≤ n := by
        unfold cntF
        refine Nat.le_trans List.count_le_length ?_
        simp
      have := HW.out W p' l' ((List.replicate n false).set 0 true) [] [] 0 0 hw hn0 (by rw [getD_set (by simpa using hn0)]; simp) hc (by omega) (by simp; omega)
      exact this
    have HCL : Hid ((dfs (tms bs) n 0 ((List.replicate n false).set 0 true) []).2.length ≤ 10000) := by
      show _ ≤ _
      have hc : cntF ((List.replicate n false).set 0 true) ≤ n := by
        unfold cntF
        refine Nat.le_trans List.count_le_length ?_
        simp
      have := cnt_all (tms bs) n 0 ((List.replicate n false).set 0 true) [] (by rw [HTS.out]; simp) (by rw [HTS.out]; exact hn0) (by rw [getD_set (by simpa using hn0)]; simp) hc
      simp only [List.length_nil] at this
      omega
    generalize dfs (tms bs) n 0 ((List.replicate n false).set 0 true) [] = D at *
    generalize (List.replicate n false).set 0 true = met0 at *
    clear HW HTS HBN hmk HWS HME hsf
    go_loopw [] (fun wr => Hid (∃ p' l' m pth l, WS w n [.string nm, pv, .int .u8 r, vv, av, .slice a n c] wr p' l' m pth l ∧ ((pth = [(0 : Int)] ∧ l = [] ∧ m = met0) ∨ (pth = [] ∧ m = D.1 ∧ l = D.2)))) (fun wr => pathLen w.heap.size wr)
    case atStart => exact ⟨_, _, _, _, _, HS2.out, .inl ⟨rfl, rfl, rfl⟩⟩
    case round =>
      clear HS2
      obtain ⟨p', l', m, pth, l, hS, hC⟩ := hrel.out
      clear hrel
      rcases hC with ⟨rfl, rfl, rfl⟩ | ⟨rfl, rfl, rfl⟩
      · obtain ⟨g', c', rfl, _, _, _, _⟩ := own_form (own_snoc (l := []) hS.prow)
        have e3 : wr.cell? ⟨w.heap.size + 1 + 1 + 1, 0, none⟩ = some (.slice (some ⟨g', 0, none⟩) (([] : List Int).length + 1) c') := hS.bp.cell 0 _ rfl
        have e6 : wr.cell? ⟨w.heap.size + 1 + 1 + 1 + 1 + 1 + 1, 0, none⟩ = some (walkV w.heap.size) := hS.bk.cell 0 _ rfl
        unfold walkV at e6
        have HS : Hid _ := hS
        have HPL : Hid (pathLen w.heap.size wr = 1) := by
          show _ = _
          unfold pathLen
          rw [show w.heap.size + 3 = w.heap.size + 1 + 1 + 1 from rfl, e3]
          rfl
        clear hS
        go_wp2_with (go_at_call 19; go_loud (refine Calls.mono (by exact HWK.out _ _ _ HS.out) ?_; rintro e w3 ⟨rfl, p3, l3, hS3, hM3⟩; have HS3 : Hid _ := hS3; clear hS3 hM3))
        go_roundw
        case rel => exact ⟨_, _, _, _, _, HS3.out, .inr ⟨rfl, rfl, rfl⟩⟩
        case measure =>
          rw [HPL.out]
          obtain ⟨pa, pc, rfl, _⟩ := (OwnI.at' HS3.out.prow (by simp)).form
          have := HS3.out.bp.cell 0 _ rfl
          unfold pathLen
          rw [this]
          simp
      · obtain ⟨pa, pc, rfl, _⟩ := (OwnI.at' hS.prow (by simp)).form
        have e3 : wr.cell? ⟨w.heap.size + 1 + 1 + 1, 0, none⟩ = some (.slice pa ([] : List Int).length pc) := hS.bp.cell 0 _ rfl
        have e4 : wr.cell? ⟨w.heap.size + 1 + 1 + 1 + 1, 0, none⟩ = some l' := hS.bl.cell 0 _ rfl
        have HRV : Hid _ := reverse_own hS.lrow (by have := HCL.out; omega)
        have HS : Hid _ := hS
        clear hS
        go_wp2_with (go_at_call 22; go_loud (refine Calls.mono (by exact HRV.out) ?_; rintro e w3 ⟨rfl, ho3, hg3⟩; have e5 : w3.cell? ⟨w.heap.size + 1 + 1 + 1 + 1, 0, none⟩ = some l' := (World.cell?_of_block (w := wr) (a := ⟨w.heap.size + 1 + 1 + 1 + 1, 0, none⟩) (hg3.block _ HS.out.bl.lt (fun hc => own_lt7 HS.out.lrow (b := w.heap.size + 4) (by omega) hc.symm))).trans e4; have HO3 : Hid _ := ho3; have HG3 : Hid _ := hg3; clear ho3 hg3))
        go_ret
        refine ⟨l', rfl, ?_, ?_⟩
        · rw [HOR.out]
          exact own_mono HO3.out (by omega)
        · exact below_grown HS.out.bel HG3.out (fun q hq => by have := (HS.out.lrow.lt q hq).1; omega)
end Go.Proofs.YtdibkfiffdbfnaaDoor
