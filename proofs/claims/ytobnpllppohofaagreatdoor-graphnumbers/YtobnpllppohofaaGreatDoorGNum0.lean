/- The numbers' small steps: literals in memory, bent graphs, a list of many, arguments of a block. -/
import Derived.Test.YtobnpllppohofaaGreatDoorGBnA1
import Derived.Test.YtobnpllppohofaaGreatDoorGBnA2
import Derived.Test.YtobnpllppohofaaGreatDoorGBnA3
import Derived.Test.YtobnpllppohofaaGreatDoorGBnB
import Derived.Test.YtobnpllppohofaaGreatDoorGQ0M
import Derived.Test.YtobnpllppohofaaGreatDoorGTrQM
namespace Go.Proofs.YtobnpllppohofaaGreatDoor
open Go.RowKit

theorem bent_any : ∀ (k : Nat), k < 22 → ∀ w : World, Calls Tryz.prog 4 #[.int .i64 (k : Int)] w fun e w' => ∃ pv vv av bv, e = .returned (.agg #[.string (bentG k).name, pv, .int .u8 (bentG k).result, vv, av, bv]) ∧ GrAt w' pv vv av bv (bentG k) ∧ Below w.heap.size w w'
 | 0, _, w => bent_0 w
 | 1, _, w => bent_1 w
 | 2, _, w => bent_2 w
 | 3, _, w => bent_3 w
 | 4, _, w => bent_4 w
 | 5, _, w => bent_5 w
 | 6, _, w => bent_6 w
 | 7, _, w => bent_7 w
 | 8, _, w => bent_8 w
 | 9, _, w => bent_9 w
 | 10, _, w => bent_10 w
 | 11, _, w => bent_11 w
 | 12, _, w => bent_12 w
 | 13, _, w => bent_13 w
 | 14, _, w => bent_14 w
 | 15, _, w => bent_15 w
 | 16, _, w => bent_16 w
 | 17, _, w => bent_17 w
 | 18, _, w => bent_18 w
 | 19, _, w => bent_19 w
 | 20, _, w => bent_20 w
 | 21, _, w => bent_21 w
 | k + 22, h, _ => by omega
theorem bent_bad : ∀ k : Nat, k < 22 → checkT [bentG k] = (4, 0) ∧ (bentG k).blocks.length ≤ 100000 := by decide +kernel
theorem grs_l1 (w : World) (G : Gr) (pv vv av bv : Value) (h : GrAt w pv vv av bv G) : GrsAt (w.alloc (.cells #[.string G.name, pv, .int .u8 G.result, vv, av, bv] 28)) (sl w.heap.size 1) [G] := by
 refine ⟨[(pv, vv, av, bv)], rfl, row_lit (t := 28) 1 (heap_new w [.string G.name, pv, .int .u8 G.result, vv, av, bv] 28) (by omega), fun i x q hx hq => ?_⟩
 rcases i with _ | i
 ·cases hx; cases hq; exact h.below (below_alloc (Below.refl w.heap.size w) _)
 ·simp at hx
theorem grs_l2 (w : World) (G H : Gr) (pv vv av bv qv uv cv dv : Value) (h : GrAt w pv vv av bv G) (h2 : GrAt w qv uv cv dv H) : GrsAt (w.alloc (.cells #[.string G.name, pv, .int .u8 G.result, vv, av, bv, .string H.name, qv, .int .u8 H.result, uv, cv, dv] 28)) (sl w.heap.size 2) [G, H] := by
 refine ⟨[(pv, vv, av, bv), (qv, uv, cv, dv)], rfl, row_lit (t := 28) 2 (heap_new w [.string G.name, pv, .int .u8 G.result, vv, av, bv, .string H.name, qv, .int .u8 H.result, uv, cv, dv] 28) (by omega), fun i x q hx hq => ?_⟩
 rcases i with _ | _ | i
 ·cases hx; cases hq; exact h.below (below_alloc (Below.refl w.heap.size w) _)
 ·cases hx; cases hq; exact h2.below (below_alloc (Below.refl w.heap.size w) _)
 ·simp at hx
def zeroG : Gr := ⟨⟨#[]⟩, [], 0, [], [], []⟩
theorem zero_at (W : World) : GrAt W (.slice none 0 0) (.slice none 0 0) (.slice none 0 0) (.slice none 0 0) zeroG := ⟨row_nil _ _, row_nil _ _, row_nil _ _, ⟨[], rfl, row_nil _ _, fun i x a hx _ => by simp [zeroG] at hx⟩⟩
/- a graph that is told by its memory stands wherever that memory does -/
theorem small_gn (w W : World) (hW : ∀ k, w.heap.size ≤ k → k < (allocs w (objs true w.heap.size)).heap.size → W.heap[k]? = (allocs w (objs true w.heap.size)).heap[k]?) : GrAt W (sl (w.heap.size + 1) 1) (sl (w.heap.size + 2) 3) (.slice none 0 0) (sl (w.heap.size + 9) 5) (smallG true) := by
 have hs : (allocs w (objs true w.heap.size)).heap.size = w.heap.size + 12 := by simp [allocs, objs]
 have g := fun k o (h : (objs true w.heap.size)[k]? = some o) => (hW (w.heap.size + k) (by omega) (by rw [hs]; have h9 : k < 12 := (List.getElem?_eq_some_iff.1 h).1; omega)).trans (allocs_get (objs true w.heap.size) w k o h)
 have i0 : InsAt W (sl (w.heap.size + 4) 2) [⟨2, 0, 2, [], 5, 0⟩, ⟨4, 13, 1, [0, 2], 0, 0⟩] := by
  refine ⟨by decide, [.slice none 0 0, sl (w.heap.size + 3) 2], rfl, row_lit (t := 41) 2 (g 4 _ rfl) (by omega), fun i x a hx ha => ?_⟩
  rcases i with _ | _ | i
  ·cases hx; cases ha; exact row_nil _ _
  ·cases hx; cases ha; exact row_lit (t := 3) 2 (g 3 _ rfl) (by omega)
  ·simp at hx
 have i1 : InsAt W (sl (w.heap.size + 6) 1) [⟨10, 0, 0, [0], 0, 0⟩] := by
  refine ⟨by decide, [sl (w.heap.size + 5) 1], rfl, row_lit (t := 41) 1 (g 6 _ rfl) (by omega), fun i x a hx ha => ?_⟩
  rcases i with _ | i
  ·cases hx; cases ha; exact row_lit (t := 3) 1 (g 5 _ rfl) (by omega)
  ·simp at hx
 have i2 : InsAt W (.slice none 0 0) [] := by
  exact ⟨by simp, [], rfl, row_nil _ _, fun i x a hx ha => by simp at hx⟩
 have i3 : InsAt W (sl (w.heap.size + 8) 1) [⟨1, 0, 2, [0, 2, 2], 0, 0⟩] := by
  refine ⟨by decide, [sl (w.heap.size + 11) 3], rfl, row_lit (t := 41) 1 (g 8 _ rfl) (by omega), fun i x a hx ha => ?_⟩
  rcases i with _ | i
  ·cases hx; cases ha; exact row_lit (t := 3) 3 (g 11 _ rfl) (by omega)
  ·simp at hx
 have i4 : InsAt W (.slice none 0 0) [] := by
  exact ⟨by simp, [], rfl, row_nil _ _, fun i x a hx ha => by simp at hx⟩
 refine ⟨row_lit (t := 3) 1 (g 1 _ rfl) (by omega), row_lit (t := 23) 3 (g 2 _ rfl) (by omega), row_nil _ _, ⟨[sl (w.heap.size + 4) 2, sl (w.heap.size + 6) 1, .slice none 0 0, sl (w.heap.size + 8) 1, .slice none 0 0], rfl, row_lit (t := 49) 5 (g 9 _ rfl) (by omega), fun i x a hx ha => ?_⟩⟩
 rcases i with _ | _ | _ | _ | _ | i
 ·cases hx; cases ha; exact i0
 ·cases hx; cases ha; exact i1
 ·cases hx; cases ha; exact i2
 ·cases hx; cases ha; exact i3
 ·cases hx; cases ha; exact i4
 ·simp [smallG] at hx
/- many graphs -/
theorem infoG : (Tryz.prog.info? 28).map (fun i => (i.zero, i.size, i.bytes)) = some (some (.agg #[.string ⟨#[]⟩, .slice none 0 0, .int .u8 0, .slice none 0 0, .slice none 0 0, .slice none 0 0]), 6, 120) := by kernel_rfl
abbrev zG6 : Array Value := #[.string ⟨#[]⟩, .slice none 0 0, .int .u8 0, .slice none 0 0, .slice none 0 0, .slice none 0 0]
theorem make_graphs (W : World) : (Instr.makeSlice 33 (.int .i64 65) (.int .i64 65)).run Tryz.prog W = .ok (.slice (some ⟨W.heap.size, 0, none⟩) 65 65) (W.alloc (.cells (madeCells zG6 390) 28)) := by
 obtain ⟨i, hi, hz, hs, hb⟩ := info_parts (P := Tryz.prog) infoG
 have hr := run_make (P := Tryz.prog) W 33 28 i _ Tryz.underlying33 hi hz .i64 .i64 65 65 (by omega) (Int.le_refl _) (by rw [hb]; omega) (by omega)
 rw [hs] at hr
 exact hr
abbrev nilQ : GV := (.slice none 0 0, .slice none 0 0, .slice none 0 0, .slice none 0 0)
def mixS (i : Nat) : List Gr := List.replicate i (smallG true) ++ List.replicate (65 - i) zeroG
theorem mixS_len {i : Nat} (h : i ≤ 65) : (mixS i).length = 65 := by unfold mixS; simp; omega
theorem mixS_set {i : Nat} (h : i < 65) : (mixS i).set i (smallG true) = mixS (i + 1) := by
 unfold mixS
 rw [List.set_append_right _ _ (by simp), List.length_replicate, Nat.sub_self]
 obtain ⟨m, hm⟩ : ∃ m, 65 - i = m + 1 := ⟨65 - i - 1, by omega⟩
 rw [hm, List.replicate_succ, List.set_cons_zero, show 65 - (i + 1) = m by omega, List.replicate_succ', List.append_assoc]
 rfl
theorem many_cells : (madeCells zG6 390).toList = grsCells (List.replicate 65 zeroG) (List.replicate 65 nilQ) := by kernel_rfl
theorem many_new (W : World) (base : Nat) (hb : base ≤ W.heap.size) : QG (W.alloc (.cells (madeCells zG6 390) 28)) base (.slice (some ⟨W.heap.size, 0, none⟩) 65 65) (mixS 0) (List.replicate 65 nilQ) := by
 refine ⟨?_, rfl, fun i G q h1 h2 => ?_⟩
 ·show World.ownsRow _ _ _ _ _ (mixS 0).length _
  rw [mixS_len (by omega)]
  have h9 := own_heap (W := W.alloc (.cells (madeCells zG6 390) 28)) (base := base) (g := W.heap.size) (n := 65) (sz := 6) (t := 28) (cs := (madeCells zG6 390).toList) (heap_alloc_new W _) hb (by rw [Array.length_toList, size_madeCells]) (by decide)
  rw [many_cells] at h9
  exact h9
 ·refine ⟨0, 0, Nat.zero_le _, fun g _ => .inr (Nat.zero_le _), fun W' _ => ?_⟩
  have e1 : G = zeroG := by
   have := List.mem_of_getElem? h1
   unfold mixS at this
   simp at this
   exact this
  have e2 : q = nilQ := List.eq_of_mem_replicate (List.mem_of_getElem? h2)
  subst e1 e2
  exact zero_at W'
theorem grs_pre {W : World} {g n c : Nat} {l : List Gr} (k : Nat) (h : GrsAt W (.slice (some ⟨g, 0, none⟩) n c) l) (hl : l.length = n) (hk : k ≤ n) : GrsAt W (.slice (some ⟨g, 0, none⟩) k c) (l.take k) := by
 obtain ⟨qs, h1, h2, h3⟩ := h.row
 obtain ⟨a, c', hv, ⟨hn1, hn2⟩, hc⟩ := h2
 injection hv with q1 q2 q3
 subst q1 q3
 refine ⟨qs.take k, by simp; omega, ⟨_, _, by rw [List.length_take]; congr 1; omega, ⟨by rw [List.length_take]; omega, by rw [List.length_take]; omega⟩, ?_⟩, fun i x q hx hq => ?_⟩
 ·rcases hc with h0 | ⟨g', o', e1, e2, e3⟩
  ·left; rw [List.length_take]; omega
  ·injection e1 with e1; injection e1 with e4 e5
   subst e4 e5
   refine .inr ⟨_, 0, rfl, e2, fun j u hj => e3 j u ?_⟩
   have hpre : ∀ (l : List Gr) (qs : List GV) (k : Nat), qs.length = l.length → grsCells l qs = grsCells (l.take k) (qs.take k) ++ grsCells (l.drop k) (qs.drop k) := by
    intro l
    induction l with
    | nil => intro qs k _; cases k <;> cases qs <;> simp [grsCells]
    | cons x l ih =>
     intro qs k hq
     cases qs with
     | nil => simp at hq
     | cons q qs =>
      cases k with
      | zero => simp [grsCells]
      | succ k =>
       have := ih qs k (by simpa using hq)
       show grL x q.1 q.2.1 q.2.2.1 q.2.2.2 ++ grsCells l qs = (grL x q.1 q.2.1 q.2.2.1 q.2.2.2 ++ grsCells (l.take k) (qs.take k)) ++ grsCells (l.drop k) (qs.drop k)
       rw [this, List.append_assoc]
   rw [hpre l qs k h1, List.getElem?_append_left (List.getElem?_eq_some_iff.1 hj).1]
   exact hj
 ·have hi : i < k := by have := (List.getElem?_eq_some_iff.1 hx).1; rw [List.length_take] at this; omega
  rw [List.getElem?_take, if_pos hi] at hx hq
  exact h3 i x q hx hq
set_option maxRecDepth 100000 in
set_option maxHeartbeats 2000000 in
theorem args_any (G : Gr) (pv vv av bv : Value) (k : Nat) (w : World) (h : GrAt w pv vv av bv G) (hk : k < G.blocks.length) (hl : 0 < (G.blocks.getD k default).ins.length) :
  Calls Tryz.prog 11 #[.agg #[.string G.name, pv, .int .u8 G.result, vv, av, bv], .int .i64 (k : Int)] w fun e w' => ∃ v, e = .returned v ∧ IntsAt w' v ((G.blocks.getD k default).ins.getD 0 default).args ∧ Below w.heap.size w w' := by
 obtain ⟨pa, pc, va, vc, aa, ac, ba, bc, rfl, rfl, rfl, rfl, _, _, _, hbl⟩ := h.openF
 obtain ⟨g, o, iv, rfl, hg, c0, c1, c2, c3, c4, c5, hins⟩ := h.bs.get (i := k) hk
 obtain ⟨ia, ic, rfl, hil⟩ := hins.form
 obtain ⟨g2, o2, xv, rfl, hg2, d0, d1, d2, d3, d4, d5, hxa⟩ := hins.get (i := 0) hl
 obtain ⟨xa, xc, rfl, _⟩ := hxa.form
 have HX : Hid _ := hxa
 obtain ⟨nm, ps, r, vs, ars, bs⟩ := G
 dsimp only at *
 clear h hins hxa c1 c2 c3 c4 c5 d0 d1 d2 d4 d5
 have hk' : (k : Int) < bs.length := by omega
 have hl' : (0 : Int) < (bs.getD k default).ins.length := by omega
 generalize (bs.getD k default).ins.length = il at *
 generalize ((bs.getD k default).ins.getD 0 default).args = AR at *
 generalize bs.length = n at *
 generalize ps.length = pl at *
 generalize vs.length = vl at *
 generalize ars.length = al at *
 have hb := below_alloc (Below.refl w.heap.size w) (.cells #[.string nm, .slice pa pl pc, .int .u8 r, .slice va vl vc, .slice aa al ac, .slice (some ⟨g, o, none⟩) n bc] 28)
 have HB : Hid _ := hb
 have hcl : ∀ q, q < w.heap.size → ∀ j, (w.alloc (.cells #[.string nm, .slice pa pl pc, .int .u8 r, .slice va vl vc, .slice aa al ac, .slice (some ⟨g, o, none⟩) n bc] 28)).cell? ⟨q, j, none⟩ = w.cell? ⟨q, j, none⟩ := fun q hq j => hb.cell (p := ⟨q, j, none⟩) hq
 rw [← hcl g hg] at c0
 rw [Nat.zero_mul, Nat.add_zero] at d3
 rw [← hcl g2 hg2] at d3
 have hd : decide (n ≤ k) = false := decide_eq_false (by omega)
 have hz : ((il : Int) == 0) = false := beq_false_of_ne (by omega)
 clear hcl hb
 go_enter Tryz.func11, Tryz.ntmps11
 go_wp2
 go_ret
 exact ⟨_, rfl, HX.out.below HB.out, HB.out⟩
theorem chk_65 : checkT (mixS 65) = (3, 0) := by decide +kernel
theorem chk_64 : checkT ((mixS 65).take 64) = (0, 0) ∧ ∀ G ∈ (mixS 65).take 64, G.blocks.length ≤ 100000 := by decide +kernel
theorem chk_call : checkT [bentG18, smallG true] = (0, 0) := by decide +kernel
theorem chk_zero : checkT [zeroG] = (4, 0) := by decide +kernel
theorem trim_small : (trimG (smallG true)).blocks.length = 4 ∧ (((trimG (smallG true)).blocks.getD 3 default).ins.getD 0 default).args = [0, 2] ∧ 0 < ((trimG (smallG true)).blocks.getD 3 default).ins.length := by decide +kernel
def lateG : Gr := ⟨⟨#[]⟩, [], 0, [], [], [⟨[], ⟨2, 0, 2, 3, 0⟩⟩, ⟨[], ⟨1, 0, 4, 0, 0⟩⟩, ⟨[], ⟨1, 0, 4, 0, 0⟩⟩, ⟨[], ⟨1, 0, 4, 0, 0⟩⟩, ⟨[⟨1, 0, 0, [7, 8, 9], 0, 0⟩], ⟨0, 0, 0, 0, 0⟩⟩]⟩
theorem trim_late : (trimG lateG).blocks.length = 4 ∧ (((trimG lateG).blocks.getD 3 default).ins.getD 0 default).args = [9, 8] ∧ 0 < ((trimG lateG).blocks.getD 3 default).ins.length := by decide +kernel
def oddG : Gr := ⟨⟨#[]⟩, [], 0, [], [], [⟨[], ⟨2, 0, -1, 4611686018427387904, 0⟩⟩, ⟨[], ⟨9, 0, 1, 0, 0⟩⟩]⟩
end Go.Proofs.YtobnpllppohofaaGreatDoor
