/- An instruction has the parts of its kind, and nothing else. -/
import Derived.Test.YtobnpllppohofaaGreatDoorGChk4M
import Derived.Test.YtobnpllppohofaaGreatDoorTie
import Derived.ProofKit
import Derived.OpenShut
import Derived.LaidMore
import Derived.Lay
import Derived.Test.YtobnpllppohofaaGreatDoorGBoxM
import Derived.Laws.Rows
namespace Go.Proofs.YtobnpllppohofaaGreatDoor
open Go.RowKit

/-- What an instruction of a kind has. -/
structure Has where
 op : Bool
 dst : Bool
 bits : Bool
 ref : Bool
 least : Int
 most : Int
def hasL : List Has := [⟨false, false, false, false, 0, 0⟩, ⟨false, true, false, false, 0, 9223372036854775807⟩, ⟨false, true, true, false, 0, 0⟩, ⟨false, true, false, false, 1, 1⟩, ⟨true, true, false, false, 1, 2⟩, ⟨false, true, false, false, 1, 1⟩, ⟨false, true, false, true, 1, 1⟩, ⟨false, false, false, true, 2, 2⟩, ⟨false, false, false, true, 0, 0⟩, ⟨false, true, false, true, 0, 9223372036854775807⟩, ⟨false, false, false, false, 1, 1⟩]
/-- The table, where the program lays it. -/
def PartsAt (w : World) : Prop := 0 < w.heap.size ∧ ∀ (k : Nat) (h : Has), hasL[k]? = some h → w.cell? ⟨0, k * 6, none⟩ = some (.bool h.op) ∧ w.cell? ⟨0, k * 6 + 1, none⟩ = some (.bool h.dst) ∧ w.cell? ⟨0, k * 6 + 2, none⟩ = some (.bool h.bits) ∧ w.cell? ⟨0, k * 6 + 3, none⟩ = some (.bool h.ref) ∧ w.cell? ⟨0, k * 6 + 4, none⟩ = some (.int .i64 h.least) ∧ w.cell? ⟨0, k * 6 + 5, none⟩ = some (.int .i64 h.most)
theorem PartsAt.below {w w' : World} (h : PartsAt w) (hb : Below w.heap.size w w') : PartsAt w' := by
 refine ⟨Nat.lt_of_lt_of_le h.1 hb.size, fun k x hk => ?_⟩
 have hc : ∀ j, w'.cell? ⟨0, j, none⟩ = w.cell? ⟨0, j, none⟩ := fun j => hb.cell (p := ⟨0, j, none⟩) h.1
 rw [hc, hc, hc, hc, hc, hc]
 exact h.2 k x hk
def hasB (h : Has) (n : Nat) (x : In) : Bool := (h.op || x.op == 0) && (h.bits || x.bits == 0) && (h.ref || x.ref == 0) && (if h.dst then inB x.dst n else x.dst == 0) && (x.args.all (inB · n) && (decide (h.least ≤ (x.args.length : Int)) && decide ((x.args.length : Int) ≤ h.most)))
def partsB (n : Nat) (x : In) : Bool := decide (1 ≤ x.kind) && decide (x.kind ≤ 10) && hasB (hasL.getD x.kind.toNat ⟨false, false, false, false, 0, 0⟩) n x
abbrev inV (x : In) (av : Value) : Value := .agg #[.int .u8 x.kind, .int .u8 x.op, .int .i64 x.dst, av, .int .u64 x.bits, .int .i64 x.ref]
end Go.Proofs.YtobnpllppohofaaGreatDoor
/- What the listed variable gives: the table's cells. -/
namespace Go.Proofs.YtobnpllppohofaaGreatDoor
open Go.ChangeShapes Go.WideShapes Go.ChangeAt Go.RowKit

theorem laid_at {P : Program} {w : World} : ∀ {laid : List (String × DataW Unit)} {ps : List MemPlace}, DataW.LaidVars P w laid ps → ∀ {n : String} {d : DataW Unit}, (n, d) ∈ laid → ∃ g t cs fuel p, P.globalNamed n = some g ∧ (P.globals[g]?).map (·.type) = some t ∧ w.var? P n = some cs ∧ DataW.trod (fun _ => ()) P w 0 (fun _ => true) false fuel t cs.toList = some (d, p)
 | (n0, d0) :: r, ps, h, n, d, hm => by
  obtain ⟨g, t, cs, fuel, p, q, h1, h2, h3, h4, h5, _⟩ := h
  rcases List.mem_cons.1 hm with he | hm
  ·cases he
   exact ⟨g, t, cs, fuel, p, h1, h2, h3, h4⟩
  ·exact laid_at h5 hm
 | [], _, _, _, _, hm => by cases hm
theorem parts_data : (Rows.laid_smithy_graph_partsOf : DataW Unit) = .agg (hasL.map fun h => .agg [.lit (.bool h.op), .lit (.bool h.dst), .lit (.bool h.bits), .lit (.bool h.ref), .lit (.int .i64 h.least), .lit (.int .i64 h.most)]) := by rfl
theorem take_one {l : List Value} {j : Nat} {v : Value} (h : (l.drop j).take 1 = [v]) : l[j]? = some v := by
 have h0 : ((l.drop j).take 1)[0]? = some v := by rw [h]; rfl
 simpa using h0
theorem chunk_at {l : List Value} {a n j : Nat} {v : Value} (hj : j < n) (h : ((l.drop a).take n)[j]? = some v) : l[a + j]? = some v := by
 rw [List.getElem?_take, if_pos hj, List.getElem?_drop] at h
 exact h
theorem c3 : Tryz.prog.cellsOf 3 = 1 := by kernel_rfl
theorem c4b : Tryz.prog.cellsOf 4 = 1 := by kernel_rfl
theorem cell_of {W : World} {g : Nat} {cs : Array Value} (hcell : ∀ j, W.cell? ⟨g, j, none⟩ = cs[j]?) {a n j c : Nat} {v : Value} (hj : j < n) (hc : c = 1) (h : (((cs.toList.drop a).take n).drop j).take c = [v]) : W.cell? ⟨g, a + j, none⟩ = some v := by
 subst hc
 rw [hcell]
 have := chunk_at hj (take_one h)
 simpa using this
theorem parts_of {W : World} (h : laidMet Tryz.prog [("smithy/graph.partsOf", Rows.laid_smithy_graph_partsOf)] W) : PartsAt W := by
 obtain ⟨ps, h, _, _⟩ := h
 obtain ⟨g, t, cs, fuel, p, hg, ht, hv, hd⟩ := laid_at h (n := "smithy/graph.partsOf") (d := Rows.laid_smithy_graph_partsOf) (by simp)
 obtain rfl := Option.some.inj ((show Tryz.prog.globalNamed "smithy/graph.partsOf" = some 0 by kernel_rfl).symm.trans hg)
 obtain rfl := Option.some.inj ((show (Tryz.prog.globals[0]?).map (·.type) = some 90 by kernel_rfl).symm.trans ht)
 have hcell := fun j => World.var?_cell hg hv j
 rw [parts_data] at hd
 obtain ⟨xs, m, _, ex, _, hl, hel⟩ := DataW.trod_array (show Tryz.prog.underlying 90 = some (.array 11 89) by kernel_rfl) hd
 have e3 := (DataW.agg.inj (Prod.mk.inj ex).1).symm
 have c6 : Tryz.prog.cellsOf 89 = 6 := by kernel_rfl
 have main : ∀ (i : Nat) (o : Has), hasL[i]? = some o → W.cell? ⟨0, i * 6, none⟩ = some (.bool o.op) ∧ W.cell? ⟨0, i * 6 + 1, none⟩ = some (.bool o.dst) ∧ W.cell? ⟨0, i * 6 + 2, none⟩ = some (.bool o.bits) ∧ W.cell? ⟨0, i * 6 + 3, none⟩ = some (.bool o.ref) ∧ W.cell? ⟨0, i * 6 + 4, none⟩ = some (.int .i64 o.least) ∧ W.cell? ⟨0, i * 6 + 5, none⟩ = some (.int .i64 o.most) := by
  intro i o hi
  have h11 : i < 11 := by have := (List.getElem?_eq_some_iff.1 hi).1; simpa [hasL] using this
  have hE := hel i h11
  rw [c6, List.getElem?_eq_getElem (by omega)] at hE
  obtain ⟨ys, m2, _, ey, _, hl2, hel2⟩ := DataW.trod_struct Tryz.underlying89 hE
  have e4 : (xs.map (·.1))[i]? = some (.agg [.lit (.bool o.op), .lit (.bool o.dst), .lit (.bool o.bits), .lit (.bool o.ref), .lit (.int .i64 o.least), .lit (.int .i64 o.most)]) := by rw [e3, List.getElem?_map, hi]; rfl
  rw [List.getElem?_map, List.getElem?_eq_getElem (by omega : i < xs.length), ey] at e4
  have e5 := DataW.agg.inj (Option.some.inj e4)
  match ys, hl2, e5, hel2 with
  | [y0, y1, y2, y3, y4, y5], _, e5, hel2 =>
   simp only [List.map_cons, List.map_nil, List.cons.injEq, and_true] at e5
   obtain ⟨n0, s1, s2⟩ := DataW.trod_bool Tryz.underlying4 (hel2 0 _ rfl)
   obtain ⟨n1, a1, a2⟩ := DataW.trod_bool Tryz.underlying4 (hel2 1 _ rfl)
   obtain ⟨n2, b1, b2⟩ := DataW.trod_bool Tryz.underlying4 (hel2 2 _ rfl)
   obtain ⟨n3, d1, d2⟩ := DataW.trod_bool Tryz.underlying4 (hel2 3 _ rfl)
   obtain ⟨n4, f1, f2, _⟩ := DataW.trod_int Tryz.underlying3 (hel2 4 _ rfl)
   obtain ⟨n5, g1, g2, _⟩ := DataW.trod_int Tryz.underlying3 (hel2 5 _ rfl)
   have q0 := cell_of hcell (by omega : 0 < 6) c4b s1
   have q1 := cell_of hcell (by omega : 1 < 6) c4b a1
   have q2 := cell_of hcell (by omega : 2 < 6) c4b b1
   have q3 := cell_of hcell (by omega : 3 < 6) c4b d1
   have q4 := cell_of hcell (by omega : 4 < 6) c3 f1
   have q5 := cell_of hcell (by omega : 5 < 6) c3 g1
   rw [s2, a2, b2, d2, f2, g2] at e5
   simp only [DataW.lit.injEq, Lit.bool.injEq, Lit.int.injEq, true_and] at e5
   obtain ⟨r0, r1, r2, r3, r4, r5⟩ := e5
   refine ⟨?_, ?_, ?_, ?_, ?_, ?_⟩
   ·rw [← r0]; exact q0
   ·rw [← r1]; exact q1
   ·rw [← r2]; exact q2
   ·rw [← r3]; exact q3
   ·rw [← r4]; exact q4
   ·rw [← r5]; exact q5
 refine ⟨?_, main⟩
 have h1 := (main 0 _ rfl).1
 rcases Nat.eq_zero_or_pos W.heap.size with h0 | h0
 ·simp [World.cell?, Array.getElem?_eq_none (show W.heap.size ≤ 0 by omega)] at h1
 ·exact h0
end Go.Proofs.YtobnpllppohofaaGreatDoor
/- The law's own: is a graph great? -/
namespace Go.Proofs.YtobnpllppohofaaGreatDoor
open Go.RowKit

set_option maxRecDepth 100000 in
set_option maxHeartbeats 2000000 in
theorem great_any (G : Gr) (pv vv av bv : Value) (w : World) (h : GrAt w pv vv av bv G) :
  Calls Tryz.prog 18 #[.agg #[.string G.name, pv, .int .u8 G.result, vv, av, bv]] w fun e w' => ∃ b, e = .returned (.bool b) ∧ Hid (b = false → G.blocks.length ≤ 400) ∧ Below w.heap.size w w' := by
 obtain ⟨pa, pc, va, vc, aa, ac, ba, bc, rfl, rfl, rfl, rfl, _, _, _, hbl⟩ := h.openF
 have HB : Hid (∀ i, i < G.blocks.length → _) := fun i hi => h.bs.get (i := i) hi
 obtain ⟨nm, ps, r, vs, ars, bs⟩ := G
 dsimp only at HB hbl ⊢
 clear h
 generalize bs.length = n at *
 generalize ps.length = pl at *
 generalize vs.length = m at *
 generalize ars.length = al at *
 have H0 : Hid (Below w.heap.size w (w.alloc (.cells #[.string nm, .slice pa pl pc, .int .u8 r, .slice va m vc, .slice aa al ac, .slice ba n bc] 28)) ∧ Box (w.alloc (.cells #[.string nm, .slice pa pl pc, .int .u8 r, .slice va m vc, .slice aa al ac, .slice ba n bc] 28)) w.heap.size [.string nm, .slice pa pl pc, .int .u8 r, .slice va m vc, .slice aa al ac, .slice ba n bc]) := ⟨below_alloc (Below.refl _ _) _, Box.new w [.string nm, .slice pa pl pc, .int .u8 r, .slice va m vc, .slice aa al ac, .slice ba n bc] 28⟩
 obtain ⟨C, hCt, hCf, hCn⟩ : ∃ C : Bool → Prop, C true ∧ (n ≤ 400 → C false) ∧ (∀ b, C b → Hid (b = false → n ≤ 400)) := ⟨fun b => b = false → n ≤ 400, (fun h => nomatch h), (fun h _ => h), (fun b h => h)⟩
 have HCT : Hid (C true) := hCt
 have HCF : Hid (n ≤ 400 → C false) := hCf
 refine Calls.mono (R := fun e w' => ∃ b, e = .returned (.bool b) ∧ C b ∧ Below w.heap.size w w') ?_ (fun e w' ⟨b, he, hc, hb⟩ => ⟨b, he, hCn b hc, hb⟩)
 clear hCt hCf hCn
 by_cases h1 : 400 < n
 ·have h1' : (400 : Int) < n := by omega
  go_enter Tryz.func18, Tryz.ntmps18
  go_wp2
  go_ret
  first | exact ⟨true, rfl, HCT.out, H0.out.1⟩ | exact Or.inr ⟨rfl, HCT.out, H0.out.1⟩
 have h1' : ¬ (400 : Int) < n := by omega
 by_cases h2 : 2000 < m
 ·have h2' : (2000 : Int) < m := by omega
  go_enter Tryz.func18, Tryz.ntmps18
  go_wp2
  go_ret
  first | exact ⟨true, rfl, HCT.out, H0.out.1⟩ | exact Or.inr ⟨rfl, HCT.out, H0.out.1⟩
 have h2' : ¬ (2000 : Int) < m := by omega
 by_cases h3 : 2000 < al
 ·have h3' : (2000 : Int) < al := by omega
  go_enter Tryz.func18, Tryz.ntmps18
  go_wp2
  go_ret
  first | exact ⟨true, rfl, HCT.out, H0.out.1⟩ | exact Or.inr ⟨rfl, HCT.out, H0.out.1⟩
 have h3' : ¬ (2000 : Int) < al := by omega
 by_cases h4 : 2000 < pl
 ·have h4' : (2000 : Int) < pl := by omega
  go_enter Tryz.func18, Tryz.ntmps18
  go_wp2
  go_ret
  first | exact ⟨true, rfl, HCT.out, H0.out.1⟩ | exact Or.inr ⟨rfl, HCT.out, H0.out.1⟩
 have h4' : ¬ (2000 : Int) < pl := by omega
 have HN : Hid (n ≤ 400) := by show n ≤ 400; omega
 go_enter Tryz.func18, Tryz.ntmps18
 go_wp2
 clear h1 h2 h3 h4 h1' h2' h3' h4'
 go_loopw [3, 4] (fun vn vi wr => ∃ (x : Int) (i : Nat), vn = .int .i64 x ∧ vi = .int .i64 i ∧ i ≤ n ∧ Hid (Below w.heap.size w wr ∧ Box wr w.heap.size [.string nm, .slice pa pl pc, .int .u8 r, .slice va m vc, .slice aa al ac, .slice ba n bc])) (fun _ vi _ => n - (intOf vi).toNat)
 case atStart => exact ⟨0, 0, rfl, rfl, by omega, H0.out⟩
 case round =>
  obtain ⟨x, i, rfl, rfl, hi, hr⟩ := hrel
  clear H0
  obtain ⟨e0, e1, e2, e3, e4, e5⟩ := box6 hr.out.2
  have hwl := hr.out.2.lt
  by_cases hin : i < n
  ·obtain ⟨g, o, iv, rfl, hg, c0, c1, c2, c3, c4, c5, hins⟩ := HB.out i hin
   obtain ⟨ia, ic, rfl, _⟩ := hins.form
   have hin' : (i : Int) < n := by omega
   generalize (bs.getD i default).ins = L at *
   have HI : Hid (∀ k, k < L.length → _) := fun k hk => hins.get (i := k) hk
   have HC0 : Hid _ := c0
   have HG : Hid (g < w.heap.size) := hg
   have c0' : wr.cell? ⟨g, o + i * 6, none⟩ = some (.slice ia L.length ic) := (hr.out.1.cell (p := ⟨g, o + i * 6, none⟩) hg).trans c0
   clear HB c0 c1 c2 c3 c4 c5 hins hg
   generalize wr = wo at *
   go_wp2
   go_loopw [3, 5] (fun vn vk wr => ∃ (x : Int) (k : Nat), vn = .int .i64 x ∧ vk = .int .i64 k ∧ k ≤ L.length ∧ Hid (Below w.heap.size w wr ∧ Box wr w.heap.size [.string nm, .slice pa pl pc, .int .u8 r, .slice va m vc, .slice aa al ac, .slice (some ⟨g, o, none⟩) n bc])) (fun _ vk _ => L.length - (intOf vk).toNat)
   case atStart => exact ⟨_, 0, rfl, rfl, by omega, hr.out⟩
   case round =>
    obtain ⟨y, k, rfl, rfl, hk, hq⟩ := hrel
    clear e0 e1 e2 e3 e4 e5 c0'
    obtain ⟨e0, e1, e2, e3, e4, e5⟩ := box6 hq.out.2
    have hwl2 := hq.out.2.lt
    have c0' : wr.cell? ⟨g, o + i * 6, none⟩ = some (.slice ia L.length ic) := (hq.out.1.cell (p := ⟨g, o + i * 6, none⟩) HG.out).trans HC0.out
    by_cases hkn : k < L.length
    ·have hkn' : (k : Int) < L.length := by omega
     obtain ⟨gi, oi, xv, rfl, hgi, d0, d1, d2, d3, d4, d5, hxa⟩ := HI.out k hkn
     obtain ⟨xa, xc, rfl, _⟩ := hxa.form
     have d3' := (hq.out.1.cell (p := ⟨gi, oi + k * 6 + 3, none⟩) hgi).trans d3
     generalize (L.getD k default).args.length = xn at *
     clear d0 d1 d2 d3 d4 d5 hxa HI hgi
     by_cases hy : y ≤ 2000
     ·go_wp2
      go_roundw
      case rel => exact ⟨_, k + 1, rfl, by first | rfl | (congr 1; omega), by omega, hq.out⟩
      case measure => simp [intOf]; omega
     ·have hy' : 2000 < y := by omega
      go_wp2
      go_ret
      first | exact ⟨true, rfl, HCT.out, hq.out.1⟩ | exact Or.inr ⟨rfl, HCT.out, hq.out.1⟩
    ·obtain rfl : k = L.length := by omega
     clear HI
     by_cases hy : 2000 < y
     ·go_wp2
      go_ret
      first | exact ⟨true, rfl, HCT.out, hq.out.1⟩ | exact Or.inr ⟨rfl, HCT.out, hq.out.1⟩
     ·go_wp2
      go_roundw
      case rel => exact ⟨y, i + 1, rfl, by first | rfl | (congr 1; omega), by omega, hq.out⟩
      case measure => simp [intOf]; omega
  ·obtain rfl : i = n := by omega
   clear HB
   go_wp2
   go_ret
   first | exact ⟨false, rfl, HCF.out HN.out, hr.out.1⟩ | exact Or.inl ⟨rfl, HCF.out HN.out, hr.out.1⟩
end Go.Proofs.YtobnpllppohofaaGreatDoor
/- The chapter's graph. -/
namespace Go.Proofs.YtobnpllppohofaaGreatDoor
open Go.RowKit

def allocs (w : World) (os : List Obj) : World := os.foldl World.alloc w
theorem allocs_below : ∀ (os : List Obj) (w : World), Below w.heap.size w (allocs w os)
 | [], _ => Below.refl _ _
 | o :: os, w => below_trans (below_alloc (Below.refl _ _) o) (allocs_below os (w.alloc o))
theorem allocs_get : ∀ (os : List Obj) (w : World) (k : Nat) (o : Obj), os[k]? = some o → (allocs w os).heap[w.heap.size + k]? = some o
 | o' :: os, w, 0, o, h => by
  cases h
  have h1 := (allocs_below os (w.alloc o')).block w.heap.size (by simp)
  exact h1.trans (heap_alloc_new w o')
 | o' :: os, w, k + 1, o, h => by
  have h1 := allocs_get os (w.alloc o') k o (by simpa using h)
  rw [show (w.alloc o').heap.size = w.heap.size + 1 by simp, show w.heap.size + 1 + k = w.heap.size + (k + 1) by omega] at h1
  exact h1
theorem row_lit {W : World} {g : Nat} {cs : List Value} {t : TypeId} (n : Nat) (h : W.heap[g]? = some (.cells cs.toArray t)) (hn : n ≤ 1000) : RowAt W (.slice (some ⟨g, 0, none⟩) n n) n cs := by
 refine ⟨_, _, rfl, ⟨Nat.le_refl _, by omega⟩, .inr ⟨g, 0, rfl, (Array.getElem?_eq_some_iff.1 h).1, fun j u hj => ?_⟩⟩
 simp only [World.cell?, h]
 simpa using hj
theorem row_nil (W : World) (cs : List Value) : RowAt W (.slice none 0 0) 0 cs := ⟨_, _, rfl, ⟨Nat.le_refl _, by omega⟩, .inl rfl⟩
abbrev sl (g n : Nat) : Value := .slice (some ⟨g, 0, none⟩) n n
abbrev u64V (k : Int) : Value := .int .u64 k
def insA : List In := [⟨2, 0, 2, [], 5, 0⟩, ⟨4, 13, 1, [0, 2], 0, 0⟩]
def insB : List In := [⟨10, 0, 0, [0], 0, 0⟩]
def insC (more : Bool) : List In := [⟨1, 0, 2, if more then [0, 2, 2] else [0, 2], 0, 0⟩]
def smallG (more : Bool) : Gr := ⟨⟨#[103]⟩, [0], 4, [4, 1, 4], [], [⟨insA, ⟨2, 1, 2, 1, 0⟩⟩, ⟨insB, ⟨1, 0, 3, 0, 0⟩⟩, ⟨[], ⟨1, 0, 3, 0, 0⟩⟩, ⟨insC more, ⟨3, 2, 0, 0, 0⟩⟩, ⟨[], ⟨1, 0, 3, 0, 0⟩⟩]⟩
def objs (more : Bool) (N : Nat) : List Obj := [
 .cells #[.string ⟨#[103]⟩, sl (N + 1) 1, bytV 4, sl (N + 2) 3, .slice none 0 0, sl (N + 9) 5] 28,
 .cells #[intV 0] 3,
 .cells #[bytV 4, bytV 1, bytV 4] 23,
 .cells #[intV 0, intV 2] 3,
 .cells #[bytV 2, bytV 0, intV 2, .slice none 0 0, u64V 5, intV 0, bytV 4, bytV 13, intV 1, sl (N + 3) 2, u64V 0, intV 0] 41,
 .cells #[intV 0] 3,
 .cells #[bytV 10, bytV 0, intV 0, sl (N + 5) 1, u64V 0, intV 0] 41,
 .cells #[intV 0, intV 2] 3,
 .cells #[bytV 1, bytV 0, intV 2, if more then sl (N + 11) 3 else sl (N + 7) 2, u64V 0, intV 0] 41,
 .cells #[sl (N + 4) 2, bytV 2, intV 1, intV 2, intV 1, bytV 0, sl (N + 6) 1, bytV 1, intV 0, intV 3, intV 0, bytV 0, .slice none 0 0, bytV 1, intV 0, intV 3, intV 0, bytV 0, sl (N + 8) 1, bytV 3, intV 2, intV 0, intV 0, bytV 0, .slice none 0 0, bytV 1, intV 0, intV 3, intV 0, bytV 0] 49,
 .cells #[.string ⟨#[103]⟩, sl (N + 1) 1, bytV 4, sl (N + 2) 3, .slice none 0 0, sl (N + 9) 5] 28] ++ (if more then [.cells #[intV 0, intV 2, intV 2] 3] else [])
theorem small_at_f (w : World) : GrAt (allocs w (objs false w.heap.size)) (sl (w.heap.size + 1) 1) (sl (w.heap.size + 2) 3) (.slice none 0 0) (sl (w.heap.size + 9) 5) (smallG false) := by
 have g := fun k o (h : (objs false w.heap.size)[k]? = some o) => allocs_get (objs false w.heap.size) w k o h
 have i0 : InsAt (allocs w (objs false w.heap.size)) (sl (w.heap.size + 4) 2) insA := by
  refine ⟨by decide, [.slice none 0 0, sl (w.heap.size + 3) 2], rfl, row_lit (t := 41) 2 (g 4 _ rfl) (by omega), fun i x a hx ha => ?_⟩
  rcases i with _ | _ | i
  ·cases hx; cases ha; exact row_nil _ _
  ·cases hx; cases ha; exact row_lit (t := 3) 2 (g 3 _ rfl) (by omega)
  ·simp [insA] at hx
 have i1 : InsAt (allocs w (objs false w.heap.size)) (sl (w.heap.size + 6) 1) insB := by
  refine ⟨by decide, [sl (w.heap.size + 5) 1], rfl, row_lit (t := 41) 1 (g 6 _ rfl) (by omega), fun i x a hx ha => ?_⟩
  rcases i with _ | i
  ·cases hx; cases ha; exact row_lit (t := 3) 1 (g 5 _ rfl) (by omega)
  ·simp [insB] at hx
 have i2 : InsAt (allocs w (objs false w.heap.size)) (.slice none 0 0) [] := ⟨by simp, [], rfl, row_nil _ _, fun i x a hx ha => by simp at hx⟩
 have i3 : InsAt (allocs w (objs false w.heap.size)) (sl (w.heap.size + 8) 1) (insC false) := by
  refine ⟨by decide, [sl (w.heap.size + 7) 2], rfl, row_lit (t := 41) 1 (g 8 _ rfl) (by omega), fun i x a hx ha => ?_⟩
  rcases i with _ | i
  ·cases hx; cases ha; exact row_lit (t := 3) 2 (g 7 _ rfl) (by omega)
  ·simp [insC] at hx
 refine ⟨row_lit (t := 3) 1 (g 1 _ rfl) (by omega), row_lit (t := 23) 3 (g 2 _ rfl) (by omega), row_nil _ _, ⟨[sl (w.heap.size + 4) 2, sl (w.heap.size + 6) 1, .slice none 0 0, sl (w.heap.size + 8) 1, .slice none 0 0], rfl, row_lit (t := 49) 5 (g 9 _ rfl) (by omega), fun i x a hx ha => ?_⟩⟩
 rcases i with _ | _ | _ | _ | _ | i
 ·cases hx; cases ha; exact i0
 ·cases hx; cases ha; exact i1
 ·cases hx; cases ha; exact i2
 ·cases hx; cases ha; exact i3
 ·cases hx; cases ha; exact i2
 ·simp [smallG] at hx
set_option maxRecDepth 100000 in
set_option maxHeartbeats 4000000 in
theorem small_f (w : World) : Calls Tryz.prog 7 #[.bool false] w fun e w' => e = .returned (.agg #[.string ⟨#[103]⟩, sl (w.heap.size + 1) 1, .int .u8 4, sl (w.heap.size + 2) 3, .slice none 0 0, sl (w.heap.size + 9) 5]) ∧ GrAt w' (sl (w.heap.size + 1) 1) (sl (w.heap.size + 2) 3) (.slice none 0 0) (sl (w.heap.size + 9) 5) (smallG false) ∧ Below w.heap.size w w' := by
 go_enter Tryz.func7, Tryz.ntmps7
 go_wp2
 change bodyPost _ _ _ _ _ (allocs w (objs false w.heap.size))
 exact bodyPost_ret (results_cell_row rfl _ _ w.heap.size 28 #[.string ⟨#[103]⟩, sl (w.heap.size + 1) 1, bytV 4, sl (w.heap.size + 2) 3, .slice none 0 0, sl (w.heap.size + 9) 5] _ _ rfl (allocs_get (objs false w.heap.size) w 0 _ rfl) Tryz.underlying28 rfl (by rfl)) rfl ⟨rfl, small_at_f w, allocs_below _ _⟩
theorem small_at_t (w : World) : GrAt (allocs w (objs true w.heap.size)) (sl (w.heap.size + 1) 1) (sl (w.heap.size + 2) 3) (.slice none 0 0) (sl (w.heap.size + 9) 5) (smallG true) := by
 have g := fun k o (h : (objs true w.heap.size)[k]? = some o) => allocs_get (objs true w.heap.size) w k o h
 have i0 : InsAt (allocs w (objs true w.heap.size)) (sl (w.heap.size + 4) 2) insA := by
  refine ⟨by decide, [.slice none 0 0, sl (w.heap.size + 3) 2], rfl, row_lit (t := 41) 2 (g 4 _ rfl) (by omega), fun i x a hx ha => ?_⟩
  rcases i with _ | _ | i
  ·cases hx; cases ha; exact row_nil _ _
  ·cases hx; cases ha; exact row_lit (t := 3) 2 (g 3 _ rfl) (by omega)
  ·simp [insA] at hx
 have i1 : InsAt (allocs w (objs true w.heap.size)) (sl (w.heap.size + 6) 1) insB := by
  refine ⟨by decide, [sl (w.heap.size + 5) 1], rfl, row_lit (t := 41) 1 (g 6 _ rfl) (by omega), fun i x a hx ha => ?_⟩
  rcases i with _ | i
  ·cases hx; cases ha; exact row_lit (t := 3) 1 (g 5 _ rfl) (by omega)
  ·simp [insB] at hx
 have i2 : InsAt (allocs w (objs true w.heap.size)) (.slice none 0 0) [] := ⟨by simp, [], rfl, row_nil _ _, fun i x a hx ha => by simp at hx⟩
 have i3 : InsAt (allocs w (objs true w.heap.size)) (sl (w.heap.size + 8) 1) (insC true) := by
  refine ⟨by decide, [sl (w.heap.size + 11) 3], rfl, row_lit (t := 41) 1 (g 8 _ rfl) (by omega), fun i x a hx ha => ?_⟩
  rcases i with _ | i
  ·cases hx; cases ha; exact row_lit (t := 3) 3 (g 11 _ rfl) (by omega)
  ·simp [insC] at hx
 refine ⟨row_lit (t := 3) 1 (g 1 _ rfl) (by omega), row_lit (t := 23) 3 (g 2 _ rfl) (by omega), row_nil _ _, ⟨[sl (w.heap.size + 4) 2, sl (w.heap.size + 6) 1, .slice none 0 0, sl (w.heap.size + 8) 1, .slice none 0 0], rfl, row_lit (t := 49) 5 (g 9 _ rfl) (by omega), fun i x a hx ha => ?_⟩⟩
 rcases i with _ | _ | _ | _ | _ | i
 ·cases hx; cases ha; exact i0
 ·cases hx; cases ha; exact i1
 ·cases hx; cases ha; exact i2
 ·cases hx; cases ha; exact i3
 ·cases hx; cases ha; exact i2
 ·simp [smallG] at hx
set_option maxRecDepth 100000 in
set_option maxHeartbeats 4000000 in
theorem small_t (w : World) : Calls Tryz.prog 7 #[.bool true] w fun e w' => e = .returned (.agg #[.string ⟨#[103]⟩, sl (w.heap.size + 1) 1, .int .u8 4, sl (w.heap.size + 2) 3, .slice none 0 0, sl (w.heap.size + 9) 5]) ∧ GrAt w' (sl (w.heap.size + 1) 1) (sl (w.heap.size + 2) 3) (.slice none 0 0) (sl (w.heap.size + 9) 5) (smallG true) ∧ Below w.heap.size w w' := by
 go_enter Tryz.func7, Tryz.ntmps7
 go_wp2
 change bodyPost _ _ _ _ _ (allocs w (objs true w.heap.size))
 exact bodyPost_ret (results_cell_row rfl _ _ w.heap.size 28 #[.string ⟨#[103]⟩, sl (w.heap.size + 1) 1, bytV 4, sl (w.heap.size + 2) 3, .slice none 0 0, sl (w.heap.size + 9) 5] _ _ rfl (allocs_get (objs true w.heap.size) w 0 _ rfl) Tryz.underlying28 rfl (by rfl)) rfl ⟨rfl, small_at_t w, allocs_below _ _⟩
end Go.Proofs.YtobnpllppohofaaGreatDoor
/- The chapter's graph, bent in one place each: plain. -/
namespace Go.Proofs.YtobnpllppohofaaGreatDoor

def bentG0 : Gr := ⟨⟨#[103]⟩, [0], 4, [4, 1, 3], [], [⟨[⟨2, 0, 2, [], 1099511627776, 0⟩, ⟨4, 13, 1, [0, 2], 0, 0⟩], ⟨2, 1, 2, 1, 0⟩⟩, ⟨[⟨10, 0, 0, [0], 0, 0⟩], ⟨1, 0, 3, 0, 0⟩⟩, ⟨[], ⟨1, 0, 3, 0, 0⟩⟩, ⟨[⟨1, 0, 2, [0, 2, 2], 0, 0⟩], ⟨3, 2, 0, 0, 0⟩⟩, ⟨[], ⟨1, 0, 3, 0, 0⟩⟩]⟩
def bentG1 : Gr := ⟨⟨#[103]⟩, [0], 4, [4, 1, 4], [], [⟨[⟨2, 0, 2, [], 5, 0⟩, ⟨4, 13, 1, [0, 2], 0, 0⟩], ⟨2, 1, 0, 1, 0⟩⟩, ⟨[⟨10, 0, 0, [0], 0, 0⟩], ⟨1, 0, 3, 0, 0⟩⟩, ⟨[], ⟨1, 0, 3, 0, 0⟩⟩, ⟨[⟨1, 0, 2, [0, 2, 2], 0, 0⟩], ⟨3, 2, 0, 0, 0⟩⟩, ⟨[], ⟨1, 0, 3, 0, 0⟩⟩]⟩
def bentG2 : Gr := ⟨⟨#[103]⟩, [0], 4, [4, 1, 4], [], [⟨[⟨2, 0, 2, [], 5, 0⟩, ⟨4, 13, 1, [0, 2], 0, 0⟩], ⟨2, 1, 2, 1, 1⟩⟩, ⟨[⟨10, 0, 0, [0], 0, 0⟩], ⟨1, 0, 3, 0, 0⟩⟩, ⟨[], ⟨1, 0, 3, 0, 0⟩⟩, ⟨[⟨1, 0, 2, [0, 2, 2], 0, 0⟩], ⟨3, 2, 0, 0, 0⟩⟩, ⟨[], ⟨1, 0, 3, 0, 0⟩⟩]⟩
def bentG3 : Gr := ⟨⟨#[103]⟩, [0], 4, [4, 1, 4], [], [⟨[⟨2, 0, 2, [], 5, 0⟩, ⟨4, 13, 1, [0, 2], 0, 0⟩], ⟨2, 1, 2, 1, 0⟩⟩, ⟨[⟨10, 0, 0, [0], 0, 0⟩], ⟨1, 0, 3, 1, 0⟩⟩, ⟨[], ⟨1, 0, 3, 0, 0⟩⟩, ⟨[⟨1, 0, 2, [0, 2, 2], 0, 0⟩], ⟨3, 2, 0, 0, 0⟩⟩, ⟨[], ⟨1, 0, 3, 0, 0⟩⟩]⟩
def bentG4 : Gr := ⟨⟨#[103]⟩, [0], 4, [4, 1, 4], [], [⟨[⟨2, 0, 2, [], 5, 0⟩, ⟨4, 13, 1, [0, 2], 0, 0⟩], ⟨2, 1, 2, 1, 0⟩⟩, ⟨[⟨10, 0, 0, [0], 0, 0⟩], ⟨1, 0, 3, 0, 0⟩⟩, ⟨[], ⟨1, 0, 3, 0, 0⟩⟩, ⟨[⟨1, 0, 2, [0, 2, 2], 0, 0⟩], ⟨3, 1, 0, 0, 0⟩⟩, ⟨[], ⟨1, 0, 3, 0, 0⟩⟩]⟩
def bentG5 : Gr := ⟨⟨#[103]⟩, [0, 0], 4, [4, 1, 4], [], [⟨[⟨2, 0, 2, [], 5, 0⟩, ⟨4, 13, 1, [0, 2], 0, 0⟩], ⟨2, 1, 2, 1, 0⟩⟩, ⟨[⟨10, 0, 0, [0], 0, 0⟩], ⟨1, 0, 3, 0, 0⟩⟩, ⟨[], ⟨1, 0, 3, 0, 0⟩⟩, ⟨[⟨1, 0, 2, [0, 2, 2], 0, 0⟩], ⟨3, 2, 0, 0, 0⟩⟩, ⟨[], ⟨1, 0, 3, 0, 0⟩⟩]⟩
def bentG6 : Gr := ⟨⟨#[103]⟩, [0], 4, [4, 1, 4], [], [⟨[⟨2, 0, 2, [], 5, 0⟩, ⟨4, 13, 1, [0, 2], 0, 0⟩], ⟨2, 1, 2, 1, 0⟩⟩, ⟨[⟨10, 0, 0, [0], 0, 0⟩, ⟨1, 0, 2, [0], 0, 0⟩], ⟨1, 0, 3, 0, 0⟩⟩, ⟨[], ⟨1, 0, 3, 0, 0⟩⟩, ⟨[⟨1, 0, 2, [0, 2, 2], 0, 0⟩], ⟨3, 2, 0, 0, 0⟩⟩, ⟨[], ⟨1, 0, 3, 0, 0⟩⟩]⟩
def bentG7 : Gr := ⟨⟨#[103]⟩, [0], 4, [4, 1, 4], [], [⟨[⟨2, 0, 2, [], 5, 0⟩, ⟨4, 13, 1, [0, 2], 0, 0⟩], ⟨2, 1, 2, 1, 0⟩⟩, ⟨[⟨10, 0, 0, [0], 0, 0⟩], ⟨1, 0, 3, 0, 0⟩⟩, ⟨[], ⟨1, 0, 3, 0, 0⟩⟩, ⟨[⟨1, 0, 2, [0, 2, 2], 0, 0⟩, ⟨1, 0, 2, [0, 0, 0], 0, 0⟩], ⟨3, 2, 0, 0, 0⟩⟩, ⟨[], ⟨1, 0, 3, 0, 0⟩⟩]⟩
def bentG8 : Gr := ⟨⟨#[103]⟩, [0], 4, [4, 1, 4], [], [⟨[⟨2, 0, 2, [], 5, 0⟩, ⟨4, 13, 1, [0, 2], 0, 1⟩], ⟨2, 1, 2, 1, 0⟩⟩, ⟨[⟨10, 0, 0, [0], 0, 0⟩], ⟨1, 0, 3, 0, 0⟩⟩, ⟨[], ⟨1, 0, 3, 0, 0⟩⟩, ⟨[⟨1, 0, 2, [0, 2, 2], 0, 0⟩], ⟨3, 2, 0, 0, 0⟩⟩, ⟨[], ⟨1, 0, 3, 0, 0⟩⟩]⟩
def bentG9 : Gr := ⟨⟨#[103]⟩, [0], 4, [4, 1, 4], [], [⟨[⟨2, 0, 2, [], 5, 0⟩, ⟨4, 13, 1, [0, 2], 0, 0⟩], ⟨2, 1, 2, 1, 0⟩⟩, ⟨[⟨10, 0, 1, [0], 0, 0⟩], ⟨1, 0, 3, 0, 0⟩⟩, ⟨[], ⟨1, 0, 3, 0, 0⟩⟩, ⟨[⟨1, 0, 2, [0, 2, 2], 0, 0⟩], ⟨3, 2, 0, 0, 0⟩⟩, ⟨[], ⟨1, 0, 3, 0, 0⟩⟩]⟩
def bentG10 : Gr := ⟨⟨#[103]⟩, [0], 4, [4, 1, 4], [(4, 257)], [⟨[⟨2, 0, 2, [], 5, 0⟩, ⟨4, 13, 1, [0, 2], 0, 0⟩], ⟨2, 1, 2, 1, 0⟩⟩, ⟨[⟨10, 0, 0, [0], 0, 0⟩], ⟨1, 0, 3, 0, 0⟩⟩, ⟨[], ⟨1, 0, 3, 0, 0⟩⟩, ⟨[⟨1, 0, 2, [0, 2, 2], 0, 0⟩], ⟨3, 2, 0, 0, 0⟩⟩, ⟨[], ⟨1, 0, 3, 0, 0⟩⟩]⟩
def bentG11 : Gr := ⟨⟨#[103]⟩, [0], 4, [4, 1, 4], [], [⟨[⟨2, 0, 2, [], 5, 0⟩, ⟨4, 13, 1, [0, 2], 0, 0⟩], ⟨2, 1, 2, 1, 0⟩⟩, ⟨[⟨10, 0, 0, [0], 0, 0⟩], ⟨1, 0, 3, 0, 0⟩⟩, ⟨[], ⟨1, 0, 3, 0, 0⟩⟩, ⟨[⟨1, 0, 2, [0, 2], 0, 0⟩], ⟨3, 2, 0, 0, 0⟩⟩, ⟨[], ⟨4, 0, 0, 0, 4⟩⟩]⟩
def bentG12 : Gr := ⟨⟨#[103]⟩, [0], 4, [4, 1, 4], [], [⟨[⟨2, 0, 2, [], 5, 0⟩, ⟨4, 13, 1, [0, 2], 0, 0⟩], ⟨2, 0, 2, 1, 0⟩⟩, ⟨[⟨10, 0, 0, [0], 0, 0⟩], ⟨1, 0, 3, 0, 0⟩⟩, ⟨[], ⟨1, 0, 3, 0, 0⟩⟩, ⟨[⟨1, 0, 2, [0, 2, 2], 0, 0⟩], ⟨3, 2, 0, 0, 0⟩⟩, ⟨[], ⟨1, 0, 3, 0, 0⟩⟩]⟩
def bentG13 : Gr := ⟨⟨#[103]⟩, [0, 1, 2, 3, 4, 5, 6, 7, 8], 4, [4, 1, 4, 4, 4, 4, 4, 4, 4, 4], [], [⟨[⟨2, 0, 2, [], 5, 0⟩, ⟨4, 13, 1, [0, 2], 0, 0⟩], ⟨2, 1, 2, 1, 0⟩⟩, ⟨[⟨10, 0, 0, [0], 0, 0⟩], ⟨1, 0, 3, 0, 0⟩⟩, ⟨[], ⟨1, 0, 3, 0, 0⟩⟩, ⟨[⟨1, 0, 2, [0, 2, 2], 0, 0⟩], ⟨3, 2, 0, 0, 0⟩⟩, ⟨[], ⟨1, 0, 3, 0, 0⟩⟩]⟩
def bentG14 : Gr := ⟨⟨#[103]⟩, [0], 4, [4, 1, 4], [], [⟨[⟨2, 0, 2, [0], 5, 0⟩, ⟨4, 13, 1, [0, 2], 0, 0⟩], ⟨2, 1, 2, 1, 0⟩⟩, ⟨[⟨10, 0, 0, [0], 0, 0⟩], ⟨1, 0, 3, 0, 0⟩⟩, ⟨[], ⟨1, 0, 3, 0, 0⟩⟩, ⟨[⟨1, 0, 2, [0, 2, 2], 0, 0⟩], ⟨3, 2, 0, 0, 0⟩⟩, ⟨[], ⟨1, 0, 3, 0, 0⟩⟩]⟩
def bentG15 : Gr := ⟨⟨#[103]⟩, [0], 6, [4, 1, 4], [], [⟨[⟨2, 0, 2, [], 5, 0⟩, ⟨4, 13, 1, [0, 2], 0, 0⟩], ⟨2, 1, 2, 1, 0⟩⟩, ⟨[⟨10, 0, 0, [0], 0, 0⟩], ⟨1, 0, 3, 0, 0⟩⟩, ⟨[], ⟨1, 0, 3, 0, 0⟩⟩, ⟨[⟨1, 0, 2, [0, 2, 2], 0, 0⟩], ⟨3, 2, 0, 0, 0⟩⟩, ⟨[], ⟨1, 0, 3, 0, 0⟩⟩]⟩
def bentG16 : Gr := ⟨⟨#[103]⟩, [0], 4, [4, 1, 4], [], [⟨[⟨2, 0, 2, [], 5, 0⟩, ⟨4, 13, 1, [0, 2], 0, 0⟩], ⟨2, 1, 2, 1, 0⟩⟩, ⟨[⟨9, 0, 2, [1], 0, 0⟩], ⟨1, 0, 3, 0, 0⟩⟩, ⟨[], ⟨1, 0, 3, 0, 0⟩⟩, ⟨[⟨1, 0, 2, [0, 2, 2], 0, 0⟩], ⟨3, 2, 0, 0, 0⟩⟩, ⟨[], ⟨1, 0, 3, 0, 0⟩⟩]⟩
def bentG17 : Gr := ⟨⟨#[103]⟩, [0], 4, [4, 1, 4], [], [⟨[⟨2, 0, 2, [], 5, 0⟩, ⟨4, 13, 1, [0, 2], 0, 0⟩], ⟨2, 1, 2, 1, 0⟩⟩, ⟨[⟨9, 0, 1, [0], 0, 0⟩], ⟨1, 0, 3, 0, 0⟩⟩, ⟨[], ⟨1, 0, 3, 0, 0⟩⟩, ⟨[⟨1, 0, 2, [0, 2, 2], 0, 0⟩], ⟨3, 2, 0, 0, 0⟩⟩, ⟨[], ⟨1, 0, 3, 0, 0⟩⟩]⟩
def bentG18 : Gr := ⟨⟨#[103]⟩, [0], 4, [4, 1, 4], [], [⟨[⟨2, 0, 2, [], 5, 0⟩, ⟨4, 13, 1, [0, 2], 0, 0⟩], ⟨2, 1, 2, 1, 0⟩⟩, ⟨[⟨9, 0, 2, [0], 0, 1⟩], ⟨1, 0, 3, 0, 0⟩⟩, ⟨[], ⟨1, 0, 3, 0, 0⟩⟩, ⟨[⟨1, 0, 2, [0, 2, 2], 0, 0⟩], ⟨3, 2, 0, 0, 0⟩⟩, ⟨[], ⟨1, 0, 3, 0, 0⟩⟩]⟩
def bentG19 : Gr := ⟨⟨#[103]⟩, [0], 4, [4, 1, 4], [], [⟨[⟨1, 0, 2, [], 0, 0⟩, ⟨2, 0, 2, [], 5, 0⟩, ⟨4, 13, 1, [0, 2], 0, 0⟩], ⟨2, 1, 2, 1, 0⟩⟩, ⟨[⟨10, 0, 0, [0], 0, 0⟩], ⟨1, 0, 3, 0, 0⟩⟩, ⟨[], ⟨1, 0, 3, 0, 0⟩⟩, ⟨[⟨1, 0, 2, [0, 2, 2], 0, 0⟩], ⟨3, 2, 0, 0, 0⟩⟩, ⟨[], ⟨1, 0, 3, 0, 0⟩⟩]⟩
def bentG20 : Gr := ⟨⟨#[103]⟩, [0], 4, [4, 1, 4], [(4, 1)], [⟨[⟨2, 0, 2, [], 5, 0⟩, ⟨4, 13, 1, [0, 2], 0, 0⟩], ⟨2, 1, 2, 1, 0⟩⟩, ⟨[⟨6, 0, 2, [1], 0, 0⟩], ⟨1, 0, 3, 0, 0⟩⟩, ⟨[], ⟨1, 0, 3, 0, 0⟩⟩, ⟨[⟨1, 0, 2, [0, 2, 2], 0, 0⟩], ⟨3, 2, 0, 0, 0⟩⟩, ⟨[], ⟨1, 0, 3, 0, 0⟩⟩]⟩
def bentG21 : Gr := ⟨⟨#[103]⟩, [0], 4, [4, 1, 4], [(4, 1)], [⟨[⟨2, 0, 2, [], 5, 0⟩, ⟨4, 13, 1, [0, 2], 0, 0⟩], ⟨2, 1, 2, 1, 0⟩⟩, ⟨[⟨7, 0, 0, [1, 0], 0, 0⟩], ⟨1, 0, 3, 0, 0⟩⟩, ⟨[], ⟨1, 0, 3, 0, 0⟩⟩, ⟨[⟨1, 0, 2, [0, 2, 2], 0, 0⟩], ⟨3, 2, 0, 0, 0⟩⟩, ⟨[], ⟨1, 0, 3, 0, 0⟩⟩]⟩
def bentG (k : Nat) : Gr := match k with
 | 0 => bentG0
 | 1 => bentG1
 | 2 => bentG2
 | 3 => bentG3
 | 4 => bentG4
 | 5 => bentG5
 | 6 => bentG6
 | 7 => bentG7
 | 8 => bentG8
 | 9 => bentG9
 | 10 => bentG10
 | 11 => bentG11
 | 12 => bentG12
 | 13 => bentG13
 | 14 => bentG14
 | 15 => bentG15
 | 16 => bentG16
 | 17 => bentG17
 | 18 => bentG18
 | 19 => bentG19
 | 20 => bentG20
 | _ => bentG21
end Go.Proofs.YtobnpllppohofaaGreatDoor
