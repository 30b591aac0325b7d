/- The document's Ahead stands in the text that is imported. -/
import Derived.Test.YtobnpllppohofaaGreatDoorGRAhd
import Derived.Test.YtobnpllppohofaaGreatDoorGBnPM
import Derived.Test.YtobnpllppohofaaGreatDoorGAhd2M
import Derived.Test.YtobnpllppohofaaGreatDoorGQ0M
import Derived.Test.YtobnpllppohofaaGreatDoorGStepM
namespace Go.Proofs.YtobnpllppohofaaGreatDoor
end Go.Proofs.YtobnpllppohofaaGreatDoor
/- The law's own: what a graph is that is not great. -/
namespace Go.Proofs.YtobnpllppohofaaGreatDoor
open Go.RowKit

/-- how much a block may have -/
def OkB (b : Bl) : Prop := b.ins.length ≤ 2000 ∧ ∀ x ∈ b.ins, x.args.length ≤ 2000
def OkG (G : Gr) : Prop := G.blocks.length ≤ 400 ∧ G.vars.length ≤ 2000 ∧ G.arrs.length ≤ 2000 ∧ G.params.length ≤ 2000 ∧ ∀ b ∈ G.blocks, OkB b
theorem okB_of {b : Bl} (h1 : b.ins.length ≤ 2000) (h2 : ∀ k, k < b.ins.length → (b.ins.getD k default).args.length ≤ 2000) : OkB b := ⟨h1, fun x hx => by
 obtain ⟨k, hk, rfl⟩ := List.mem_iff_getElem.1 hx
 have := h2 k hk
 rw [List.getD_eq_getElem?_getD, List.getElem?_eq_getElem hk] at this
 exact this⟩
theorem okBs_of {bs : List Bl} {n : Nat} (hn : bs.length = n) (h : ∀ q, q < n → OkB (bs.getD q default)) : ∀ b ∈ bs, OkB b := fun b hb => by
 obtain ⟨k, hk, rfl⟩ := List.mem_iff_getElem.1 hb
 have := h k (by omega)
 rw [List.getD_eq_getElem?_getD, List.getElem?_eq_getElem hk] at this
 exact this
set_option maxRecDepth 100000 in
set_option maxHeartbeats 2000000 in
theorem great2_any (G : Gr) (pv vv av bv : Value) (w : World) (h : GrAt w pv vv av bv G) :
  Calls Tryz.prog 18 #[.agg #[.string G.name, pv, .int .u8 G.result, vv, av, bv]] w fun e w' => ∃ b, e = .returned (.bool b) ∧ Hid (b = false → OkG G) ∧ Below w.heap.size w w' := by
 obtain ⟨pa, pc, va, vc, aa, ac, ba, bc, rfl, rfl, rfl, rfl, _, _, _, hbl⟩ := h.openF
 have HB : Hid (∀ i, i < G.blocks.length → _) := fun i hi => h.bs.get (i := i) hi
 have HOK : Hid (∀ n m al pl, G.blocks.length = n → G.vars.length = m → G.arrs.length = al → G.params.length = pl → n ≤ 400 → m ≤ 2000 → al ≤ 2000 → pl ≤ 2000 → (∀ q, q < n → OkB (G.blocks.getD q default)) → OkG G) := fun n m al pl e1 e2 e3 e4 l1 l2 l3 l4 hq => ⟨by omega, by omega, by omega, by omega, okBs_of e1 hq⟩
 obtain ⟨nm, ps, r, vs, ars, bs⟩ := G
 dsimp only at HB HOK hbl ⊢
 generalize hGG : OkG ⟨nm, ps, r, vs, ars, bs⟩ = OG at *
 clear hGG
 clear h
 have HOK2 := HOK.out _ _ _ _ rfl rfl rfl rfl
 clear HOK
 generalize bs.length = n at *
 generalize ps.length = pl at *
 generalize vs.length = m at *
 generalize ars.length = al at *
 have H0 : Hid (Below w.heap.size w (w.alloc (.cells #[.string nm, .slice pa pl pc, .int .u8 r, .slice va m vc, .slice aa al ac, .slice ba n bc] 28)) ∧ Box (w.alloc (.cells #[.string nm, .slice pa pl pc, .int .u8 r, .slice va m vc, .slice aa al ac, .slice ba n bc] 28)) w.heap.size [.string nm, .slice pa pl pc, .int .u8 r, .slice va m vc, .slice aa al ac, .slice ba n bc]) := ⟨below_alloc (Below.refl _ _) _, Box.new w [.string nm, .slice pa pl pc, .int .u8 r, .slice va m vc, .slice aa al ac, .slice ba n bc] 28⟩
 obtain ⟨C, hCt, hCf, hCn⟩ : ∃ C : Bool → Prop, C true ∧ (OG → C false) ∧ (∀ b, C b → Hid (b = false → OG)) := ⟨fun b => b = false → OG, (fun h => nomatch h), (fun h _ => h), (fun b h => h)⟩
 have HCT : Hid (C true) := hCt
 have HCF : Hid (OG → C false) := hCf
 refine Calls.mono (R := fun e w' => ∃ b, e = .returned (.bool b) ∧ C b ∧ Below w.heap.size w w') ?_ (fun e w' ⟨b, he, hc, hb⟩ => ⟨b, he, hCn b hc, hb⟩)
 clear hCt hCf hCn
 by_cases h1 : 400 < n
 ·have h1' : (400 : Int) < n := by omega
  go_enter Tryz.func18, Tryz.ntmps18
  go_wp2
  go_ret
  first | exact ⟨true, rfl, HCT.out, H0.out.1⟩ | exact Or.inr ⟨rfl, HCT.out, H0.out.1⟩
 have h1' : ¬ (400 : Int) < n := by omega
 by_cases h2 : 2000 < m
 ·have h2' : (2000 : Int) < m := by omega
  go_enter Tryz.func18, Tryz.ntmps18
  go_wp2
  go_ret
  first | exact ⟨true, rfl, HCT.out, H0.out.1⟩ | exact Or.inr ⟨rfl, HCT.out, H0.out.1⟩
 have h2' : ¬ (2000 : Int) < m := by omega
 by_cases h3 : 2000 < al
 ·have h3' : (2000 : Int) < al := by omega
  go_enter Tryz.func18, Tryz.ntmps18
  go_wp2
  go_ret
  first | exact ⟨true, rfl, HCT.out, H0.out.1⟩ | exact Or.inr ⟨rfl, HCT.out, H0.out.1⟩
 have h3' : ¬ (2000 : Int) < al := by omega
 by_cases h4 : 2000 < pl
 ·have h4' : (2000 : Int) < pl := by omega
  go_enter Tryz.func18, Tryz.ntmps18
  go_wp2
  go_ret
  first | exact ⟨true, rfl, HCT.out, H0.out.1⟩ | exact Or.inr ⟨rfl, HCT.out, H0.out.1⟩
 have h4' : ¬ (2000 : Int) < pl := by omega
 have HN : Hid ((∀ q, q < n → OkB (bs.getD q default)) → OG) := HOK2 (by omega) (by omega) (by omega) (by omega)
 clear HOK2
 go_enter Tryz.func18, Tryz.ntmps18
 go_wp2
 clear h1 h2 h3 h4 h1' h2' h3' h4'
 go_loopw [3, 4] (fun vn vi wr => ∃ (x : Nat) (i : Nat), vn = .int .i64 (x : Int) ∧ vi = .int .i64 i ∧ i ≤ n ∧ x ≤ 2000 ∧ Hid ((∀ q, q < i → OkB (bs.getD q default)) ∧ Below w.heap.size w wr ∧ Box wr w.heap.size [.string nm, .slice pa pl pc, .int .u8 r, .slice va m vc, .slice aa al ac, .slice ba n bc])) (fun _ vi _ => n - (intOf vi).toNat)
 case atStart => exact ⟨0, 0, rfl, rfl, by omega, by omega, fun q hq => by omega, H0.out⟩
 case round =>
  obtain ⟨x, i, rfl, rfl, hi, hx, hr⟩ := hrel
  have hx' : (x : Int) ≤ 2000 := by omega
  clear H0
  obtain ⟨e0, e1, e2, e3, e4, e5⟩ := box6 hr.out.2.2
  have hwl := hr.out.2.2.lt
  by_cases hin : i < n
  ·obtain ⟨g, o, iv, rfl, hg, c0, c1, c2, c3, c4, c5, hins⟩ := HB.out i hin
   obtain ⟨ia, ic, rfl, hil⟩ := hins.form
   have hin' : (i : Int) < n := by omega
   have HBO : Hid ((bs.getD i default).ins.length ≤ 2000 → (∀ k, k < (bs.getD i default).ins.length → ((bs.getD i default).ins.getD k default).args.length ≤ 2000) → OkB (bs.getD i default)) := okB_of
   generalize (bs.getD i default).ins = L at *
   have hil' : (L.length : Int) ≤ 140737488355328 := by omega
   have HI : Hid (∀ k, k < L.length → _) := fun k hk => hins.get (i := k) hk
   have HC0 : Hid _ := c0
   have HG : Hid (g < w.heap.size) := hg
   have c0' : wr.cell? ⟨g, o + i * 6, none⟩ = some (.slice ia L.length ic) := (hr.out.2.1.cell (p := ⟨g, o + i * 6, none⟩) hg).trans c0
   have HRO : Hid (∀ q, q < i → OkB (bs.getD q default)) := hr.out.1
   clear HB c0 c1 c2 c3 c4 c5 hins hg
   generalize wr = wo at *
   go_wp2
   go_loopw [3, 5] (fun vn vk wr => ∃ (y : Nat) (k : Nat), vn = .int .i64 (y : Int) ∧ vk = .int .i64 k ∧ k ≤ L.length ∧ y ≤ 422212465065984 ∧ Hid ((y ≤ 2000 → L.length ≤ 2000 ∧ ∀ q, q < k → (L.getD q default).args.length ≤ 2000) ∧ Below w.heap.size w wr ∧ Box wr w.heap.size [.string nm, .slice pa pl pc, .int .u8 r, .slice va m vc, .slice aa al ac, .slice (some ⟨g, o, none⟩) n bc])) (fun _ vk _ => L.length - (intOf vk).toNat)
   case atStart => exact ⟨x + L.length, 0, by first | rfl | (congr 1; omega) | (simp; omega), rfl, by omega, by omega, fun _ => ⟨by omega, fun q hq => by omega⟩, hr.out.2⟩
   case round =>
    obtain ⟨y, k, rfl, rfl, hk, hyl, hq⟩ := hrel
    have hyl' : (y : Int) ≤ 422212465065984 := by omega
    clear e0 e1 e2 e3 e4 e5 c0'
    obtain ⟨e0, e1, e2, e3, e4, e5⟩ := box6 hq.out.2.2
    have hwl2 := hq.out.2.2.lt
    have c0' : wr.cell? ⟨g, o + i * 6, none⟩ = some (.slice ia L.length ic) := (hq.out.2.1.cell (p := ⟨g, o + i * 6, none⟩) HG.out).trans HC0.out
    by_cases hkn : k < L.length
    ·have hkn' : (k : Int) < L.length := by omega
     obtain ⟨gi, oi, xv, rfl, hgi, d0, d1, d2, d3, d4, d5, hxa⟩ := HI.out k hkn
     obtain ⟨xa, xc, rfl, hxl⟩ := hxa.form
     have d3' := (hq.out.2.1.cell (p := ⟨gi, oi + k * 6 + 3, none⟩) hgi).trans d3
     have HNX : Hid (y ≤ 2000 → y + (L.getD k default).args.length ≤ 2000 → L.length ≤ 2000 ∧ ∀ q, q < k + 1 → (L.getD q default).args.length ≤ 2000) := fun h1 h2 => ⟨(hq.out.1 h1).1, fun q hq2 => by
      by_cases e : q = k
      ·subst e; omega
      ·exact (hq.out.1 h1).2 q (by omega)⟩
     have HQ1 : Hid _ := hq.out.2
     clear hq
     generalize (L.getD k default).args.length = xn at *
     have hxl' : (xn : Int) ≤ 140737488355328 := by omega
     clear d0 d1 d2 d3 d4 d5 hxa HI hgi
     by_cases hy : y ≤ 2000
     ·have hy' : (y : Int) ≤ 2000 := by omega
      have HN2 : Hid (y + xn ≤ 2000 → L.length ≤ 2000 ∧ ∀ q, q < k + 1 → (L.getD q default).args.length ≤ 2000) := HNX.out hy
      clear HNX
      go_wp2
      go_roundw
      case rel => exact ⟨y + xn, k + 1, by first | rfl | (congr 1; omega) | (simp; omega), by first | rfl | (congr 1; omega), by omega, by omega, HN2.out, HQ1.out⟩
      case measure => simp [intOf]; omega
     ·have hy' : ¬ (y : Int) ≤ 2000 := by omega
      have hy2 : (2000 : Int) < y := by omega
      clear HNX
      go_wp2
      go_ret
      first | exact ⟨true, rfl, HCT.out, HQ1.out.1⟩ | exact Or.inr ⟨rfl, HCT.out, HQ1.out.1⟩
    ·obtain rfl : k = L.length := by omega
     have HQ1 : Hid _ := hq.out.2
     have HQ0 : Hid _ := hq.out.1
     clear HI hq
     by_cases hy : 2000 < y
     ·have hy2 : (2000 : Int) < y := by omega
      clear HQ0
      go_wp2
      go_ret
      first | exact ⟨true, rfl, HCT.out, HQ1.out.1⟩ | exact Or.inr ⟨rfl, HCT.out, HQ1.out.1⟩
     ·have hy2 : ¬ (2000 : Int) < y := by omega
      have HN3 : Hid (∀ q, q < i + 1 → OkB (bs.getD q default)) := fun q hq2 => by
       by_cases e : q = i
       ·subst e; exact HBO.out (HQ0.out (by omega)).1 (HQ0.out (by omega)).2
       ·exact HRO.out q (by omega)
      clear HQ0
      go_wp2
      go_roundw
      case rel => exact ⟨y, i + 1, rfl, by first | rfl | (congr 1; omega), by omega, by omega, HN3.out, HQ1.out⟩
      case measure => simp [intOf]; omega
  ·obtain rfl : i = n := by omega
   have HX : Hid _ := hr.out.2.1
   have HY : Hid OG := HN.out hr.out.1
   clear HB hr HN
   go_wp2
   go_ret
   first | exact ⟨false, rfl, HCF.out HY.out, HX.out⟩ | exact Or.inl ⟨rfl, HCF.out HY.out, HX.out⟩
end Go.Proofs.YtobnpllppohofaaGreatDoor
/- What the document's Trim leaves standing: rows that stay, lists that change place by place. -/
namespace Go.Proofs.YtobnpllppohofaaGreatDoor
open Go.RowKit

theorem plc_gen (x : Int) : ∀ (l : List Int) (i : Nat), plcF x l i = if x ∈ l then ((i + l.idxOf x : Nat) : Int) else -1
 | [], i => by simp [plcF]
 | y :: l, i => by
  by_cases h : y = x
  ·subst h; simp [plcF]
  ·have h2 : ¬ x = y := fun e => h e.symm
   have e1 : plcF x (y :: l) i = plcF x l (i + 1) := by unfold plcF; rw [if_neg h]; cases l <;> rfl
   have e2 : (y :: l).idxOf x = l.idxOf x + 1 := by rw [List.idxOf_cons, beq_false_of_ne h]; rfl
   rw [e1, plc_gen x l (i + 1), e2]
   by_cases hm : x ∈ l
   ·rw [if_pos hm, if_pos (List.mem_cons_of_mem _ hm)]; congr 1; omega
   ·rw [if_neg hm, if_neg (by simp [h2, hm])]
theorem plc_place (x : Int) (l : List Int) : plcF x l 0 = placeOf l x := by
 rw [plc_gen]; unfold placeOf; simp
theorem rplace_is (l : List Int) (x : Int) (v : Value) (w : World) (h : IntsAt w v l) : Calls Tryz.prog 55 #[v, .int .i64 x] w fun e w' => e = .returned (.int .i64 (placeOf l x)) ∧ w' = w := by
 rw [← plc_place]; exact rplace_any l x v w h
theorem argsD_step {O was now had : List Int} {j : Nat} (hj : j < now.length) : argsD O was (now.take (j + 1)) had = argsD O was (now.take j) had ++ (if 0 ≤ placeOf was (O.getD (now.getD j 0).toNat 0) ∧ placeOf was (O.getD (now.getD j 0).toNat 0) < (had.length : Int) then [had.getD (placeOf was (O.getD (now.getD j 0).toNat 0)).toNat 0] else []) := by
 have e : now.getD j 0 = now[j] := by simp [List.getD, List.getElem?_eq_getElem hj]
 unfold argsD
 rw [List.take_add_one, List.getElem?_eq_getElem hj, Option.toList_some, List.filterMap_append, e]
 congr 1
 rw [List.filterMap_cons, List.filterMap_nil]
 generalize placeOf was (O.getD (now[j]).toNat 0) = q
 by_cases h0 : 0 ≤ q
 ·rw [if_pos h0]
  by_cases h1 : q < (had.length : Int)
  ·rw [if_pos ⟨h0, h1⟩]
   have hl : q.toNat < had.length := by omega
   rw [List.getElem?_eq_getElem hl]
   simp [List.getElem?_eq_getElem hl]
  ·rw [if_neg (by omega), List.getElem?_eq_none (by omega)]
 ·rw [if_neg h0, if_neg (by omega)]
def phiD (O was now : List Int) (x : In) : In := if x.kind = 1 then { x with args := argsD O was now x.args } else x
def b1D (bs : List Bl) : List Bl := (orderT (tms bs)).map fun a => ledB (orderT (tms bs)) (bs.getD a.toNat default)
theorem trimD_get {bs : List Bl} {i : Nat} (h : i < (orderT (tms bs)).length) : (trimD bs)[i]? = some ⟨((b1D bs).getD i default).ins.map (phiD (orderT (tms bs)) ((aheadT (tms bs)).getD ((orderT (tms bs)).getD i 0).toNat []) ((aheadT (tms (b1D bs))).getD i [])), ((b1D bs).getD i default).tm⟩ := by
 unfold trimD
 dsimp only
 rw [List.getElem?_map, List.getElem?_range h]
 rfl
theorem trimD_len (bs : List Bl) : (trimD bs).length = (orderT (tms bs)).length := by unfold trimD; simp
/- A list in which the first places are told already. -/
theorem mxl_step {α : Type} {f l : List α} {i : Nat} {y : α} (hl : f.length = l.length) (h : f[i]? = some y) : (f.take i ++ l.drop i).set i y = f.take (i + 1) ++ l.drop (i + 1) := by
 have hi := (List.getElem?_eq_some_iff.1 h).1
 have e : f[i] = y := (List.getElem?_eq_some_iff.1 h).2
 rw [List.set_append_right _ _ (by simp; omega)]
 have e2 : i - (f.take i).length = 0 := by simp; omega
 rw [e2, List.drop_eq_getElem_cons (by omega), List.set_cons_zero, List.take_succ_eq_append_getElem hi, e]
 simp
theorem mxl_get {α : Type} {f l : List α} {i : Nat} {x : α} (hl : f.length = l.length) (h : l[i]? = some x) : (f.take i ++ l.drop i)[i]? = some x := by
 have hi := (List.getElem?_eq_some_iff.1 h).1
 rw [List.getElem?_append_right (by simp; omega)]
 have e2 : i - (f.take i).length = 0 := by simp; omega
 rw [e2, List.getElem?_drop]
 simpa using h
theorem mxl_len {α : Type} {f l : List α} (hl : f.length = l.length) (i : Nat) : (f.take i ++ l.drop i).length = l.length := by simp; omega
theorem mxl_end {α : Type} {f l : List α} (hl : f.length = l.length) {n : Nat} (hn : l.length = n) : f.take n ++ l.drop n = f := by
 subst hn; rw [List.drop_length, ← hl, List.take_length, List.append_nil]
theorem set_sam {α : Type} {l : List α} {i : Nat} {x : α} (h : l[i]? = some x) : l.set i x = l := by
 refine List.ext_getElem? fun j => ?_
 rw [List.getElem?_set]
 by_cases e : i = j
 ·subst e; rw [if_pos rfl, if_pos (List.getElem?_eq_some_iff.1 h).1, h]
 ·rw [if_neg e]
/- Memory. -/
theorem BG.six {w wr : World} {z0 z1 z2 z3 z4 z5 : Value} (h : BG w wr [z0, z1, z2, z3, z4, z5]) (u0 u1 u2 u3 u4 u5 : Value) : BG w (setSix wr w.heap.size u0 u1 u2 u3 u4 u5) [u0, u1, u2, u3, u4, u5] :=
 (((((h.set 0 (by simp) u0).set 1 (by simp) u1).set 2 (by simp) u2).set 3 (by simp) u3).set 4 (by simp) u4).set 5 (by simp) u5
theorem BG.cell {w wr : World} {cs : List Value} (h : BG w wr cs) {g : Nat} (hg : w.heap.size + 2 ≤ g) (k : Nat) (u : Value) : BG w (wr.setCell ⟨g, k, none⟩ u) cs := by
 have kp : ∀ q, q < w.heap.size + 2 → (wr.setCell ⟨g, k, none⟩ u).heap[q]? = wr.heap[q]? := fun q hq => Below.heap_setCell wr ⟨g, k, none⟩ u q (by show q ≠ g; omega)
 exact ⟨h.low.setCell (p := ⟨g, k, none⟩) (by show w.heap.size ≤ g; omega) _, h.box.same (kp _ (by omega)), (kp _ (by omega)).trans h.res, h.rbx.same (kp _ (by omega)), by have := h.sz; simp [World.setCell]; exact this⟩
theorem six_keep (W : World) (r : Nat) (u0 u1 u2 u3 u4 u5 : Value) {k : Nat} (hk : k ≠ r) : (setSix W r u0 u1 u2 u3 u4 u5).heap[k]? = W.heap[k]? := by
 have st : ∀ (V : World) (j : Nat) (u : Value), (V.setCell ⟨r, j, none⟩ u).heap[k]? = V.heap[k]? := fun V j u => Below.heap_setCell V ⟨r, j, none⟩ u k (by show k ≠ r; exact hk)
 unfold setSix
 rw [st, st, st, st, st, st]
theorem six_size (W : World) (r : Nat) (u0 u1 u2 u3 u4 u5 : Value) : (setSix W r u0 u1 u2 u3 u4 u5).heap.size = W.heap.size := by simp [World.setCell]
theorem CG.same {w w' w2 : World} {G : Gr} {B : Nat} {pv vv av bv : Value} {ivs : List Value} {avss : List (List Value)} (h : CG w w' G B pv vv av bv ivs avss) (hk : ∀ g, w.heap.size ≤ g → w2.heap[g]? = w'.heap[g]?) : CG w w2 G B pv vv av bv ivs avss :=
 ⟨h.lo, owns_same h.ps fun g hg => hk g (h.ps.lt g hg).1, owns_same h.vs fun g hg => hk g (h.vs.lt g hg).1, owns_same h.ars fun g hg => hk g (h.ars.lt g hg).1, h.pb, h.vb, h.ab, h.bs.same fun g hg => hk g (Nat.le_trans h.lo hg)⟩
theorem CG.below {w w' w2 : World} {G : Gr} {B : Nat} {pv vv av bv : Value} {ivs : List Value} {avss : List (List Value)} (h : CG w w' G B pv vv av bv ivs avss) (hb : Below w'.heap.size w' w2) : CG w w2 G B pv vv av bv ivs avss :=
 ⟨h.lo, owns_below h.ps hb, owns_below h.vs hb, owns_below h.ars hb, h.pb, h.vb, h.ab, h.bs.below hb⟩
theorem CG.at' {w w' : World} {G : Gr} {B : Nat} {pv vv av bv : Value} {ivs : List Value} {avss : List (List Value)} (h : CG w w' G B pv vv av bv ivs avss) (hpl : G.params.length ≤ 1000000) (hml : G.vars.length ≤ 1000000) (hal : G.arrs.length ≤ 1000000) (hl : G.blocks.length ≤ 1000000) (hli : ∀ b ∈ G.blocks, b.ins.length ≤ 1000000) (hla : ∀ b ∈ G.blocks, ∀ x ∈ b.ins, x.args.length ≤ 1000000) (hw : ∀ b ∈ G.blocks, ∀ x ∈ b.ins, 0 ≤ x.bits ∧ x.bits < 18446744073709551616) : GrAt w' pv vv av bv G :=
 ⟨row_own h.ps hpl, row_own h.vs hml, row_own h.ars hal, h.bs.at' hl hli hla hw⟩
theorem CG.arg {w0 w w1 : World} {G : Gr} {B : Nat} {pv vv av bv yv : Value} {ivs : List Value} {avss : List (List Value)} (h : CG w0 w G B pv vv av bv ivs avss) (hw : Below w.heap.size w w1) (hB : B ≤ w.heap.size) {i k g c : Nat} {b : Bl} {x : In} {xs : List Int} {avs : List Value} (hb : G.blocks[i]? = some b) (hx : b.ins[k]? = some x) (hi : ivs[i]? = some (.slice (some ⟨g, 0, none⟩) b.ins.length c)) (ha : avss[i]? = some avs) (hav : OwnI w1 w.heap.size yv xs) :
  CG w0 (w1.setCell ⟨g, k * 6 + 3, none⟩ yv) { G with blocks := G.blocks.set i ⟨b.ins.set k { x with args := xs }, b.tm⟩ } B pv vv av bv ivs (avss.set i (avs.set k yv)) := by
 have hgB : B ≤ g := (h.bs.iv_kb hi ha (.inl rfl)).1
 have kp : ∀ q, q < B → (w1.setCell ⟨g, k * 6 + 3, none⟩ yv).heap[q]? = w1.heap[q]? := fun q hq => Below.heap_setCell w1 ⟨g, k * 6 + 3, none⟩ yv q (by show q ≠ g; omega)
 have h1 := h.below hw
 exact ⟨h.lo, owns_same h1.ps fun q hq => kp q (h.pb q hq), owns_same h1.vs fun q hq => kp q (h.vb q hq), owns_same h1.ars fun q hq => kp q (h.ab q hq), h.pb, h.vb, h.ab, h.bs.arg hw hB hb hx hi ha hav⟩
theorem bits_of {w : World} {v : Value} {bs : List Bl} (h : BlsAt w v bs) : ∀ b ∈ bs, ∀ x ∈ b.ins, 0 ≤ x.bits ∧ x.bits < 18446744073709551616 := fun b hb => by
 obtain ⟨ivs, hl, _, hk⟩ := h.row
 obtain ⟨i, hi, e⟩ := List.mem_iff_getElem.1 hb
 have hi2 : i < ivs.length := by rw [hl]; exact hi
 exact (hk i b _ (by rw [List.getElem?_eq_getElem hi, e]) (List.getElem?_eq_getElem hi2)).wf
/-- what has been made since lo stays as it was -/
structure Kpt (lo : Nat) (w6 wr : World) : Prop where
 size : w6.heap.size ≤ wr.heap.size
 keep : ∀ q, lo ≤ q → q < w6.heap.size → wr.heap[q]? = w6.heap[q]?
theorem Kpt.refl (lo : Nat) (w : World) : Kpt lo w w := ⟨Nat.le_refl _, fun _ _ _ => rfl⟩
theorem Kpt.below {lo : Nat} {w6 wr w2 : World} (h : Kpt lo w6 wr) (hb : Below wr.heap.size wr w2) : Kpt lo w6 w2 := ⟨Nat.le_trans h.size hb.size, fun q h1 h2 => (hb.block q (Nat.lt_of_lt_of_le h2 h.size)).trans (h.keep q h1 h2)⟩
theorem Kpt.cell {lo : Nat} {w6 wr : World} (h : Kpt lo w6 wr) {g : Nat} (hg : g < lo) (k : Nat) (u : Value) : Kpt lo w6 (wr.setCell ⟨g, k, none⟩ u) := ⟨by have := h.size; simp [World.setCell]; exact this, fun q h1 h2 => (Below.heap_setCell wr ⟨g, k, none⟩ u q (by show q ≠ g; omega)).trans (h.keep q h1 h2)⟩
theorem Kpt.own {lo base : Nat} {w6 wr : World} (h : Kpt lo w6 wr) {e : TypeId} {sz : Nat} {v : Value} {n : Nat} {xs : List Value} (ho : w6.ownsRow base e sz v n xs) (hl : lo ≤ base) : wr.ownsRow base e sz v n xs :=
 owns_same ho fun g hg => h.keep g (Nat.le_trans hl (ho.lt g hg).1) (ho.lt g hg).2
theorem Kpt.rows {lo base G n : Nat} {w6 wr : World} (h : Kpt lo w6 wr) {kvs : List Value} {rows : List (List Int)} (ho : RowsIn w6 base G n kvs rows) (hl : lo ≤ base) : RowsIn wr base G n kvs rows :=
 ⟨ho.klen, ho.rlen, h.own ho.own hl, fun i r kv h1 h2 => ⟨h.own (ho.kid i r kv h1 h2).1 hl, (ho.kid i r kv h1 h2).2⟩, ho.apart⟩
theorem own_at {w : World} {base g n c : Nat} {l : List Int} (h : OwnI w base (.slice (some ⟨g, 0, none⟩) n c) l) (hn : n = l.length) {j : Nat} (hj : j < l.length) : w.cell? ⟨g, j, none⟩ = some (.int .i64 (l.getD j 0)) := by
 subst hn
 rw [World.ownsRow.cellAt h j (by omega), List.getElem?_map, getD_some hj]
 rfl
end Go.Proofs.YtobnpllppohofaaGreatDoor
