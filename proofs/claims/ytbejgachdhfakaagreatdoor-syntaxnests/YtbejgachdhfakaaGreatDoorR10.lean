/- Which trees are right: node by node. -/
import Derived.Test.YtbejgachdhfakaaGreatDoorGT
import Derived.Deep.CutRange
import Derived.Deep.RegionHeld3
namespace Go.Proofs.YtbejgachdhfakaaGreatDoor
open Go.RowKit

set_option maxRecDepth 100000 in
theorem rightFields_any (n : Nr) (ka : Option Addr) (kc : Nat) (w : World) (hS : ShapesAt w) (h0 : 0 < w.heap.size) (hb : word n.bits) (hnm : n.name.size ≤ maxLen) (hk : 0 ≤ n.kind) :
    Calls Tryz.prog 26 #[nV n.kind n.pl n.name n.typ n.op n.bits n.size ka n.kids.length kc] w fun e w' => e = .returned (.bool (fieldsB n)) ∧ Below w.heap.size w w' := by
  cases hK : kindB n.kind with
  | true =>
    obtain ⟨k, hk2⟩ := Int.eq_ofNat_of_zero_le hk
    have h1 : 1 ≤ k ∧ k ≤ 21 := by
      unfold kindB at hK
      rw [hk2, Bool.and_eq_true, decide_eq_true_eq, decide_eq_true_eq] at hK
      omega
    have := rightFields_at k n.pl n.name n.typ n.op n.bits n.size ka n.kids.length kc w h1 hS h0 hb hnm
    unfold fieldsB
    rw [hK, Bool.true_and, hk2]
    exact this
  | false =>
    have hf : fieldsB n = false := by unfold fieldsB; rw [hK]; rfl
    rw [hf]
    have HKD : Hid (∀ W, Calls Tryz.prog 49 #[.int .u8 n.kind] W fun e w' => e = .returned (.bool false) ∧ w' = W) := fun W => by have := rightKind_any n.kind W; rwa [hK] at this
    generalize n.kind = k at *
    clear hS hb hnm hk hK hf
    go_enter Tryz.func26, Tryz.ntmps26
    go_wp2_with (go_at_call 49; refine Calls.mono (by exact HKD.out _) ?_; rintro e w' ⟨rfl, rfl⟩)
    go_ret
    exact ⟨rfl, nBelow _ _ _⟩
/-- The functions that are read. -/
structure FunsAt (w : World) (g o : Nat) (pvs : List Value) (fs : List Fr) : Prop where
  lt : g < w.heap.size
  len : pvs.length = fs.length
  cell : ∀ (i : Nat) (f : Fr) (pv : Value), fs[i]? = some f → pvs[i]? = some pv → w.cell? ⟨g, o + i * 5, none⟩ = some (.string f.name) ∧ w.cell? ⟨g, o + i * 5 + 1, none⟩ = some (.int .i64 f.pl) ∧ w.cell? ⟨g, o + i * 5 + 2, none⟩ = some pv ∧ w.cell? ⟨g, o + i * 5 + 3, none⟩ = some (.int .u8 f.res) ∧ w.cell? ⟨g, o + i * 5 + 4, none⟩ = some (.int .i64 f.body)
  par : ∀ (i : Nat) (f : Fr) (pv : Value), fs[i]? = some f → pvs[i]? = some pv → ParsAt w pv f.pars
/-- A tree that is read. -/
structure TreeAt (w : World) (nv fv : Value) (kvs pvs : List Value) (ns : List Nr) (fs : List Fr) : Prop where
  nods : ∃ a c, nv = .slice a ns.length c ∧ (ns = [] ∨ ∃ g o, a = some ⟨g, o, none⟩ ∧ NodesAt w g o kvs ns)
  funs : ∃ a c, fv = .slice a fs.length c ∧ (fs = [] ∨ ∃ g o, a = some ⟨g, o, none⟩ ∧ FunsAt w g o pvs fs)
  nok : ∀ n ∈ ns, word n.bits ∧ n.name.size ≤ maxLen ∧ n.kids.length < 1152921504606846976 ∧ 0 ≤ n.kind
  fok : ∀ f ∈ fs, f.name.size ≤ maxLen ∧ (∀ p ∈ f.pars, p.1.size ≤ maxLen) ∧ f.pars.length < 1152921504606846976
  nl : ns.length ≤ 400000000
  fl : fs.length < 1152921504606846976
theorem opensF_le (ns : List Nr) (os : List Nat) (r : Int) (B : Nat) (hb : ∀ x ∈ os, x ≤ B) : ∀ (ks : List Int) (most i : Nat), most ≤ B + 1 → opensF ns os r most i ks ≤ B + 1
  | [], most, _, h => h
  | k :: ks, most, i, h => by
    unfold opensF
    apply opensF_le ns os r B hb ks
    have h1 : os.getD k.toNat 0 ≤ B := by
      rw [List.getD]
      cases he : os[k.toNat]? with
      | none => simp
      | some x => exact hb x (List.mem_of_getElem? he)
    split
    · omega
    · omega
theorem opensN_le {ns : List Nr} {os : List Nat} {n : Nr} {i : Nat} (hb : ∀ x ∈ os, x ≤ 2 * i) : opensN ns os n ≤ 2 * (i + 1) := by
  unfold opensN
  have := opensF_le ns os (rankI n.kind n.op) (2 * i) hb n.kids 0 0 (by omega)
  split <;> omega
theorem made_zero (n : Nat) : (madeCells (Value.int .i64 0).cells (n * 1)).toList = List.replicate n (Value.int .i64 0) := by
  apply List.ext_getElem
  · simp [madeCells]
  · intro j h1 h2
    simp [madeCells, Value.cells, Nat.mod_one]
theorem rs_start {w wM : World} {nv fv : Value} {N : Nat} (hb : Below w.heap.size w (w.alloc (.cells #[nv, fv] 32))) (hB : Box (w.alloc (.cells #[nv, fv] 32)) w.heap.size [nv, fv])
    (ho : wM.ownsRow (w.heap.size + 1) 3 1 (.slice (some ⟨w.heap.size + 1, 0, none⟩) N N) N (madeCells (Value.int .i64 0).cells (N * 1)).toList) (hg : (w.alloc (.cells #[nv, fv] 32)).grownBy wM none) : RS w wM nv fv N (.slice none 0 0) [] [] 0 := by
  have h2 : (w.alloc (.cells #[nv, fv] 32)).heap.size = w.heap.size + 1 := by simp
  have h3 := (ho.lt (w.heap.size + 1) rfl).2
  refine { bel := ⟨hg.os.trans hb.os, hg.tape.trans hb.tape, hg.output.trans hb.output, by omega, fun k hk => (hg.block k (by omega) (by simp)).trans (hb.block k hk)⟩, sz := by omega, tree := hB.same (hg.block _ (by omega) (by simp)), own := World.ownsRow_nil _ _ _ _, opn := ?_, hos := rfl, hen := by simp, enl := by simp, hbd := by simp }
  rw [made_zero] at ho
  simpa using ho
theorem node_mem {ns : List Nr} {i : Nat} (hi : i < ns.length) : nodeAt ns (i : Int) ∈ ns := by
  unfold nodeAt
  rw [Int.toNat_natCast, List.getD, List.getElem?_eq_getElem hi]
  exact List.getElem_mem hi
theorem fields_kind {n : Nr} (h : fieldsB n = true) (h0 : 0 ≤ n.kind) : ∃ k : Nat, n.kind = k ∧ k ≤ 21 := by
  obtain ⟨k, hk⟩ := Int.eq_ofNat_of_zero_le h0
  refine ⟨k, hk, ?_⟩
  unfold fieldsB kindB at h
  simp only [Bool.and_eq_true, decide_eq_true_eq] at h
  omega
theorem rs_zero {w wr : World} {nv fv v : Value} {N i : Nat} {en os : List Nat} (h : RS w wr nv fv N v en os i) (hi : i < N) : wr.cell? ⟨w.heap.size + 1, i, none⟩ = some (.int .i64 0) := by
  have hl : (ints os).length = i := by simp [h.hos]
  rw [h.opn.cellAt i (by omega), List.getElem?_append_right (by rw [hl]; exact Nat.le_refl _), hl, Nat.sub_self, List.getElem?_replicate, if_pos (by rw [h.hos]; omega)]
theorem own_five {w w4 : World} {nv fv : Value} {a : Option Addr} {m c N i f : Nat} {en os : List Nat} {u : Value} {o : Obj} (h : RS w w4 nv fv N (.slice a m c) en os i) (hm : m = en.length) (hf : f ≤ m) : ((w4.setCell ⟨w.heap.size + 1, i, none⟩ u).alloc o).ownsRow (w.heap.size + 2) 3 1 (.slice a f c) f (ints (en.take f)) := by
  have h1 := h.own
  rw [← hm] at h1
  have h2 := own_take h1 hf
  rw [ints_take] at h2
  exact (owns_other h2 (a := ⟨w.heap.size + 1, i, none⟩) (own_ge h2 (by show w.heap.size + 1 < _; omega)) u).alloc o
theorem own_block (a : Option Addr) (m f c : Nat) : (Value.slice a m c).ownBlock = (Value.slice a f c).ownBlock := by cases a <;> rfl
theorem cell1_new {W : World} {g : Nat} (hg : g = W.heap.size) (a : Value) (t : TypeId) : ∀ j u, [a][j]? = some u → (W.alloc (.cells #[a] t)).cell? ((⟨g, 0, none⟩ : Addr).add j) = some u := by
  intro j u hj
  subst hg
  have ea : (⟨W.heap.size, 0, none⟩ : Addr).add j = ⟨W.heap.size, j, none⟩ := by simp [Addr.add_lit]
  rw [ea]
  have hh := heap_alloc_new W (.cells #[a] t)
  simp only [World.cell?, hh]
  simpa using hj
theorem rs_opens {w wr : World} {nv fv v : Value} {N i : Nat} {en os : List Nat} (h : RS w wr nv fv N v en os i) {k : Nat} (hk : k < i) (hN : k < N := by assumption) : wr.cell? ⟨w.heap.size + 1, k, none⟩ = some (.int .i64 (os.getD k 0 : Nat)) := by
  have hl : (ints os).length = i := by simp [h.hos]
  have hko : k < os.length := by rw [h.hos]; exact hk
  rw [h.opn.cellAt k (by omega), List.getElem?_append_left (by omega), List.getElem?_map, List.getD, List.getElem?_eq_getElem hko]
  rfl
theorem box5 {w : World} {b : Nat} {x0 x1 x2 x3 x4 : Value} (h : Box w b [x0, x1, x2, x3, x4]) : w.cell? ⟨b, 0, none⟩ = some x0 ∧ w.cell? ⟨b, 1, none⟩ = some x1 ∧ w.cell? ⟨b, 2, none⟩ = some x2 ∧ w.cell? ⟨b, 3, none⟩ = some x3 ∧ w.cell? ⟨b, 4, none⟩ = some x4 :=
  ⟨h.cell 0 _ rfl, h.cell 1 _ rfl, h.cell 2 _ rfl, h.cell 3 _ rfl, h.cell 4 _ rfl⟩
theorem under_drew {W w1 : World} (h : Below W.drew.heap.size W.drew w1) : Below W.heap.size W w1 := ⟨h.os, h.tape, h.output, h.size, h.block⟩
theorem slice_own {w : World} {base : Nat} {a : Option Addr} {m c f : Nat} {en : List Nat} (h : w.ownsRow base 3 1 (.slice a m c) en.length (ints en)) (hm : m = en.length) (hf : f ≤ m) : ∃ V : Value, (∀ W, (Instr.slice 44 (.slice a m c) (some (.int .i64 (f : Int))) none none).run Tryz.prog W = .ok V W) ∧ (∀ W, (Instr.slice 44 (.slice a m c) none (some (.int .i64 (f : Int))) none).run Tryz.prog W = .ok (.slice a f c) W) ∧ ∀ W, W.ownsRow base 3 1 (.slice a m c) m (ints en) → IntsAt W V (asInts (en.drop f)) := by
  have hs : ∀ W : World, (sizeOf (Tryz.prog.elem 44)).run Tryz.prog W = .ok 1 W := fun W => by kernel_rfl
  have hu : Tryz.prog.underlying 44 = some (.slice (Tryz.prog.elem 44)) := by kernel_rfl
  have hc : m ≤ c := by
    rcases h.2 with ⟨hv, h0⟩ | ⟨g, cap, cur, hv, _, _, h1, _⟩
    · cases hv; omega
    · cases hv; omega
  refine ⟨sliced a f m c 1, fun W => ?_, fun W => ?_, fun W hW => ?_⟩
  · rw [run_slice_l W 44 a m c hu .i64 f (by omega) (by omega), hs]
    simp [Result.andThen]
  · rw [run_slice_h W 44 a m c hu .i64 f (by omega) (by omega), hs]
    simp only [Result.andThen, sliced]
    rcases h.2 with ⟨hv, h0⟩ | ⟨g, cap, cur, hv, _⟩
    · cases hv
      simp
    · cases hv
      simp [Addr.add_lit]
  · rcases hW.2 with ⟨hv, h0⟩ | ⟨g, cap, cur, hv, _⟩
    · cases hv
      obtain rfl : f = 0 := by omega
      have he : en = [] := List.eq_nil_of_length_eq_zero (by omega)
      subst he
      exact ⟨none, 0, rfl, .inl rfl⟩
    · cases hv
      subst hm
      refine ints_drop hW (f := f) rfl ?_
      by_cases hcf : c = f
      · left; omega
      · right
        rw [if_neg hcf]
        simp [Addr.add_lit]
theorem drop_node {ns : List Nr} {i : Nat} (hi : i < ns.length) : ns.drop i = nodeAt ns (i : Int) :: ns.drop (i + 1) := by
  rw [List.drop_eq_getElem_cons hi]
  congr 1
  unfold nodeAt
  rw [Int.toNat_natCast, List.getD, List.getElem?_eq_getElem hi]
  rfl
theorem right_stop {ns : List Nr} {i : Nat} {en os : List Nat} (hi : i < ns.length) (h : ¬ ((nodeAt ns (i : Int)).kids.length ≤ en.length ∧ asInts (en.drop (en.length - (nodeAt ns (i : Int)).kids.length)) = (nodeAt ns (i : Int)).kids ∧ fieldsB (nodeAt ns (i : Int)) = true ∧ kidsB ns (nodeAt ns (i : Int)) = true)) : rightN ns (ns.drop i) i en os = none := by
  rw [drop_node hi]
  unfold rightN
  rw [if_neg h]
theorem right_go {ns : List Nr} {i : Nat} {en os : List Nat} (hi : i < ns.length) (h : (nodeAt ns (i : Int)).kids.length ≤ en.length ∧ asInts (en.drop (en.length - (nodeAt ns (i : Int)).kids.length)) = (nodeAt ns (i : Int)).kids ∧ fieldsB (nodeAt ns (i : Int)) = true ∧ kidsB ns (nodeAt ns (i : Int)) = true) :
    rightN ns (ns.drop i) i en os = rightN ns (ns.drop (i + 1)) (i + 1) (en.take (en.length - (nodeAt ns (i : Int)).kids.length) ++ [i]) (os ++ [opensN ns os (nodeAt ns (i : Int))]) := by
  rw [drop_node hi]
  conv => lhs; unfold rightN
  rw [if_pos h]
theorem right_none {ns : List Nr} {fs : List Fr} (h : rightN ns ns 0 [] [] = none) : rightT ns fs = false := by
  unfold rightT
  rw [h]
set_option maxRecDepth 100000 in
set_option maxHeartbeats 4000000 in
theorem right_any' (nv fv : Value) (kvs pvs : List Value) (ns : List Nr) (fs : List Fr) (w : World) (hT : TreeAt w nv fv kvs pvs ns fs) (hO : OpsAt w 1) (hS : ShapesAt w) (h1 : 1 < w.heap.size) :
    Calls Tryz.prog 10 #[.agg #[nv, fv]] w fun e w' => e = .returned (.bool (rightT ns fs)) ∧ Below w.heap.size w w' := by
  obtain ⟨na, nc, rfl, hn⟩ := hT.nods
  obtain ⟨fa, fc, rfl, hf⟩ := hT.funs
  obtain ⟨i3, hi3, hz0, hz1, hz2⟩ := info_parts (show (Tryz.prog.info? 3).map (fun i => (i.zero, i.size, i.bytes)) = some (some (.int .i64 0), 1, 8) by kernel_rfl)
  have HTB : Hid (Below w.heap.size w (w.alloc (.cells #[.slice na ns.length nc, .slice fa fs.length fc] 32)) ∧ Box (w.alloc (.cells #[.slice na ns.length nc, .slice fa fs.length fc] 32)) w.heap.size [.slice na ns.length nc, .slice fa fs.length fc]) := ⟨nBelow _ _ _, Box.new w _ 32⟩
  have HNL : Hid (ns.length ≤ 400000000) := hT.nl
  obtain ⟨wM, hmk, hoM, hgM⟩ := run_make_full (P := Tryz.prog) (w.alloc (.cells #[.slice na ns.length nc, .slice fa fs.length fc] 32)) (w.heap.size + 1) 44 3 i3 (.int .i64 0) 1 Tryz.underlying44 hi3 hz0 hz1 .i64 .i64 ns.length (by rw [hz2]; have := hT.nl; omega) (by have := hT.nl; unfold maxLen; omega) (by simp)
  have hM1 : (w.alloc (.cells #[.slice na ns.length nc, .slice fa fs.length fc] 32)).heap.size = w.heap.size + 1 := by simp
  rw [hM1] at hmk hoM
  obtain ⟨R, hR⟩ : ∃ R, R = rightT ns fs := ⟨_, rfl⟩
  rw [← hR]
  have HR : Hid (R = rightT ns fs) := hR
  have HM : Hid (wM.ownsRow (w.heap.size + 1) 3 1 (.slice (some ⟨w.heap.size + 1, 0, none⟩) ns.length ns.length) ns.length (madeCells (Value.int .i64 0).cells (ns.length * 1)).toList ∧ (w.alloc (.cells #[.slice na ns.length nc, .slice fa fs.length fc] 32)).grownBy wM none) := ⟨hoM, hgM⟩
  have mt := (HTB.out.2.same (w' := wM) (hgM.block _ (by simp) (by simp)))
  have mt0 := mt.cell 0 _ rfl
  have mt1 := mt.cell 1 _ rfl
  clear hoM hgM hR
  have HRS : Hid (RS w wM (.slice na ns.length nc) (.slice fa fs.length fc) ns.length (.slice none 0 0) [] [] 0) := rs_start HTB.out.1 HTB.out.2 HM.out.1 HM.out.2
  have HTT : Hid _ := hT
  have HOS : Hid (OpsAt w 1 ∧ ShapesAt w) := ⟨hO, hS⟩
  have HNN : Hid _ := hn
  have HFF : Hid _ := hf
  have HI3 : Hid (Tryz.prog.info? 3 = some i3 ∧ i3.zero = some (.int .i64 0) ∧ i3.size = 1 ∧ i3.bytes = 8) := ⟨hi3, hz0, hz1, hz2⟩
  clear HM HTB mt hT hO hS hn hf hM1 hi3 hz0 hz1 hz2
  go_enter Tryz.func10, Tryz.ntmps10
  go_wp2
  clear mt0 mt1 hmk
  go_loopw [3, 17] (fun v3 vi wr => ∃ (i m c : Nat) (a : Option Addr) (en os : List Nat), v3 = .slice a m c ∧ vi = .int .i64 i ∧ i ≤ ns.length ∧ Hid (m = en.length ∧ RS w wr (.slice na ns.length nc) (.slice fa fs.length fc) ns.length (.slice a m c) en os i ∧ rightN ns ns 0 [] [] = rightN ns (ns.drop i) i en os)) (fun _ vi _ => ns.length - (intOf vi).toNat)
  case atStart => exact ⟨0, 0, 0, none, [], [], rfl, rfl, by omega, rfl, HRS.out, rfl⟩
  case round =>
    obtain ⟨i, m, c, a, en, os, rfl, rfl, hi, hq⟩ := hrel
    clear HRS
    by_cases hin : i < ns.length
    · have hin' : (i : Int) < ns.length := by omega
      obtain ⟨g, og, rfl, hN⟩ : ∃ g o, na = some ⟨g, o, none⟩ ∧ NodesAt w g o kvs ns := by
        rcases HNN.out with h | h
        · rw [h] at hin; simp at hin
        · exact h
      obtain ⟨ka, kc, n0, n1, n2, n3, n4, n5, n6, n7, hK⟩ := node_cells hN hin
      have hrs := hq.out.2.1
      have cc : ∀ j, wr.cell? ⟨g, j, none⟩ = w.cell? ⟨g, j, none⟩ := fun j => hrs.bel.cell (p := ⟨g, j, none⟩) hN.lt
      rw [← cc] at n0 n1 n2 n3 n4 n5 n6 n7
      have hgw : g < wr.heap.size := Nat.lt_of_lt_of_le hN.lt hrs.bel.size
      have t0 := hrs.tree.cell 0 _ rfl
      have tl := hrs.tree.lt
      have HK : Hid (IntsAt w (.slice ka (nodeAt ns (i : Int)).kids.length kc) (nodeAt ns (i : Int)).kids) := hK
      have HN : Hid _ := hN
      have HRS : Hid _ := hrs
      have HEN : Hid (m = en.length) := hq.out.1
      have HX : Hid _ := hq.out.2.2
      have hm1 : (m : Int) ≤ 400000000 := by have := hrs.enl; have := hq.out.1; have := HNL.out; omega
      have hkl : ((nodeAt ns (i : Int)).kids.length : Int) < 1152921504606846976 := by
        have := (HTT.out.nok (nodeAt ns (i : Int)) (by unfold nodeAt; rw [Int.toNat_natCast, List.getD, List.getElem?_eq_getElem hin]; exact List.getElem_mem hin)).2.2.1
        omega
      have HWA : Hid (Below wr.heap.size wr (wr.alloc (.cells (nArr (nodeAt ns (i : Int)).kind (nodeAt ns (i : Int)).pl (nodeAt ns (i : Int)).name (nodeAt ns (i : Int)).typ (nodeAt ns (i : Int)).op (nodeAt ns (i : Int)).bits (nodeAt ns (i : Int)).size ka (nodeAt ns (i : Int)).kids.length kc) 46))) := nBelow _ _ _
      have HWB : Hid (Box (wr.alloc (.cells (nArr (nodeAt ns (i : Int)).kind (nodeAt ns (i : Int)).pl (nodeAt ns (i : Int)).name (nodeAt ns (i : Int)).typ (nodeAt ns (i : Int)).op (nodeAt ns (i : Int)).bits (nodeAt ns (i : Int)).size ka (nodeAt ns (i : Int)).kids.length kc) 46)) wr.heap.size [.int .u8 (nodeAt ns (i : Int)).kind, .int .i64 (nodeAt ns (i : Int)).pl, .string (nodeAt ns (i : Int)).name, .int .u8 (nodeAt ns (i : Int)).typ, .int .u8 (nodeAt ns (i : Int)).op, .int .u64 (nodeAt ns (i : Int)).bits, .int .i64 (nodeAt ns (i : Int)).size, .slice ka (nodeAt ns (i : Int)).kids.length kc]) := Box.new wr _ 46
      clear hK hN hrs hq cc
      by_cases hfirst : m < (nodeAt ns (i : Int)).kids.length
      · have hneg : (m : Int) - ((nodeAt ns (i : Int)).kids.length : Int) < 0 := by omega
        have HF : Hid (R = false) := HR.out.trans (right_none (HX.out.trans (right_stop hin (fun hh => by have := hh.1; have := HEN.out; omega))))
        go_wp2
        go_quiet (fail)
        go_wp2
        go_ret
        exact ⟨ret_bool HF.out.symm, by first | exact HRS.out.bel.trans (HWA.out.mono HRS.out.bel.size) | exact (HRS.out.bel.trans (HWA.out.mono HRS.out.bel.size)).trans ⟨rfl, rfl, rfl, Nat.le_refl _, fun _ _ => rfl⟩⟩
      · have hge : ¬ (m : Int) - ((nodeAt ns (i : Int)).kids.length : Int) < 0 := by omega
        obtain ⟨f, hf⟩ : ∃ f : Nat, (m : Int) - ((nodeAt ns (i : Int)).kids.length : Int) = f := ⟨m - (nodeAt ns (i : Int)).kids.length, by omega⟩
        have hfm : (f : Int) ≤ m := by omega
        obtain ⟨V, hsl, hsh, hV⟩ : ∃ V : Value, (∀ W, (Instr.slice 44 (.slice a m c) (some (.int .i64 (f : Int))) none none).run Tryz.prog W = .ok V W) ∧ (∀ W, (Instr.slice 44 (.slice a m c) none (some (.int .i64 (f : Int))) none).run Tryz.prog W = .ok (.slice a f c) W) ∧ ∀ W, W.ownsRow (w.heap.size + 2) 3 1 (.slice a m c) m (ints en) → IntsAt W V (asInts (en.drop f)) := slice_own HRS.out.own HEN.out (by omega)
        have HV : Hid _ := hV
        clear hV
        have HEQ : Hid (∀ W, RS w W (.slice (some ⟨g, og, none⟩) ns.length nc) (.slice fa fs.length fc) ns.length (.slice a m c) en os i → IntsAt W (.slice ka (nodeAt ns (i : Int)).kids.length kc) (nodeAt ns (i : Int)).kids → Calls Tryz.prog 25 #[V, .slice ka (nodeAt ns (i : Int)).kids.length kc] W fun e w' => e = .returned (.bool (decide (asInts (en.drop f) = (nodeAt ns (i : Int)).kids))) ∧ Below W.heap.size W w') := fun W hW hk =>
          equal_any _ _ _ _ W (HV.out W (by have := hW.own; rwa [← HEN.out] at this)) hk (by have := HRS.out.enl; have := HNL.out; simp; omega)
        have HRD : Hid (RS w (wr.alloc (.cells (nArr (nodeAt ns (i : Int)).kind (nodeAt ns (i : Int)).pl (nodeAt ns (i : Int)).name (nodeAt ns (i : Int)).typ (nodeAt ns (i : Int)).op (nodeAt ns (i : Int)).bits (nodeAt ns (i : Int)).size ka (nodeAt ns (i : Int)).kids.length kc) 46)).drew (.slice (some ⟨g, og, none⟩) ns.length nc) (.slice fa fs.length fc) ns.length (.slice a m c) en os i) := (HRS.out.below HWA.out).below ⟨rfl, rfl, rfl, Nat.le_refl _, fun _ _ => rfl⟩
        have HKD : Hid (IntsAt (wr.alloc (.cells (nArr (nodeAt ns (i : Int)).kind (nodeAt ns (i : Int)).pl (nodeAt ns (i : Int)).name (nodeAt ns (i : Int)).typ (nodeAt ns (i : Int)).op (nodeAt ns (i : Int)).bits (nodeAt ns (i : Int)).size ka (nodeAt ns (i : Int)).kids.length kc) 46)).drew (.slice ka (nodeAt ns (i : Int)).kids.length kc) (nodeAt ns (i : Int)).kids) := (HK.out.below (HRS.out.bel.mono (Nat.le_refl _))).below (HWA.out.trans ⟨rfl, rfl, rfl, Nat.le_refl _, fun _ _ => rfl⟩)
        obtain ⟨bq, hbq⟩ : ∃ bq, bq = decide (asInts (en.drop f) = (nodeAt ns (i : Int)).kids) := ⟨_, rfl⟩
        rw [← hbq] at HEQ
        have HBQ : Hid _ := hbq
        clear hbq
        go_wp2
        go_cut [17, 38] from 17 to 63 (fun v17 v38 wc => v17 = .int .i64 (i : Int) ∧ v38 = .bool (!bq) ∧ Hid (RS w wc (.slice (some ⟨g, og, none⟩) ns.length nc) (.slice fa fs.length fc) ns.length (.slice a m c) en os i ∧ Box wc wr.heap.size [.int .u8 (nodeAt ns (i : Int)).kind, .int .i64 (nodeAt ns (i : Int)).pl, .string (nodeAt ns (i : Int)).name, .int .u8 (nodeAt ns (i : Int)).typ, .int .u8 (nodeAt ns (i : Int)).op, .int .u64 (nodeAt ns (i : Int)).bits, .int .i64 (nodeAt ns (i : Int)).size, .slice ka (nodeAt ns (i : Int)).kids.length kc] ∧ Below wr.heap.size wr wc))
        case first =>
          go_region_with (go_at_call 25; refine Calls.mono (by exact HEQ.out _ HRD.out HKD.out) ?_; rintro e w1 ⟨rfl, hb1⟩; have HR1 : Hid _ := HRD.out.below hb1; have hb2 := under_drew hb1; have HB1 : Hid _ := HWB.out.below hb2; have HB2 : Hid _ := HWA.out.trans (hb2.mono HWA.out.size); clear hb1 hb2)
          all_goals
            go_wp2
            go_meet
            case rel => exact ⟨rfl, rfl, HR1.out, HB1.out, HB2.out⟩
        case rest =>
          obtain ⟨rfl, rfl, hcc⟩ := hcut
          have HRC : Hid (RS w wc (.slice (some ⟨g, og, none⟩) ns.length nc) (.slice fa fs.length fc) ns.length (.slice a m c) en os i) := hcc.out.1
          have HBC : Hid (Box wc wr.heap.size [.int .u8 (nodeAt ns (i : Int)).kind, .int .i64 (nodeAt ns (i : Int)).pl, .string (nodeAt ns (i : Int)).name, .int .u8 (nodeAt ns (i : Int)).typ, .int .u8 (nodeAt ns (i : Int)).op, .int .u64 (nodeAt ns (i : Int)).bits, .int .i64 (nodeAt ns (i : Int)).size, .slice ka (nodeAt ns (i : Int)).kids.length kc]) := hcc.out.2.1
          have HNOK : Hid _ := HTT.out.nok (nodeAt ns (i : Int)) (node_mem hin)
          have HF2 : Hid (f = m - (nodeAt ns (i : Int)).kids.length) := (by omega : f = m - (nodeAt ns (i : Int)).kids.length)
          have HFM : Hid (f ≤ m) := (by omega : f ≤ m)
          clear hcc HEQ HRD HKD HWA HWB n0 n1 n2 n3 n4 n5 n6 n7 t0 hsl hkl hm1
          have hnl : ns.length < 4611686018427387904 := by have := HNL.out; omega
          cases bq with
          | false =>
            have HF : Hid (R = false) := HR.out.trans (right_none (HX.out.trans (right_stop hin (fun hh => by have h2 := hh.2.1; have := HBQ.out; rw [← HEN.out, ← HF2.out] at h2; rw [decide_eq_true h2] at this; cases this))))
            go_wp2
            go_ret
            exact ⟨ret_bool HF.out.symm, HRC.out.bel⟩
          | true =>
            have hE0 : asInts (en.drop f) = (nodeAt ns (i : Int)).kids := of_decide_eq_true HBQ.out.symm
            have HEQL : Hid (asInts (en.drop f) = (nodeAt ns (i : Int)).kids) := hE0
            clear hE0
            have HFD : Hid (∀ W, Below w.heap.size w W → Calls Tryz.prog 26 #[nV (nodeAt ns (i : Int)).kind (nodeAt ns (i : Int)).pl (nodeAt ns (i : Int)).name (nodeAt ns (i : Int)).typ (nodeAt ns (i : Int)).op (nodeAt ns (i : Int)).bits (nodeAt ns (i : Int)).size ka (nodeAt ns (i : Int)).kids.length kc] W fun e w' => e = .returned (.bool (fieldsB (nodeAt ns (i : Int)))) ∧ Below W.heap.size W w') := fun W hb =>
              rightFields_any (nodeAt ns (i : Int)) ka kc W (HOS.out.2.same fun j => hb.cell (p := ⟨0, j, none⟩) (by show 0 < _; omega)) (by have := hb.size; omega) HNOK.out.1 HNOK.out.2.1 HNOK.out.2.2.2
            obtain ⟨b0, b1, b2, b3, b4, b5, b6, b7⟩ := box8 HBC.out
            have v0 := HRC.out.tree.cell 0 _ rfl
            cases hfb : fieldsB (nodeAt ns (i : Int)) with
            | false =>
              rw [hfb] at HFD
              have HF : Hid (R = false) := HR.out.trans (right_none (HX.out.trans (right_stop hin (fun hh => by have h2 := hh.2.2.1; rw [hfb] at h2; cases h2))))
              clear hfb
              go_wp2_with (go_at_call 26; refine Calls.mono (by exact HFD.out _ HRC.out.bel) ?_; rintro e w2 ⟨rfl, hb2⟩; have HR2 : Hid _ := HRC.out.below hb2; clear hb2)
              go_ret
              exact ⟨ret_bool HF.out.symm, HR2.out.bel⟩
            | true =>
              rw [hfb] at HFD
              obtain ⟨kk, hkk, hk21⟩ : ∃ kk : Nat, (nodeAt ns (i : Int)).kind = kk ∧ kk ≤ 21 := fields_kind hfb HNOK.out.2.2.2
              have HRG : Hid (∀ x ∈ (nodeAt ns (i : Int)).kids, 0 ≤ x ∧ x < (i : Int)) := fun x hx => by
                rw [← HEQL.out] at hx
                obtain ⟨e, he, rfl⟩ := List.mem_map.1 hx
                have := HRC.out.hen e (List.mem_of_mem_drop he)
                omega
              have HKS : Hid (∀ W, Below w.heap.size w W → Calls Tryz.prog 27 #[.slice (some ⟨g, og, none⟩) ns.length nc, nV (nodeAt ns (i : Int)).kind (nodeAt ns (i : Int)).pl (nodeAt ns (i : Int)).name (nodeAt ns (i : Int)).typ (nodeAt ns (i : Int)).op (nodeAt ns (i : Int)).bits (nodeAt ns (i : Int)).size ka (nodeAt ns (i : Int)).kids.length kc] W fun e w' => e = .returned (.bool (kidsB ns (nodeAt ns (i : Int)))) ∧ Below W.heap.size W w') := fun W hb => by
                have := rightKids_at ns g og nc kvs kk (nodeAt ns (i : Int)).pl (nodeAt ns (i : Int)).name (nodeAt ns (i : Int)).typ (nodeAt ns (i : Int)).op (nodeAt ns (i : Int)).bits (nodeAt ns (i : Int)).size ka kc (nodeAt ns (i : Int)).kids W hk21 (HN.out.below hb) (HOS.out.2.same fun j => hb.cell (p := ⟨0, j, none⟩) (by show 0 < _; omega)) (by have := hb.size; omega) (HK.out.below hb) (fun x hx => by have := HRG.out x hx; omega) (by have := HNOK.out.2.2.1; omega)
                unfold kidsB
                rw [hkk]
                exact this
              cases hkb : kidsB ns (nodeAt ns (i : Int)) with
              | false =>
                rw [hkb] at HKS
                have HF : Hid (R = false) := HR.out.trans (right_none (HX.out.trans (right_stop hin (fun hh => by have h2 := hh.2.2.2; rw [hkb] at h2; cases h2))))
                clear hkb hfb hkk
                go_wp2_with (first | (go_at_call 26; refine Calls.mono (by exact HFD.out _ HRC.out.bel) ?_; rintro e w2 ⟨rfl, hb2⟩; have HR2 : Hid _ := HRC.out.below hb2; have HB2 : Hid _ := HBC.out.below hb2; have x0 := HR2.out.tree.cell 0 _ rfl; obtain ⟨d0, d1, d2, d3, d4, d5, d6, d7⟩ := box8 HB2.out; clear hb2) | (go_at_call 27; refine Calls.mono (by exact HKS.out _ HR2.out.bel) ?_; rintro e w3 ⟨rfl, hb3⟩; have HR3 : Hid _ := HR2.out.below hb3; clear hb3))
                go_ret
                exact ⟨ret_bool HF.out.symm, HR3.out.bel⟩
              | true =>
                rw [hkb] at HKS
                have HGO : Hid _ := HX.out.trans (right_go hin ⟨by have := HEN.out; omega, by rw [← HEN.out, ← HF2.out]; exact HEQL.out, hfb, hkb⟩)
                have HOP : Hid (∀ W, RS w W (.slice (some ⟨g, og, none⟩) ns.length nc) (.slice fa fs.length fc) ns.length (.slice a m c) en os i → Calls Tryz.prog 28 #[.slice (some ⟨g, og, none⟩) ns.length nc, .slice (some ⟨w.heap.size + 1, 0, none⟩) ns.length ns.length, nV (nodeAt ns (i : Int)).kind (nodeAt ns (i : Int)).pl (nodeAt ns (i : Int)).name (nodeAt ns (i : Int)).typ (nodeAt ns (i : Int)).op (nodeAt ns (i : Int)).bits (nodeAt ns (i : Int)).size ka (nodeAt ns (i : Int)).kids.length kc] W fun e w' => e = .returned (.int .i64 (opensN ns os (nodeAt ns (i : Int)) : Nat)) ∧ Below W.heap.size W w') := fun W hW => by
                  have hb := hW.bel
                  have := opens_at ns g og nc kvs (w.heap.size + 1) 0 ns.length os ns.length (nodeAt ns (i : Int)).kind (nodeAt ns (i : Int)).pl (nodeAt ns (i : Int)).name (nodeAt ns (i : Int)).typ (nodeAt ns (i : Int)).op (nodeAt ns (i : Int)).bits (nodeAt ns (i : Int)).size ka kc (nodeAt ns (i : Int)).kids W (HN.out.below hb) (fun q e he => by
                    have hx : ∀ j, W.cell? ⟨1, j, none⟩ = w.cell? ⟨1, j, none⟩ := fun j => hb.cell (p := ⟨1, j, none⟩) h1
                    rw [hx, hx, hx, hx]
                    exact HOS.out.1 q e he) (by have := hb.size; omega) (by have := hW.sz; omega) (fun j x hj => by
                      have hjl := (List.getElem?_eq_some_iff.1 hj).1
                      rw [hW.hos] at hjl
                      rw [Nat.zero_add, hW.opn.cellAt j (by omega), List.getElem?_append_left (by simp; rw [hW.hos]; exact hjl), List.getElem?_map, hj]
                      rfl) (by rw [hW.hos]; omega) (fun x hx => by have := hW.hbd x hx; have := HNL.out; omega) (HK.out.below hb) (fun x hx => by have := HRG.out x hx; rw [hW.hos]; omega) (by have := HNOK.out.2.2.1; omega)
                  exact this
                have HON : Hid (opensN ns os (nodeAt ns (i : Int)) ≤ 2 * (i + 1)) := opensN_le HRC.out.hbd
                clear hkb hfb hkk HX
                generalize opensN ns os (nodeAt ns (i : Int)) = ox at HGO HOP HON
                go_wp2_with (first | (go_at_call 26; refine Calls.mono (by exact HFD.out _ HRC.out.bel) ?_; rintro e w2 ⟨rfl, hb2⟩; have HR2 : Hid _ := HRC.out.below hb2; have HB2 : Hid _ := HBC.out.below hb2; have x0 := HR2.out.tree.cell 0 _ rfl; obtain ⟨d0, d1, d2, d3, d4, d5, d6, d7⟩ := box8 HB2.out; clear hb2) | (go_at_call 27; refine Calls.mono (by exact HKS.out _ HR2.out.bel) ?_; rintro e w3 ⟨rfl, hb3⟩; have HR3 : Hid _ := HR2.out.below hb3; have HB3 : Hid _ := HB2.out.below hb3; have y0 := HR3.out.tree.cell 0 _ rfl; obtain ⟨e0, e1, e2, e3, e4, e5, e6, e7⟩ := box8 HB3.out; clear hb3) | (go_at_call 28; refine Calls.mono (by exact HOP.out _ HR3.out) ?_; rintro e w4 ⟨rfl, hb4⟩; have HR4 : Hid (RS w w4 (.slice (some ⟨g, og, none⟩) ns.length nc) (.slice fa fs.length fc) ns.length (.slice a m c) en os i) := HR3.out.below hb4; have o1 : w4.cell? ⟨w.heap.size + 1, i, none⟩ = some (.int .i64 0) := rs_zero HR4.out hin; have o2 := HR4.out.opn.frozenAt i; have o3 : w.heap.size + 1 < w4.heap.size := (by have := HR4.out.sz; omega); have HO5 : Hid (((w4.setCell ⟨w.heap.size + 1, i, none⟩ (.int .i64 (ox : Int))).alloc (.cells #[.int .i64 (i : Int)] 3)).ownsRow (w.heap.size + 2) 3 1 (.slice a f c) f (ints (en.take f))) := own_five HR4.out HEN.out HFM.out; clear hb4) | (at_builtin; refine wpList_append_own _ rfl _ _ 44 rfl (w.heap.size + 2) 3 i3 (.int .i64 0) 1 8 Tryz.underlying44 HI3.out.1 HI3.out.2.1 HI3.out.2.2.1 HI3.out.2.2.2 rfl (by decide) _ _ _ rfl HO5.out ⟨w4.heap.size, 0, none⟩ 1 1 [natV i] rfl rfl ?e1 ?e2 ?e3 ?e4 ?e5 ?_))
                case e1 => exact cell1_new (by simp [World.setCell]) _ _
                case e2 => intro u hu; simp at hu; subst hu; rfl
                case e3 => have := HRC.out.enl; have := HNL.out; have := HEN.out; have := HFM.out; unfold maxLen; omega
                case e4 => have := HRC.out.enl; have := HNL.out; have := HEN.out; have := HFM.out; omega
                case e5 => have := HR4.out.sz; simp [World.setCell]; omega
                intro v' w5 hown' hgrow _
                obtain ⟨a', m', c', rfl, hm'⟩ := own_len hown'
                have HS : Hid (RS w w5 (.slice (some ⟨g, og, none⟩) ns.length nc) (.slice fa fs.length fc) ns.length (.slice a' m' c') (en.take f ++ [i]) (os ++ [ox]) (i + 1)) := HR4.out.step hin HON.out (by have := HEN.out; have := HFM.out; omega) (nBelow _ _ _) (by rw [own_block a m f c]; exact hgrow) (by rw [← ints_take]; exact hown')
                have HML : Hid (m' = (en.take f ++ [i]).length) := by
                  show m' = _
                  rw [hm', List.length_append, List.length_take]
                  have := HEN.out; have := HFM.out
                  simp
                  omega
                have HG2 : Hid _ := HGO.out
                clear hown' hgrow hm' HGO
                go_wp2
                go_roundw
                case rel => exact ⟨i + 1, m', c', a', _, _, rfl, by first | rfl | (congr 1; omega), by omega, HML.out, HS.out, by rw [HG2.out, ← HEN.out, ← HF2.out]⟩
                case measure => simp [intOf]; omega
    · obtain rfl : i = ns.length := by omega
      have HRC : Hid (RS w wr (.slice na ns.length nc) (.slice fa fs.length fc) ns.length (.slice a m c) en os ns.length) := hq.out.2.1
      have HEN : Hid (m = en.length) := hq.out.1
      have HRR : Hid (R = (decide (en.length = fs.length) && fnsR ns os fs en)) := by
        have h2 := hq.out.2.2
        rw [List.drop_length] at h2
        show R = _
        rw [HR.out]
        unfold rightT
        rw [h2]
        rfl
      have v1 := HRC.out.tree.cell 1 _ rfl
      have tl := HRC.out.tree.lt
      have HFL : Hid (fs.length < 1152921504606846976) := HTT.out.fl
      clear hq hin HR
      by_cases hel : en.length = fs.length
      · have hml : (m : Int) = fs.length := by have := HEN.out; omega
        have hmf : m = fs.length := by have := HEN.out; omega
        have HR2 : Hid (R = fnsR ns os (fs.drop 0) (en.drop 0)) := by have := HRR.out; rw [decide_eq_true hel, Bool.true_and] at this; exact this
        clear HRR hml
        subst hmf
        go_wp2
        go_loopw [73] (fun vj wx => ∃ j : Nat, vj = .int .i64 j ∧ j ≤ fs.length ∧ Hid (R = fnsR ns os (fs.drop j) (en.drop j) ∧ RS w wx (.slice na ns.length nc) (.slice fa fs.length fc) ns.length (.slice a fs.length c) en os ns.length)) (fun vj _ => fs.length - (intOf vj).toNat)
        case atStart => exact ⟨0, rfl, by omega, HR2.out, HRC.out⟩
        case round =>
          obtain ⟨j, rfl, hj, hq⟩ := hrel
          have HWX : Hid (RS w wr (.slice na ns.length nc) (.slice fa fs.length fc) ns.length (.slice a fs.length c) en os ns.length) := hq.out.2
          have HRJ : Hid (R = fnsR ns os (fs.drop j) (en.drop j)) := hq.out.1
          clear hq HRC HR2 v1 tl
          by_cases hjn : j < fs.length
          · have hjn' : (j : Int) < fs.length := by omega
            obtain ⟨gf, of, rfl, hF⟩ : ∃ g o, fa = some ⟨g, o, none⟩ ∧ FunsAt w g o pvs fs := by
              rcases HFF.out with h | h
              · rw [h] at hjn; simp at hjn
              · exact h
            have ef : fs[j]? = some fs[j] := List.getElem?_eq_getElem hjn
            have ep : pvs[j]? = some (pvs[j]'(by rw [hF.len]; exact hjn)) := List.getElem?_eq_getElem _
            have hee : j < en.length := by omega
            have ee : en[j]? = some en[j] := List.getElem?_eq_getElem hee
            obtain ⟨fc0, fc1, fc2, fc3, fc4⟩ := hF.cell j _ _ ef ep
            have hPA := hF.par j _ _ ef ep
            obtain ⟨hfn, hfp, hfl⟩ := HTT.out.fok _ (List.getElem_mem hjn)
            have HD : Hid (R = ((fs[j].body == (en[j] : Int)) && ((nodeAt ns fs[j].body).kind == 21) && decide (os.getD fs[j].body.toNat 0 ≤ 32) && headB fs[j] && fnsR ns os (fs.drop (j + 1)) (en.drop (j + 1)))) := by
              have := HRJ.out
              rw [List.drop_eq_getElem_cons hjn, List.drop_eq_getElem_cons hee] at this
              exact this
            have HEL : Hid (en[j] < ns.length) := HWX.out.hen _ (List.getElem_mem hee)
            have hhb : headB fs[j] = (parsB fs[j].pars && (nameB fs[j].name && typedB fs[j].res)) := rfl
            rw [hhb] at HD
            clear hhb
            have ga : ∃ ga, a = some ⟨ga, 0, none⟩ ∧ wr.cell? ⟨ga, j, none⟩ = some (.int .i64 (en[j] : Int)) ∧ ga < wr.heap.size := by
              have ho := HWX.out.own
              rw [hel] at ho
              rcases ho.2 with ⟨hv, h0⟩ | ⟨ga, cap, cur, hv, _⟩
              · omega
              · cases hv
                refine ⟨ga, rfl, ?_, (ho.lt ga rfl).2⟩
                rw [ho.cellAt j (by omega), List.getElem?_map, ee]
                rfl
            obtain ⟨ga, rfl, gc, gl⟩ := ga
            generalize pvs[j]'(by rw [hF.len]; exact hjn) = pv at fc2 hPA
            generalize fs[j] = fq at fc0 fc1 fc2 fc3 fc4 hPA hfn hfp hfl HD
            obtain ⟨fnm, fpl, fps, fres, fbody⟩ := fq
            dsimp only at fc0 fc1 fc2 fc3 fc4 hPA hfn hfp hfl HD
            obtain ⟨pa, pc, rfl, hPB⟩ := hPA
            have HPA : Hid (ParsAt w (.slice pa fps.length pc) fps) := ⟨pa, pc, rfl, hPB⟩
            have cf : ∀ q, wr.cell? ⟨gf, q, none⟩ = w.cell? ⟨gf, q, none⟩ := fun q => HWX.out.bel.cell (p := ⟨gf, q, none⟩) hF.lt
            rw [← cf] at fc0 fc1 fc2 fc3 fc4
            have hgf : gf < wr.heap.size := Nat.lt_of_lt_of_le hF.lt HWX.out.bel.size
            generalize en[j] = ej at gc HD HEL
            have HOK : Hid _ := And.intro hfn (And.intro hfp hfl)
            have HWA : Hid (Below wr.heap.size wr (wr.alloc (.cells #[.string fnm, .int .i64 fpl, .slice pa fps.length pc, .int .u8 fres, .int .i64 fbody] 49))) := nBelow _ _ _
            have HWB : Hid (Box (wr.alloc (.cells #[.string fnm, .int .i64 fpl, .slice pa fps.length pc, .int .u8 fres, .int .i64 fbody] 49)) wr.heap.size [.string fnm, .int .i64 fpl, .slice pa fps.length pc, .int .u8 fres, .int .i64 fbody]) := Box.new wr _ 49
            have tl := HWX.out.tree.lt
            have t0 := HWX.out.tree.cell 0 _ rfl
            have hnl : ns.length < 4611686018427387904 := by have := HNL.out; omega
            clear hF ef ep ee hPB cf HRJ hfn hfp hfl
            by_cases hb1 : fbody = (ej : Int)
            · subst hb1
              obtain ⟨g, og, rfl, hN⟩ : ∃ g o, na = some ⟨g, o, none⟩ ∧ NodesAt w g o kvs ns := by
                rcases HNN.out with h | h
                · have := HEL.out; rw [h] at this; simp at this
                · exact h
              have kc := node_kind hN HEL.out
              rw [← HWX.out.bel.cell (p := ⟨g, og + ej * 8, none⟩) hN.lt] at kc
              have hgx : g < wr.heap.size := Nat.lt_of_lt_of_le hN.lt HWX.out.bel.size
              have hej : (ej : Int) < ns.length := by have := HEL.out; omega
              have hos : wr.cell? ⟨w.heap.size + 1, ej, none⟩ = some (.int .i64 (os.getD ej 0 : Nat)) := rs_opens HWX.out HEL.out HEL.out
              have hosl : w.heap.size + 1 < wr.heap.size := by have := HWX.out.sz; omega
              rw [Int.toNat_natCast] at HD
              generalize (nodeAt ns (ej : Int)).kind = kd at kc HD
              generalize os.getD ej 0 = ov at hos HD
              clear hN
              by_cases hk2 : kd = 21
              · by_cases ho2 : ov ≤ 32
                · have HHD : Hid (∀ W, Below w.heap.size w W → Calls Tryz.prog 29 #[.agg #[.string fnm, .int .i64 fpl, .slice pa fps.length pc, .int .u8 fres, .int .i64 (ej : Int)]] W fun e w' => e = .returned (.bool (parsB fps && (nameB fnm && typedB fres))) ∧ Below W.heap.size W w') := fun W hb =>
                    rightHead_at fnm fpl fres ej pa pc fps W (HPA.out.below hb) HOK.out.1 HOK.out.2.1 HOK.out.2.2
                  have HD2 : Hid (R = ((parsB fps && (nameB fnm && typedB fres)) && fnsR ns os (fs.drop (j + 1)) (en.drop (j + 1)))) := by
                    have := HD.out
                    rw [hk2, decide_eq_true ho2] at this
                    simp only [beq_self_eq_true, Bool.true_and] at this
                    exact this
                  have ho3 : ¬ (32 : Int) < (ov : Int) := by omega
                  have hd32 : decide ((32 : Int) < (ov : Int)) = false := decide_eq_false ho3
                  have hej0 : (0 : Int) ≤ (ej : Int) := by omega
                  generalize (parsB fps && (nameB fnm && typedB fres)) = hb at HHD HD2
                  subst hk2
                  clear HD ho2
                  have HRD : Hid (RS w (wr.alloc (.cells #[.string fnm, .int .i64 fpl, .slice pa fps.length pc, .int .u8 fres, .int .i64 (ej : Int)] 49)).drew (.slice (some ⟨g, og, none⟩) ns.length nc) (.slice (some ⟨gf, of, none⟩) fs.length fc) ns.length (.slice (some ⟨ga, 0, none⟩) fs.length c) en os ns.length) := (HWX.out.below HWA.out).below ⟨rfl, rfl, rfl, Nat.le_refl _, fun _ _ => rfl⟩
                  go_wp2
                  go_cut [73, 107] from 73 to 108 (fun v73 v107 wc => v73 = .int .i64 (j : Int) ∧ v107 = .bool (!hb) ∧ Hid (RS w wc (.slice (some ⟨g, og, none⟩) ns.length nc) (.slice (some ⟨gf, of, none⟩) fs.length fc) ns.length (.slice (some ⟨ga, 0, none⟩) fs.length c) en os ns.length))
                  case first =>
                    go_region_held3 (fun w' => w'.cell? ⟨wr.heap.size, 0, none⟩ = some (.string fnm) ∧ w'.cell? ⟨wr.heap.size, 1, none⟩ = some (.int .i64 fpl) ∧ w'.cell? ⟨wr.heap.size, 2, none⟩ = some (.slice pa fps.length pc) ∧ w'.cell? ⟨wr.heap.size, 3, none⟩ = some (.int .u8 fres) ∧ w'.cell? ⟨wr.heap.size, 4, none⟩ = some (.int .i64 (ej : Int)) ∧ w'.cell? ⟨ga, j, none⟩ = some (.int .i64 (ej : Int)) ∧ w'.cell? ⟨w.heap.size, 0, none⟩ = some (.slice (some ⟨g, og, none⟩) ns.length nc) ∧ w'.cell? ⟨g, og + ej * 8, none⟩ = some (.int .u8 21) ∧ w'.cell? ⟨w.heap.size + 1, ej, none⟩ = some (.int .i64 (ov : Int))) (go_keep) (first | (go_at_call 29; refine Calls.mono (by exact HHD.out _ HRD.out.bel) ?_; rintro e w1 ⟨rfl, hb1⟩; have HR1 : Hid _ := HRD.out.below hb1; have hb2 := under_drew hb1; obtain ⟨z0, z1, z2, z3, z4⟩ := box5 (HWB.out.below hb2); have hw2 := HWA.out.trans (hb2.mono HWA.out.size); have z5 := (hw2.cell (p := ⟨ga, j, none⟩) gl).trans gc; have z6 := (hw2.cell (p := ⟨w.heap.size, 0, none⟩) tl).trans t0; have z7 := (hw2.cell (p := ⟨g, og + ej * 8, none⟩) hgx).trans kc; have z8 := (hw2.cell (p := ⟨w.heap.size + 1, ej, none⟩) hosl).trans hos; clear hb1 hb2 hw2))
                    all_goals
                      go_wp2
                      go_meet
                      case rel => exact ⟨rfl, rfl, HR1.out⟩
                  case rest =>
                    obtain ⟨rfl, rfl, hcc⟩ := hcut
                    cases hb with
                    | false =>
                      have HF : Hid (R = false) := HD2.out
                      go_wp2
                      go_ret
                      exact ⟨ret_bool HF.out.symm, hcc.out.bel⟩
                    | true =>
                      have HF : Hid (R = fnsR ns os (fs.drop (j + 1)) (en.drop (j + 1))) := by have := HD2.out; rw [Bool.true_and] at this; exact this
                      have hfl2 : fs.length < 4611686018427387904 := by have := HFL.out; omega
                      go_wp2
                      go_roundw
                      case rel => exact ⟨j + 1, by first | rfl | (congr 1; omega), by omega, HF.out, hcc.out⟩
                      case measure => simp [intOf]; omega
                · have HF : Hid (R = false) := by
                    have := HD.out
                    rw [decide_eq_false ho2] at this
                    simp only [Bool.and_false, Bool.false_and] at this
                    exact this
                  have ho3 : (32 : Int) < (ov : Int) := by omega
                  subst hk2
                  clear HD ho2
                  go_wp2
                  go_quiet (fail)
                  go_wp2
                  go_ret
                  exact ⟨ret_bool HF.out.symm, by first | exact HWX.out.bel.trans (HWA.out.mono HWX.out.bel.size) | exact (HWX.out.bel.trans (HWA.out.mono HWX.out.bel.size)).trans ⟨rfl, rfl, rfl, Nat.le_refl _, fun _ _ => rfl⟩⟩
              · have HF : Hid (R = false) := by
                  have := HD.out
                  rw [show (kd == 21) = false by simpa using hk2] at this
                  simp only [Bool.and_false, Bool.false_and] at this
                  exact this
                clear HD
                go_wp2
                go_quiet (fail)
                go_wp2
                go_ret
                exact ⟨ret_bool HF.out.symm, by first | exact HWX.out.bel.trans (HWA.out.mono HWX.out.bel.size) | exact (HWX.out.bel.trans (HWA.out.mono HWX.out.bel.size)).trans ⟨rfl, rfl, rfl, Nat.le_refl _, fun _ _ => rfl⟩⟩
            · have HF : Hid (R = false) := by
                have := HD.out
                rw [show (fbody == (ej : Int)) = false by simpa using hb1] at this
                simp only [Bool.false_and] at this
                exact this
              clear HD
              go_wp2
              go_quiet (fail)
              go_wp2
              go_ret
              exact ⟨ret_bool HF.out.symm, by first | exact HWX.out.bel.trans (HWA.out.mono HWX.out.bel.size) | exact (HWX.out.bel.trans (HWA.out.mono HWX.out.bel.size)).trans ⟨rfl, rfl, rfl, Nat.le_refl _, fun _ _ => rfl⟩⟩
          · obtain rfl : j = fs.length := by omega
            have HF : Hid (R = true) := by have := HRJ.out; rw [List.drop_length] at this; exact this.trans (by unfold fnsR; rfl)
            go_wp2
            go_ret
            exact ⟨ret_bool HF.out.symm, HWX.out.bel⟩
      · have HF : Hid (R = false) := by have := HRR.out; rw [decide_eq_false hel, Bool.false_and] at this; exact this
        have hml : ¬ (m : Int) = fs.length := by have := HEN.out; omega
        clear HRR
        go_wp2
        go_ret
        exact ⟨ret_bool HF.out.symm, HRC.out.bel⟩
end Go.Proofs.YtbejgachdhfakaaGreatDoor
