/- What is right of a graph: sizes, types, parameters. -/
import Derived.Test.YtajaijilfclhpaaGreatDoorGBoxM
import Derived.Test.YtajaijilfclhpaaGreatDoorShelf
import Derived.Laws.StructEq
namespace Go.Proofs.YtajaijilfclhpaaGreatDoor
open Go.RowKit

theorem nan_zero : nanI 0 = false := by decide
theorem right_zero (t : Int) : rightB t 0 = typedB t := by
 have hc : cutI t 0 = 0 := by
  unfold cutI
  rw [nan_zero]
  repeat' split
  all_goals first | rfl | (simp [IntKind.wrap, IntKind.bits, IntKind.signed, wrap32]; done) | simp_all
 simp [rightB, hc]
theorem isType_any (t : Int) (w : World) : Calls Tryz.prog 177 #[.int .u8 t] w fun e w' => e = .returned (.bool (typedB t)) ∧ w' = w := by
 have hr : ∀ W, Calls Tryz.prog 188 #[.int .u8 t, .int .u64 0] W fun e w' => e = .returned (.bool (typedB t)) ∧ w' = W := fun W => by
  rw [← right_zero]; exact right_any t 0 W ⟨by omega, by omega⟩
 have HR : Hid _ := hr
 clear hr
 go_enter Tryz.func177, Tryz.ntmps177
 go_wp2_with (go_at_call 188; refine Calls.mono (HR.out _) ?_; rintro e wx ⟨rfl, hwx⟩; subst wx)
 go_ret
 exact ⟨rfl, rfl⟩
def isOfB (vars : List Int) (v t : Int) : Bool := inB v vars.length && (vars.getD v.toNat 0 == t) && typedB t
theorem GrAt.openF {w : World} {pv vv av bv : Value} {G : Gr} (h : GrAt w pv vv av bv G) : ∃ pa pc va vc aa ac ba bc, pv = .slice pa G.params.length pc ∧ vv = .slice va G.vars.length vc ∧ av = .slice aa G.arrs.length ac ∧ bv = .slice ba G.blocks.length bc ∧ G.params.length ≤ 140737488355328 ∧ G.vars.length ≤ 140737488355328 ∧ G.arrs.length ≤ 140737488355328 ∧ G.blocks.length ≤ 140737488355328 := by
 obtain ⟨pa, pc, h1, b1⟩ := h.ps.form
 obtain ⟨va, vc, h2, b2, _⟩ := h.vs
 obtain ⟨aa, ac, h3, b3, _⟩ := h.ars
 obtain ⟨ba, bc, h4, b4⟩ := h.bs.form
 exact ⟨pa, pc, va, vc, aa, ac, ba, bc, h1, h2, h3, h4, b1, b2.2, b3.2, b4⟩
set_option maxRecDepth 100000 in
theorem isOf_any (G : Gr) (pv vv av bv : Value) (v t : Int) (w : World) (h : GrAt w pv vv av bv G) :
  Calls Tryz.prog 191 #[.agg #[.string G.name, pv, .int .u8 G.result, vv, av, bv], .int .i64 v, .int .u8 t] w fun e w' => e = .returned (.bool (isOfB G.vars v t)) ∧ Below w.heap.size w w' := by
 obtain ⟨pa, pc, va, vc, aa, ac, ba, bc, rfl, rfl, rfl, rfl, _, hvl, _, _⟩ := h.openF
 have HPL : Hid (∀ W, Calls Tryz.prog 178 #[.int .i64 v, .int .i64 (G.vars.length : Int)] W fun e w' => e = .returned (.bool (inB v G.vars.length)) ∧ w' = W) := fun W => isPlace_any v _ W
 have HT : Hid (∀ W, _) := fun W => isType_any t W
 unfold isOfB
 by_cases hb : inB v G.vars.length = true
 ·obtain ⟨k, hk⟩ : ∃ k : Nat, v = (k : Int) := Int.eq_ofNat_of_zero_le (inB_iff.1 hb).1
  subst hk
  have hkn : k < G.vars.length := by have := (inB_iff.1 hb).2; omega
  have hkn' : (k : Int) < G.vars.length := by omega
  obtain ⟨g, o, rfl, hg, cv⟩ := h.vs.get hkn
  rw [hb] at HPL ⊢
  rw [Int.toNat_natCast]
  generalize G.vars.getD k 0 = tv at *
  clear h hb
  generalize G.vars.length = n at *
  by_cases ht : tv = t
  ·subst ht
   go_enter Tryz.func191, Tryz.ntmps191
   go_wp2_with (first
    | (go_at_call 178; refine Calls.mono (HPL.out _) ?_; rintro e wx ⟨rfl, hwx⟩; subst wx)
    | (go_at_call 177; refine Calls.mono (HT.out _) ?_; rintro e wx ⟨rfl, hwx⟩; subst wx))
   go_ret
   exact ⟨ret_bool (by simp), below_alloc (Below.refl _ _) _⟩
  ·have ht' : (tv == t) = false := beq_false_of_ne ht
   go_enter Tryz.func191, Tryz.ntmps191
   go_wp2_with (first
    | (go_at_call 178; refine Calls.mono (HPL.out _) ?_; rintro e wx ⟨rfl, hwx⟩; subst wx)
    | (go_at_call 177; refine Calls.mono (HT.out _) ?_; rintro e wx ⟨rfl, hwx⟩; subst wx))
   go_ret
   exact ⟨ret_bool (by simp [ht']), below_alloc (Below.refl _ _) _⟩
 ·have hb' : inB v G.vars.length = false := by simpa using hb
  rw [hb'] at HPL ⊢
  clear h hb hb'
  generalize G.vars.length = n at *
  go_enter Tryz.func191, Tryz.ntmps191
  go_wp2_with (go_at_call 178; refine Calls.mono (HPL.out _) ?_; rintro e wx ⟨rfl, hwx⟩; subst wx)
  go_ret
  exact ⟨ret_bool (by simp), below_alloc (Below.refl _ _) _⟩
def behindB (n : Nat) (to : Int) : Bool := (to != 0) && inB to n
set_option maxRecDepth 100000 in
theorem behind_any (G : Gr) (pv vv av bv : Value) (to : Int) (w : World) (h : GrAt w pv vv av bv G) :
  Calls Tryz.prog 190 #[.agg #[.string G.name, pv, .int .u8 G.result, vv, av, bv], .int .i64 to] w fun e w' => e = .returned (.bool (behindB G.blocks.length to)) ∧ Below w.heap.size w w' := by
 obtain ⟨pa, pc, va, vc, aa, ac, ba, bc, rfl, rfl, rfl, rfl, _, _, _, hbl⟩ := h.openF
 have HPL : Hid (∀ W, Calls Tryz.prog 178 #[.int .i64 to, .int .i64 (G.blocks.length : Int)] W fun e w' => e = .returned (.bool (inB to G.blocks.length)) ∧ w' = W) := fun W => isPlace_any to _ W
 unfold behindB
 clear h
 generalize inB to G.blocks.length = ib at *
 generalize G.blocks.length = n at *
 by_cases h0 : to = 0
 ·subst h0
  go_enter Tryz.func190, Tryz.ntmps190
  go_wp2
  go_ret
  exact ⟨ret_bool (by simp), below_alloc (Below.refl _ _) _⟩
 ·have h0' : (to != 0) = true := by simpa using h0
  go_enter Tryz.func190, Tryz.ntmps190
  go_wp2_with (go_at_call 178; refine Calls.mono (HPL.out _) ?_; rintro e wx ⟨rfl, hwx⟩; subst wx)
  go_ret
  exact ⟨ret_bool (by simp [h0']), below_alloc (Below.refl _ _) _⟩
def sizesB (G : Gr) : Bool := decide (0 < G.blocks.length) && decide (G.blocks.length ≤ 1048576) && decide (G.vars.length ≤ 1048576) && decide (G.arrs.length ≤ 1048576)
set_option maxRecDepth 100000 in
theorem sizes_any (G : Gr) (pv vv av bv : Value) (w : World) (h : GrAt w pv vv av bv G) :
  Calls Tryz.prog 150 #[.agg #[.string G.name, pv, .int .u8 G.result, vv, av, bv]] w fun e w' => e = .returned (.bool (sizesB G)) ∧ Below w.heap.size w w' := by
 obtain ⟨pa, pc, va, vc, aa, ac, ba, bc, rfl, rfl, rfl, rfl, _, hvl, hal, hbl⟩ := h.openF
 unfold sizesB
 clear h
 generalize G.blocks.length = n at *
 generalize G.vars.length = m at *
 generalize G.arrs.length = k at *
 by_cases h1 : 0 < n
 ·by_cases h2 : n ≤ 1048576
  ·by_cases h3 : m ≤ 1048576
   ·have h1' : (0 : Int) < n := by omega
    have h2' : (n : Int) ≤ 1048576 := by omega
    have h3' : (m : Int) ≤ 1048576 := by omega
    go_enter Tryz.func150, Tryz.ntmps150
    go_wp2
    go_ret
    exact ⟨ret_bool (by simp [h1, h2, h3]; omega), below_alloc (Below.refl _ _) _⟩
   ·have h1' : (0 : Int) < n := by omega
    have h2' : (n : Int) ≤ 1048576 := by omega
    have h3' : ¬ (m : Int) ≤ 1048576 := by omega
    go_enter Tryz.func150, Tryz.ntmps150
    go_wp2
    go_ret
    exact ⟨ret_bool (by simp), below_alloc (Below.refl _ _) _⟩
  ·have h1' : (0 : Int) < n := by omega
   have h2' : ¬ (n : Int) ≤ 1048576 := by omega
   go_enter Tryz.func150, Tryz.ntmps150
   go_wp2
   go_ret
   exact ⟨ret_bool (by simp), below_alloc (Below.refl _ _) _⟩
 ·have h1' : ¬ (0 : Int) < n := by omega
  go_enter Tryz.func150, Tryz.ntmps150
  go_wp2
  go_ret
  exact ⟨ret_bool (by simp), below_alloc (Below.refl _ _) _⟩
end Go.Proofs.YtajaijilfclhpaaGreatDoor
/- Right types, right parameters. -/
namespace Go.Proofs.YtajaijilfclhpaaGreatDoor
open Go.RowKit

theorem all_drop {α : Type} {l : List α} {p : α → Bool} {d : α} {i : Nat} (h : i < l.length) : (l.drop i).all p = (p (l.getD i d) && (l.drop (i + 1)).all p) := by
 rw [List.drop_eq_getElem_cons h, List.all_cons]
 simp [List.getD, List.getElem?_eq_getElem h]
theorem box6 {w : World} {b : Nat} {a0 a1 a2 a3 a4 a5 : Value} (h : Box w b [a0, a1, a2, a3, a4, a5]) : w.cell? ⟨b, 0, none⟩ = some a0 ∧ w.cell? ⟨b, 1, none⟩ = some a1 ∧ w.cell? ⟨b, 2, none⟩ = some a2 ∧ w.cell? ⟨b, 3, none⟩ = some a3 ∧ w.cell? ⟨b, 4, none⟩ = some a4 ∧ w.cell? ⟨b, 5, none⟩ = some a5 :=
 ⟨h.cell 0 _ rfl, h.cell 1 _ rfl, h.cell 2 _ rfl, h.cell 3 _ rfl, h.cell 4 _ rfl, h.cell 5 _ rfl⟩
def arrB (a : Int × Int) : Bool := typedB a.1 && decide (1 ≤ a.2) && decide (a.2 ≤ 256)
def typesB (G : Gr) : Bool := G.vars.all typedB && (G.arrs.all arrB && typedB G.result)
set_option maxRecDepth 100000 in
set_option maxHeartbeats 1000000 in
theorem types_any (G : Gr) (pv vv av bv : Value) (w : World) (h : GrAt w pv vv av bv G) :
  Calls Tryz.prog 151 #[.agg #[.string G.name, pv, .int .u8 G.result, vv, av, bv]] w fun e w' => e = .returned (.bool (typesB G)) ∧ Below w.heap.size w w' := by
 obtain ⟨pa, pc, va, vc, aa, ac, ba, bc, rfl, rfl, rfl, rfl, _, hvl, hal, _⟩ := h.openF
 obtain ⟨nm, ps, r, vs, ars, bs⟩ := G
 dsimp only at *
 have HV : Hid (∀ i, i < vs.length → _) := fun i hi => h.vs.get (i := i) hi
 have HA : Hid (∀ i, i < ars.length → _) := fun i hi => h.ars.get (i := i) hi
 have HT : Hid (∀ t W, _) := fun t W => isType_any t W
 have H0 : Hid (Below w.heap.size w (w.alloc (.cells #[.string nm, .slice pa ps.length pc, .int .u8 r, .slice va vs.length vc, .slice aa ars.length ac, .slice ba bs.length bc] 28)) ∧ Box (w.alloc (.cells #[.string nm, .slice pa ps.length pc, .int .u8 r, .slice va vs.length vc, .slice aa ars.length ac, .slice ba bs.length bc] 28)) w.heap.size [.string nm, .slice pa ps.length pc, .int .u8 r, .slice va vs.length vc, .slice aa ars.length ac, .slice ba bs.length bc]) := ⟨below_alloc (Below.refl _ _) _, Box.new w [.string nm, .slice pa ps.length pc, .int .u8 r, .slice va vs.length vc, .slice aa ars.length ac, .slice ba bs.length bc] 28⟩
 unfold typesB
 dsimp only
 clear h
 obtain ⟨R, hR⟩ : ∃ R, R = (vs.all typedB && (ars.all arrB && typedB r)) := ⟨_, rfl⟩
 rw [← hR]
 have HR : Hid (R = ((vs.drop 0).all typedB && (ars.all arrB && typedB r))) := hR
 clear hR
 go_enter Tryz.func151, Tryz.ntmps151
 go_wp2
 go_loopw [10] (fun vi wr => ∃ i : Nat, vi = .int .i64 i ∧ i ≤ vs.length ∧ Hid (R = ((vs.drop i).all typedB && (ars.all arrB && typedB r)) ∧ Below w.heap.size w wr ∧ Box wr w.heap.size [.string nm, .slice pa ps.length pc, .int .u8 r, .slice va vs.length vc, .slice aa ars.length ac, .slice ba bs.length bc])) (fun vi _ => vs.length - (intOf vi).toNat)
 case atStart => exact ⟨0, rfl, by omega, HR.out, H0.out.1, H0.out.2⟩
 case round =>
  obtain ⟨i, rfl, hi, hr⟩ := hrel
  clear HR H0
  obtain ⟨e0, e1, e2, e3, e4, e5⟩ := box6 hr.out.2.2
  by_cases hin : i < vs.length
  ·obtain ⟨g, o, rfl, hg, cv⟩ := HV.out i hin
   have hin' : (i : Int) < vs.length := by omega
   have cv' := (hr.out.2.1.cell (p := ⟨g, o + i, none⟩) hg).trans cv
   have hd : R = (typedB (vs.getD i 0) && (vs.drop (i + 1)).all typedB && (ars.all arrB && typedB r)) := by rw [hr.out.1, all_drop (d := 0) hin]
   have HTI := HT.out (vs.getD i 0)
   generalize vs.getD i 0 = tv at *
   clear cv
   cases htb : typedB tv with
   | true =>
    rw [htb] at hd HTI
    simp only [Bool.true_and] at hd
    have HD : Hid _ := hd
    have HTJ : Hid _ := HTI
    clear hd HTI htb
    go_wp2_with (go_at_call 177; refine Calls.mono (HTJ.out _) ?_; rintro e wx ⟨rfl, hwx⟩; subst wx)
    go_roundw
    case rel => exact ⟨i + 1, by first | rfl | (congr 1; omega), by omega, HD.out, hr.out.2⟩
    case measure => simp [intOf]; omega
   | false =>
    rw [htb] at hd HTI
    simp only [Bool.false_and] at hd
    have HD : Hid _ := hd
    have HTJ : Hid _ := HTI
    clear hd HTI htb
    go_wp2_with (go_at_call 177; refine Calls.mono (HTJ.out _) ?_; rintro e wx ⟨rfl, hwx⟩; subst wx)
    go_ret
    exact ⟨ret_bool HD.out.symm, hr.out.2.1⟩
  ·obtain rfl : i = vs.length := by omega
   have hd : R = ((ars.drop 0).all arrB && typedB r) := by rw [hr.out.1, List.drop_length]; simp
   have HD : Hid _ := hd
   have HRB : Hid _ := hr.out.2
   clear hd hr HV
   go_wp2
   go_loopw [21] (fun vi wr => ∃ i : Nat, vi = .int .i64 i ∧ i ≤ ars.length ∧ Hid (R = ((ars.drop i).all arrB && typedB r) ∧ Below w.heap.size w wr ∧ Box wr w.heap.size [.string nm, .slice pa ps.length pc, .int .u8 r, .slice va vs.length vc, .slice aa ars.length ac, .slice ba bs.length bc])) (fun vi _ => ars.length - (intOf vi).toNat)
   case atStart => exact ⟨0, rfl, by omega, HD.out, HRB.out.1, HRB.out.2⟩
   case round =>
    clear e0 e1 e2 e3 e4 e5 HD HRB
    obtain ⟨i, rfl, hi, hr⟩ := hrel
    obtain ⟨e0, e1, e2, e3, e4, e5⟩ := box6 hr.out.2.2
    have hwl := hr.out.2.2.lt
    by_cases hin : i < ars.length
    ·obtain ⟨g, o, rfl, hg, cv, cw⟩ := HA.out i hin
     have hin' : (i : Int) < ars.length := by omega
     have cv' := (hr.out.2.1.cell (p := ⟨g, o + i * 2, none⟩) hg).trans cv
     have cw' := (hr.out.2.1.cell (p := ⟨g, o + i * 2 + 1, none⟩) hg).trans cw
     have hd : R = (arrB (ars.getD i default) && (ars.drop (i + 1)).all arrB && typedB r) := by rw [hr.out.1, all_drop (d := default) hin]
     generalize ars.getD i default = a at *
     obtain ⟨at', az⟩ := a
     dsimp only at cv' cw'
     have HTI := HT.out at'
     unfold arrB at hd
     have HBX : Hid (Below w.heap.size w (wr.alloc (.cells #[.int .u8 at', .int .i64 az] 50)) ∧ Box (wr.alloc (.cells #[.int .u8 at', .int .i64 az] 50)) w.heap.size [.string nm, .slice pa ps.length pc, .int .u8 r, .slice va vs.length vc, .slice (some ⟨g, o, none⟩) ars.length ac, .slice ba bs.length bc]) := ⟨below_alloc hr.out.2.1 _, hr.out.2.2.below (below_alloc (Below.refl _ _) _)⟩
     clear cv cw
     by_cases hok : typedB at' = true ∧ 1 ≤ az ∧ az ≤ 256
     ·obtain ⟨h1, h2, h3⟩ := hok
      rw [h1] at HTI
      simp only [h1, h2, h3, decide_true, Bool.true_and] at hd
      have HD : Hid (R = ((ars.drop (i + 1)).all arrB && typedB r)) := hd
      have HTJ : Hid _ := HTI
      clear hd HTI h1
      go_wp2_with (go_at_call 177; refine Calls.mono (HTJ.out _) ?_; rintro e wx ⟨rfl, hwx⟩; subst wx)
      go_roundw
      case rel => exact ⟨i + 1, by first | rfl | (congr 1; omega), by omega, HD.out, HBX.out⟩
      case measure => simp [intOf]; omega
     ·have hf : (typedB at' && decide (1 ≤ az) && decide (az ≤ 256)) = false := by
       cases ht : typedB at' with
       | false => simp
       | true =>
        simp only [Bool.true_and, Bool.and_eq_false_iff, decide_eq_false_iff_not]
        rcases Decidable.em (1 ≤ az) with h | h
        ·exact .inr fun h3 => hok ⟨ht, h, h3⟩
        ·exact .inl h
      dsimp only at hd
      rw [hf] at hd
      simp only [Bool.false_and] at hd
      have HD : Hid (R = false) := hd
      cases ht : typedB at' with
      | false =>
       rw [ht] at HTI
       have HTJ : Hid _ := HTI
       clear hd HTI hf ht hok
       go_wp2_with (go_at_call 177; refine Calls.mono (HTJ.out _) ?_; rintro e wx ⟨rfl, hwx⟩; subst wx)
       go_ret
       exact ⟨ret_bool HD.out.symm, HBX.out.1⟩
      | true =>
       rw [ht] at HTI
       have HTJ : Hid _ := HTI
       have hz : az < 1 ∨ 256 < az := by
        rcases Decidable.em (1 ≤ az) with h | h
        ·right; exact Int.not_le.1 (fun h3 => hok ⟨ht, h, h3⟩)
        ·left; omega
       clear hd HTI hf ht hok
       rcases hz with hz | hz
       ·go_wp2_with (go_at_call 177; refine Calls.mono (HTJ.out _) ?_; rintro e wx ⟨rfl, hwx⟩; subst wx)
        go_ret
        exact ⟨ret_bool HD.out.symm, HBX.out.1⟩
       ·go_wp2_with (go_at_call 177; refine Calls.mono (HTJ.out _) ?_; rintro e wx ⟨rfl, hwx⟩; subst wx)
        go_ret
        exact ⟨ret_bool HD.out.symm, HBX.out.1⟩
    ·obtain rfl : i = ars.length := by omega
     have hd : R = typedB r := by rw [hr.out.1, List.drop_length]; simp
     have HD : Hid _ := hd
     have HTJ : Hid _ := HT.out r
     clear hd HA
     go_wp2_with (go_at_call 177; refine Calls.mono (HTJ.out _) ?_; rintro e wx ⟨rfl, hwx⟩; subst wx)
     go_ret
     exact ⟨ret_bool HD.out.symm, hr.out.2.1⟩
end Go.Proofs.YtajaijilfclhpaaGreatDoor
/- Right parameters, right ends. -/
namespace Go.Proofs.YtajaijilfclhpaaGreatDoor
open Go.RowKit

theorem eql_pair_d (d : Nat) (a b c e : Int) (w : World) : (Op.equalIn (d + 1 + 1) 58 (.agg #[.int .i64 a, .int .i64 b]) (.agg #[.int .i64 c, .int .i64 e])).run Tryz.prog w = .ok (a == c && b == e) w := by
 rw [Op.equalIn]
 simp only [Sem.run_bind, run_underlying Tryz.underlying58, Result.andThen_ok]
 simp only [Tryz.sizeOf3, Result.andThen_ok, Std.Legacy.Range.forIn_eq_forIn_range']
 simp only [Std.Legacy.Range.size, List.range', List.forIn_cons, List.forIn_nil]
 go_simp
 by_cases h1 : a = c <;> by_cases h2 : b = e <;> simp [h1, h2]
theorem eql_pair (a b c e : Int) (w : World) : (Op.equalIn 9999 58 (.agg #[.int .i64 a, .int .i64 b]) (.agg #[.int .i64 c, .int .i64 e])).run Tryz.prog w = .ok (a == c && b == e) w := eql_pair_d 9997 a b c e w
theorem eql_term (x0 x1 x2 x3 x4 y0 y1 y2 y3 y4 : Int) (w : World) : (binOp .eql 61 (.agg #[.int .u8 x0, .int .i64 x1, .int .i64 x2, .int .i64 x3, .int .u8 x4]) (.agg #[.int .u8 y0, .int .i64 y1, .int .i64 y2, .int .i64 y3, .int .u8 y4])).run Tryz.prog w = .ok (.bool (x0 == y0 && x1 == y1 && x2 == y2 && x3 == y3 && x4 == y4)) w := by
 have hS : Tryz.prog.underlying 61 = some (.struct (Tryz.prog.fieldsOf 61)) := by kernel_rfl
 have hp : Tryz.prog.stoodInHeld 61 = false := by kernel_rfl
 rw [run_eql_struct, show (10000 : Nat) = 9999 + 1 from rfl, run_equalIn_agg w 9999 61 _ _ hS hp]
 simp only [Program.fieldsOf, Tryz.underlying61]
 have hq := eql_pair
 go_simp
 by_cases h0 : x0 = y0 <;> by_cases h1 : x1 = y1 <;> by_cases h2 : x2 = y2 <;> by_cases h3 : x3 = y3 <;> by_cases h4 : x4 = y4 <;> simp [h0, h1, h2, h3, h4]
theorem slice_low {g o m c f : Nat} (hm : m ≤ c) (hf : f ≤ m) : ∀ W, (Instr.slice 22 (.slice (some ⟨g, o, none⟩) m c) none (some (.int .i64 (f : Int))) none).run Tryz.prog W = .ok (.slice (some ⟨g, o, none⟩) f c) W := fun W => by
 have hs : ∀ W : World, (sizeOf (Tryz.prog.elem 22)).run Tryz.prog W = .ok 1 W := fun W => by kernel_rfl
 have hu : Tryz.prog.underlying 22 = some (.slice (Tryz.prog.elem 22)) := by kernel_rfl
 rw [run_slice_h W 22 _ m c hu .i64 f (by omega) (by omega), hs]
 simp [Result.andThen, sliced, Addr.add]
def parOk (n : Nat) (ps : List Int) (j : Nat) : Bool := inB (ps.getD j 0) n && !((ps.take j).contains (ps.getD j 0))
def paramsB (G : Gr) : Bool := decide (G.params.length ≤ 8) && (List.range G.params.length).all (parOk G.vars.length G.params)
set_option maxRecDepth 100000 in
set_option maxHeartbeats 1000000 in
theorem params_any (G : Gr) (pv vv av bv : Value) (w : World) (h : GrAt w pv vv av bv G) :
  Calls Tryz.prog 152 #[.agg #[.string G.name, pv, .int .u8 G.result, vv, av, bv]] w fun e w' => e = .returned (.bool (paramsB G)) ∧ Below w.heap.size w w' := by
 obtain ⟨pa, pc, va, vc, aa, ac, ba, bc, rfl, rfl, rfl, rfl, hpl, _, _, _⟩ := h.openF
 obtain ⟨nm, ps, r, vs, ars, bs⟩ := G
 dsimp only at *
 have hcap := h.ps.cap
 dsimp only at hcap
 have HPS : Hid (∀ i, i < ps.length → _) := fun i hi => h.ps.get (i := i) hi
 have HPL : Hid (∀ v W, Calls Tryz.prog 178 #[.int .i64 v, .int .i64 (vs.length : Int)] W fun e w' => e = .returned (.bool (inB v vs.length)) ∧ w' = W) := fun v W => isPlace_any v _ W
 unfold paramsB
 dsimp only
 by_cases h8 : ps.length ≤ 8
 ·have h8' : (ps.length : Int) ≤ 8 := by omega
  obtain ⟨R, hR⟩ : ∃ R, R = (decide (ps.length ≤ 8) && (List.range ps.length).all (parOk vs.length ps)) := ⟨_, rfl⟩
  rw [← hR]
  have HR : Hid (R = ((List.range ps.length).drop 0).all (parOk vs.length ps)) := by show _ = _; rw [hR, decide_eq_true h8]; rfl
  have HCN : Hid (∀ (i : Nat) (g o : Nat) (x : Int) (W : World), i < ps.length → (∀ j, j < ps.length → W.cell? ⟨g, o + j, none⟩ = some (.int .i64 (ps.getD j 0))) → Calls Tryz.prog 179 #[.slice (some ⟨g, o, none⟩) i pc, .int .i64 x] W fun e w' => e = .returned (.bool ((ps.take i).contains x)) ∧ w' = W) := fun i g o x W hi hc => Tryz.slices_Contains_int g o i pc ps x W (by omega) (by omega) hc
  clear hR h
  go_enter Tryz.func152, Tryz.ntmps152
  go_wp2
  go_loopw [12] (fun vi wr => ∃ i : Nat, vi = .int .i64 i ∧ i ≤ ps.length ∧ Hid (R = ((List.range ps.length).drop i).all (parOk vs.length ps)) ∧ wr = w.alloc (.cells #[.string nm, .slice pa ps.length pc, .int .u8 r, .slice va vs.length vc, .slice aa ars.length ac, .slice ba bs.length bc] 28)) (fun vi _ => ps.length - (intOf vi).toNat)
  case atStart => exact ⟨0, rfl, by omega, HR.out, rfl⟩
  case round =>
   obtain ⟨i, rfl, hi, hr, rfl⟩ := hrel
   clear HR
   by_cases hin : i < ps.length
   ·obtain ⟨g, o, rfl, hg, cv⟩ := HPS.out i hin
    have hall : ∀ j, j < ps.length → w.cell? ⟨g, o + j, none⟩ = some (.int .i64 (ps.getD j 0)) := fun j hj => by
     obtain ⟨g', o', he, _, hc⟩ := HPS.out j hj
     cases he
     exact hc
    have hin' : (i : Int) < ps.length := by omega
    have hd : R = (parOk vs.length ps i && ((List.range ps.length).drop (i + 1)).all (parOk vs.length ps)) := by
     rw [hr.out, all_drop (d := 0) (by simpa using hin)]
     congr 2
     simp [List.getD, hin]
    unfold parOk at hd
    have HPI := HPL.out (ps.getD i 0)
    have HCI : Hid (∀ W, Below w.heap.size w W → Calls Tryz.prog 179 #[.slice (some ⟨g, o, none⟩) i pc, .int .i64 (ps.getD i 0)] W fun e w' => e = .returned (.bool ((ps.take i).contains (ps.getD i 0))) ∧ w' = W) := fun W hb => HCN.out i g o _ W hin (fun j hj => (hb.cell (p := ⟨g, o + j, none⟩) hg).trans (hall j hj))
    have hsl := slice_low (g := g) (o := o) hcap (Nat.le_of_lt hin)
    have HB0 : Hid (Below w.heap.size w (w.alloc (.cells #[.string nm, .slice (some ⟨g, o, none⟩) ps.length pc, .int .u8 r, .slice va vs.length vc, .slice aa ars.length ac, .slice ba bs.length bc] 28))) := below_alloc (Below.refl _ _) _
    generalize ps.getD i 0 = x at *
    generalize (ps.take i).contains x = ct at *
    clear HPS HCN hall
    cases hb : inB x vs.length with
    | false =>
     rw [hb] at hd HPI
     simp only [Bool.false_and] at hd
     have HD : Hid (R = false) := hd
     have HPJ : Hid _ := HPI
     clear hd HPI hb
     go_wp2_with (go_at_call 178; refine Calls.mono (HPJ.out _) ?_; rintro e wx ⟨rfl, hwx⟩; subst wx)
     go_ret
     exact ⟨ret_bool HD.out.symm, HB0.out⟩
    | true =>
     rw [hb] at hd HPI
     have HPJ : Hid _ := HPI
     cases ct with
     | true =>
      have HD : Hid (R = false) := by show _ = _; rw [hd]; rfl
      clear hd HPI hb
      go_wp2_with (first
       | (go_at_call 178; refine Calls.mono (HPJ.out _) ?_; rintro e wx ⟨rfl, hwx⟩; subst wx)
       | (go_at_call 179; refine Calls.mono (HCI.out _ HB0.out) ?_; rintro e wx ⟨rfl, hwx⟩; subst wx))
      go_ret
      exact ⟨ret_bool HD.out.symm, HB0.out⟩
     | false =>
      have HD : Hid (R = ((List.range ps.length).drop (i + 1)).all (fun j => parOk vs.length ps j)) := by show _ = _; rw [hd]; rfl
      clear hd HPI hb
      go_wp2_with (first
       | (go_at_call 178; refine Calls.mono (HPJ.out _) ?_; rintro e wx ⟨rfl, hwx⟩; subst wx)
       | (go_at_call 179; refine Calls.mono (HCI.out _ HB0.out) ?_; rintro e wx ⟨rfl, hwx⟩; subst wx))
      go_roundw
      case rel => exact ⟨i + 1, by first | rfl | (congr 1; omega), by omega, HD.out, by first | rfl | trivial⟩
      case measure => simp [intOf]; omega
   ·obtain rfl : i = ps.length := by omega
    have hd : R = true := by rw [hr.out, List.drop_eq_nil_of_le (by simp)]; rfl
    have HD : Hid _ := hd
    clear hd HPS HCN
    go_wp2
    go_ret
    exact ⟨ret_bool HD.out.symm, below_alloc (Below.refl _ _) _⟩
 ·have h8' : ¬ (ps.length : Int) ≤ 8 := by omega
  rw [decide_eq_false h8]
  clear HPS HPL h
  go_enter Tryz.func152, Tryz.ntmps152
  go_wp2
  go_ret
  exact ⟨rfl, below_alloc (Below.refl _ _) _⟩
end Go.Proofs.YtajaijilfclhpaaGreatDoor
