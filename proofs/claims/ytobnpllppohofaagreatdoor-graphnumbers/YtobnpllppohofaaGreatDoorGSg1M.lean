/- The document's count. -/
import Derived.Test.YtobnpllppohofaaGreatDoorGRCpM
import Derived.Test.YtobnpllppohofaaGreatDoorGQ0M
import Derived.Test.YtobnpllppohofaaGreatDoorGCp1M
import Derived.Test.YtobnpllppohofaaGreatDoorGChk4M
namespace Go.Proofs.YtobnpllppohofaaGreatDoor
open Go.RowKit

set_option maxRecDepth 100000 in
set_option maxHeartbeats 1000000 in
theorem rcount_any (G : Gr) (pv vv av bv : Value) (w : World) (h : GrAt w pv vv av bv G) (hs : countG G.blocks ≤ 1000000000) :
  Calls Tryz.prog 25 #[.agg #[.string G.name, pv, .int .u8 G.result, vv, av, bv]] w fun e w' => e = .returned (.int .i64 (countG G.blocks : Nat)) ∧ Below w.heap.size w w' := by
 obtain ⟨nm, ps, r, vs, ars, bs⟩ := G
 have hB := h.bs
 obtain ⟨a, c, rfl, hlen⟩ := hB.form
 have HI : Hid (∀ i, i < bs.length → _) := fun i hi => hB.get hi
 change countG bs ≤ _ at hs
 have hc : countG bs = bs.length + sumIns bs := rfl
 have HC : Hid (countG bs = bs.length + sumIns bs) := hc
 have hbl : bs.length ≤ 1000000000 := by omega
 have hsm : Hid (bs.length + sumIns bs ≤ 1000000000) := by rw [← hc]; exact hs
 clear h hB hlen hc hs
 dsimp only at HI ⊢
 obtain ⟨R, hR⟩ : ∃ R, R = countG bs := ⟨_, rfl⟩
 rw [← hR]
 have HR : Hid (R = bs.length + sumIns bs) := hR.trans HC.out
 clear hR HC
 obtain ⟨n, hn⟩ : ∃ n, n = bs.length := ⟨_, rfl⟩
 rw [← hn] at hbl ⊢
 have HN : Hid (n = bs.length) := hn
 clear hn
 go_enter Tryz.func25, Tryz.ntmps25
 go_wp2
 go_loopw [3, 4] (fun vm vi wr => ∃ i : Nat, vi = .int .i64 i ∧ i ≤ n ∧ vm = .int .i64 ((n + sumIns (bs.take i) : Nat) : Int) ∧ Hid (Below w.heap.size w wr ∧ Box wr w.heap.size [.string nm, pv, .int .u8 r, vv, av, .slice a n c])) (fun _ vi _ => n - (intOf vi).toNat)
 case atStart => exact ⟨0, rfl, by omega, by simp [sumIns], below_alloc (Below.refl _ _) _, Box.new w [.string nm, pv, .int .u8 r, vv, av, .slice a n c] 28⟩
 case round =>
  obtain ⟨i, rfl, hi, rfl, hr⟩ := hrel
  obtain ⟨b0, b1, b2, b3, b4, b5⟩ := box6 hr.out.2
  by_cases hin : i < n
  ·obtain ⟨g, o, iv, rfl, hg, c0, c1, c2, c3, c4, c5, hins⟩ := HI.out i (by rw [← HN.out]; exact hin)
   obtain ⟨ia, ic, rfl, hil⟩ := hins.form
   have hin' : (i : Int) < n := by omega
   have hcl : ∀ j, wr.cell? ⟨g, j, none⟩ = w.cell? ⟨g, j, none⟩ := fun j => hr.out.1.cell (p := ⟨g, j, none⟩) hg
   rw [← hcl] at c0 c1 c2 c3 c4 c5
   have HT : Hid (sumIns (bs.take (i + 1)) = sumIns (bs.take i) + (bs.getD i default).ins.length) := sumIns_take (by rw [← HN.out]; exact hin)
   have hle : n + sumIns (bs.take (i + 1)) ≤ 1000000000 := by
    have := sumIns_le bs (i + 1)
    have := hsm.out
    rw [← HN.out] at this
    omega
   have hle2 : n + (sumIns (bs.take i) + (bs.getD i default).ins.length) ≤ 1000000000 := by rw [← HT.out]; exact hle
   clear HI hcl hins hle hil
   generalize sumIns (bs.take i) = S at *
   generalize (bs.getD i default).ins.length = L at *
   generalize (bs.getD i default).tm.kind = t0 at *
   generalize (bs.getD i default).tm.arg = t1 at *
   generalize (bs.getD i default).tm.t0 = t2 at *
   generalize (bs.getD i default).tm.t1 = t3 at *
   generalize (bs.getD i default).tm.trap = t4 at *
   go_wp2
   go_roundw
   case rel => exact ⟨i + 1, by first | rfl | (congr 1; omega), by omega, by rw [HT.out]; first | rfl | (congr 1; omega), hr.out⟩
   case measure => simp [intOf]; omega
  ·obtain rfl : i = n := by omega
   clear HI
   go_wp2
   go_ret
   exact ⟨ret_int (by rw [HR.out, HN.out, List.take_length]), hr.out.1⟩
end Go.Proofs.YtobnpllppohofaaGreatDoor
/- Graphs that are alike are called the same. -/
namespace Go.Proofs.YtobnpllppohofaaGreatDoor
open Go.RowKit

theorem sameI_yes (l : List Int) (v1 v2 : Value) (w : World) (h1 : IntsAt w v1 l) (h2 : IntsAt w v2 l) : Calls Tryz.prog 10 #[v1, v2] w fun e w' => e = .returned (.bool true) ∧ ∃ k, w' = w.drewN k := by
 have h := sameI_any l l v1 v2 w h1 h2
 rw [decide_eq_true rfl] at h
 exact h
theorem row_form {w : World} {v : Value} {n : Nat} {cs : List Value} (h : RowAt w v n cs) : ∃ a c, v = .slice a n c ∧ n ≤ 140737488355328 := by
 obtain ⟨a, c, hv, hn, _⟩ := h
 exact ⟨a, c, hv, hn.2⟩
theorem neq_arr (a b : Int) (w : World) : (binOp .neq 51 (.agg #[.int .u8 a, .int .i64 b]) (.agg #[.int .u8 a, .int .i64 b])).run Tryz.prog w = .ok (.bool false) w := by
 have hS : Tryz.prog.underlying 51 = some (.struct (Tryz.prog.fieldsOf 51)) := by kernel_rfl
 have hp : Tryz.prog.stoodInHeld 51 = false := by kernel_rfl
 rw [run_neq_struct, show (10000 : Nat) = 9999 + 1 from rfl, run_equalIn_agg w 9999 51 _ _ hS hp]
 simp only [Program.fieldsOf, Tryz.underlying51]
 go_simp
set_option maxRecDepth 100000 in
set_option maxHeartbeats 1000000 in
theorem sameT_yes (l : List Int) (v1 v2 : Value) (w : World) (h1 : TysAt w v1 l) (h2 : TysAt w v2 l) : Calls Tryz.prog 51 #[v1, v2] w fun e w' => e = .returned (.bool true) ∧ ∃ k, w' = w.drewN k := by
 obtain ⟨a1, c1, rfl, _⟩ := row_form h1
 obtain ⟨a2, c2, rfl, _⟩ := row_form h2
 have H1 : Hid (∀ i, i < l.length → _) := fun i hi => h1.get (i := i) hi
 have H2 : Hid (∀ i, i < l.length → _) := fun i hi => h2.get (i := i) hi
 clear h1 h2
 generalize l.length = n at *
 go_enter Tryz.func51, Tryz.ntmps51
 go_wp2
 go_loopw [5] (fun vi wr => ∃ i : Nat, vi = .int .i64 i ∧ i ≤ n ∧ Hid (∃ k, wr = w.drewN k)) (fun vi _ => n - (intOf vi).toNat)
 case atStart => exact ⟨0, rfl, by omega, 0, rfl⟩
 case round =>
  obtain ⟨i, rfl, hi, hr⟩ := hrel
  obtain ⟨q, hq⟩ := hr.out
  have HQ : Hid (wr = w.drewN q) := hq
  clear hq hr
  by_cases hin : i < n
  ·obtain ⟨g1, o1, rfl, _, k0⟩ := H1.out i hin
   obtain ⟨g2, o2, rfl, _, j0⟩ := H2.out i hin
   have k0' := k0
   rw [show w.cell? ⟨g1, o1 + i, none⟩ = wr.cell? ⟨g1, o1 + i, none⟩ from by rw [HQ.out]; rfl] at k0'
   have j0' := j0
   rw [show w.cell? ⟨g2, o2 + i, none⟩ = wr.cell? ⟨g2, o2 + i, none⟩ from by rw [HQ.out]; rfl] at j0'
   have hin' : (i : Int) < n := by omega
   clear H1 H2
   go_wp2
   go_quiet (fail)
   go_wp2
   go_roundw
   case rel => exact ⟨i + 1, by first | rfl | (congr 1; omega), by omega, _, by rw [HQ.out]; exact drewN_add _ _ _⟩
   case measure => simp [intOf]; omega
  ·obtain rfl : i = n := by omega
   clear H1 H2
   go_wp2
   go_ret
   exact ⟨rfl, q, HQ.out⟩
set_option maxRecDepth 100000 in
set_option maxHeartbeats 1000000 in
theorem sameA_yes (l : List (Int × Int)) (v1 v2 : Value) (w : World) (h1 : ArrsAt w v1 l) (h2 : ArrsAt w v2 l) : Calls Tryz.prog 52 #[v1, v2] w fun e w' => e = .returned (.bool true) ∧ ∃ k, w' = w.drewN k := by
 obtain ⟨a1, c1, rfl, _⟩ := row_form h1
 obtain ⟨a2, c2, rfl, _⟩ := row_form h2
 have H1 : Hid (∀ i, i < l.length → _) := fun i hi => h1.get (i := i) hi
 have H2 : Hid (∀ i, i < l.length → _) := fun i hi => h2.get (i := i) hi
 clear h1 h2
 generalize l.length = n at *
 have hne := neq_arr
 go_enter Tryz.func52, Tryz.ntmps52
 go_wp2
 go_loopw [5] (fun vi wr => ∃ i : Nat, vi = .int .i64 i ∧ i ≤ n ∧ Hid (∃ k, wr = w.drewN k)) (fun vi _ => n - (intOf vi).toNat)
 case atStart => exact ⟨0, rfl, by omega, 0, rfl⟩
 case round =>
  obtain ⟨i, rfl, hi, hr⟩ := hrel
  obtain ⟨q, hq⟩ := hr.out
  have HQ : Hid (wr = w.drewN q) := hq
  clear hq hr
  by_cases hin : i < n
  ·obtain ⟨g1, o1, rfl, _, k0, k1⟩ := H1.out i hin
   obtain ⟨g2, o2, rfl, _, j0, j1⟩ := H2.out i hin
   have k0' := k0
   rw [show w.cell? ⟨g1, o1 + i * 2, none⟩ = wr.cell? ⟨g1, o1 + i * 2, none⟩ from by rw [HQ.out]; rfl] at k0'
   have k1' := k1
   rw [show w.cell? ⟨g1, o1 + i * 2 + 1, none⟩ = wr.cell? ⟨g1, o1 + i * 2 + 1, none⟩ from by rw [HQ.out]; rfl] at k1'
   have j0' := j0
   rw [show w.cell? ⟨g2, o2 + i * 2, none⟩ = wr.cell? ⟨g2, o2 + i * 2, none⟩ from by rw [HQ.out]; rfl] at j0'
   have j1' := j1
   rw [show w.cell? ⟨g2, o2 + i * 2 + 1, none⟩ = wr.cell? ⟨g2, o2 + i * 2 + 1, none⟩ from by rw [HQ.out]; rfl] at j1'
   have hin' : (i : Int) < n := by omega
   clear H1 H2
   go_wp2
   go_quiet (fail)
   go_wp2
   go_roundw
   case rel => exact ⟨i + 1, by first | rfl | (congr 1; omega), by omega, _, by rw [HQ.out]; exact drewN_add _ _ _⟩
   case measure => simp [intOf]; omega
  ·obtain rfl : i = n := by omega
   clear H1 H2
   go_wp2
   go_ret
   exact ⟨rfl, q, HQ.out⟩
end Go.Proofs.YtobnpllppohofaaGreatDoor
