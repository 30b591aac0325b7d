/- How many instructions there are, and blocks. -/
import Derived.Test.YtkgjcjakadofpaaDoorGSmall
namespace Go.Proofs.YtkgjcjakadofpaaDoor
open Go.RowKit

def sumIns (bs : List Bl) : Nat := (bs.map fun b => b.ins.length).sum
theorem sumIns_take {bs : List Bl} {i : Nat} (h : i < bs.length) : sumIns (bs.take (i + 1)) = sumIns (bs.take i) + (bs.getD i default).ins.length := by
  unfold sumIns
  rw [List.take_add_one, List.map_append, List.sum_append, List.getElem?_eq_getElem h]
  congr 1
  simp [List.getD, List.getElem?_eq_getElem h]
theorem sumIns_le (bs : List Bl) (i : Nat) : sumIns (bs.take i) ≤ sumIns bs := by
  have : sumIns bs = sumIns (bs.take i) + sumIns (bs.drop i) := by
    unfold sumIns
    rw [← List.sum_append, ← List.map_append, List.take_append_drop]
  omega
set_option maxRecDepth 100000 in
set_option maxHeartbeats 1000000 in
theorem count_any (G : Gr) (pv vv av bv : Value) (w : World) (h : GrAt w pv vv av bv G) (hs : countG G.blocks ≤ 1000000000) :
    Calls Tryd.prog 17 #[.agg #[.string G.name, pv, .int .u8 G.result, vv, av, bv]] w fun e w' => e = .returned (.int .i64 (countG G.blocks : Nat)) ∧ Below w.heap.size w w' := by
  obtain ⟨nm, ps, r, vs, ars, bs⟩ := G
  have hB := h.bs
  obtain ⟨a, c, rfl, hlen⟩ := hB.form
  have HI : Hid (∀ i, i < bs.length → _) := fun i hi => hB.get hi
  change countG bs ≤ _ at hs
  have hc : countG bs = bs.length + sumIns bs := rfl
  have HC : Hid (countG bs = bs.length + sumIns bs) := hc
  have hbl : bs.length ≤ 1000000000 := by omega
  have hsm : Hid (bs.length + sumIns bs ≤ 1000000000) := by rw [← hc]; exact hs
  clear h hB hlen hc hs
  dsimp only at HI ⊢
  obtain ⟨R, hR⟩ : ∃ R, R = countG bs := ⟨_, rfl⟩
  rw [← hR]
  have HR : Hid (R = bs.length + sumIns bs) := hR.trans HC.out
  clear hR HC
  obtain ⟨n, hn⟩ : ∃ n, n = bs.length := ⟨_, rfl⟩
  rw [← hn] at hbl ⊢
  have HN : Hid (n = bs.length) := hn
  clear hn
  go_enter Tryd.func17, Tryd.ntmps17
  go_wp2
  go_loopw [3, 12] (fun vm vi wr => ∃ i : Nat, vi = .int .i64 i ∧ i ≤ n ∧ vm = .int .i64 ((n + sumIns (bs.take i) : Nat) : Int) ∧ Hid (Below w.heap.size w wr)) (fun _ vi _ => n - (intOf vi).toNat)
  case atStart => exact ⟨0, rfl, by omega, by simp [sumIns], below_alloc (Below.refl _ _) _⟩
  case round =>
    obtain ⟨i, rfl, hi, rfl, hr⟩ := hrel
    by_cases hin : i < n
    · obtain ⟨g, o, iv, rfl, hg, c0, c1, c2, c3, c4, c5, hins⟩ := HI.out i (by rw [← HN.out]; exact hin)
      obtain ⟨ia, ic, rfl, hil⟩ := hins.form
      have hin' : (i : Int) < n := by omega
      have hcl : ∀ j, wr.cell? ⟨g, j, none⟩ = w.cell? ⟨g, j, none⟩ := fun j => hr.out.cell (p := ⟨g, j, none⟩) hg
      rw [← hcl] at c0 c1 c2 c3 c4 c5
      have HT : Hid (sumIns (bs.take (i + 1)) = sumIns (bs.take i) + (bs.getD i default).ins.length) := sumIns_take (by rw [← HN.out]; exact hin)
      have hle : n + sumIns (bs.take (i + 1)) ≤ 1000000000 := by
        have := sumIns_le bs (i + 1)
        have := hsm.out
        rw [← HN.out] at this
        omega
      have hle2 : n + (sumIns (bs.take i) + (bs.getD i default).ins.length) ≤ 1000000000 := by rw [← HT.out]; exact hle
      clear HI hcl hins hle hil
      generalize sumIns (bs.take i) = S at *
      generalize (bs.getD i default).ins.length = L at *
      generalize (bs.getD i default).tm.kind = t0 at *
      generalize (bs.getD i default).tm.arg = t1 at *
      generalize (bs.getD i default).tm.t0 = t2 at *
      generalize (bs.getD i default).tm.t1 = t3 at *
      generalize (bs.getD i default).tm.trap = t4 at *
      go_wp2
      go_roundw
      case rel => exact ⟨i + 1, by first | rfl | (congr 1; omega), by omega, by rw [HT.out]; first | rfl | (congr 1; omega), below_alloc hr.out _⟩
      case measure => simp [intOf]; omega
    · obtain rfl : i = n := by omega
      clear HI
      go_wp2
      go_ret
      exact ⟨ret_int (by rw [HR.out, HN.out, List.take_length]), hr.out⟩
end Go.Proofs.YtkgjcjakadofpaaDoor
