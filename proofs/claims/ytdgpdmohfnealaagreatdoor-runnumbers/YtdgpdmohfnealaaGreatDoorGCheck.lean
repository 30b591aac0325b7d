/- Check finds the first graph that is not right. -/
import Derived.Test.YtdgpdmohfnealaaGreatDoorGRight3
namespace Go.Proofs.YtdgpdmohfnealaaGreatDoor
open Go.RowKit

def checkF (p : List Gr) : List Gr → Nat → Int × Int
  | [], _ => (0, 0)
  | G :: l, i => if graphB p G = true then checkF p l (i + 1) else (4, (i : Int))
def checkT (p : List Gr) : Int × Int := if 64 < p.length then (3, 0) else checkF p p 0
theorem checkF_drop {p l : List Gr} {i : Nat} (h : i < l.length) : checkF p (l.drop i) i = if graphB p (l.getD i default) = true then checkF p (l.drop (i + 1)) (i + 1) else (4, (i : Int)) := by
  have e : l.getD i default = l[i] := by simp [List.getD, List.getElem?_eq_getElem h]
  rw [e, List.drop_eq_getElem_cons h]
  rfl
theorem ret_errs {a b c d : Int} (h : (a, b) = (c, d)) : Ending.returned (.tuple #[.int .i64 a, .int .i64 b]) = .returned (.tuple #[.int .i64 c, .int .i64 d]) := by cases h; rfl
set_option maxRecDepth 100000 in
set_option maxHeartbeats 4000000 in
theorem check_any (p : List Gr) (ppv : Value) (w : World) (hp : GrsAt w ppv p) (hP : PartsAt w) (hn : p.length ≤ 64 → ∀ G ∈ p, G.blocks.length ≤ 100000) :
    Calls Tryz.prog 10 #[ppv] w fun e w' => e = .returned (.tuple #[.int .i64 (checkT p).1, .int .i64 (checkT p).2]) ∧ Below w.heap.size w w' := by
  obtain ⟨qa, qc, rfl, hql⟩ := hp.form
  have HC : Hid (∀ i, i < p.length → p.length ≤ 64 → ∀ pv vv av bv W, Below w.heap.size w W → GrAt w pv vv av bv (p.getD i default) → Calls Tryz.prog 14 #[.slice qa p.length qc, .agg #[.string (p.getD i default).name, pv, .int .u8 (p.getD i default).result, vv, av, bv]] W fun e w' => e = .returned (.bool (graphB p (p.getD i default))) ∧ Below W.heap.size W w') := fun i hi h64 pv vv av bv W hb h => gright_any p _ _ pv vv av bv W (hp.below hb) (h.below hb) (hP.below hb) (hn h64 _ (by rw [List.getD, List.getElem?_eq_getElem hi]; exact List.getElem_mem hi))
  have HG : Hid (∀ i, i < p.length → _) := fun i hi => hp.get (i := i) hi
  have HDR : Hid (∀ i, i < p.length → _) := fun i hi => checkF_drop (p := p) (l := p) (i := i) hi
  have HZ : Hid (checkF p (p.drop p.length) p.length = (0, 0)) := by show _ = _; rw [List.drop_length]; rfl
  obtain ⟨R, hR⟩ : ∃ R, R = checkT p := ⟨_, rfl⟩
  rw [← hR]
  clear hp hP hn
  by_cases h64 : 64 < p.length
  · have HR : Hid ((3, 0) = R) := by show _ = _; rw [hR, checkT, if_pos h64]
    have h64' : (64 : Int) < p.length := by omega
    clear hR HC HG HDR HZ
    go_enter Tryz.func10, Tryz.ntmps10
    go_wp2
    go_ret2
    exact ⟨ret_errs HR.out, Below.refl _ _⟩
  · have HR : Hid (checkF p (p.drop 0) 0 = R) := by show _ = _; rw [hR, checkT, if_neg h64]; rfl
    have hle : (p.length : Int) ≤ 64 := by omega
    have HLE : Hid (p.length ≤ 64) := by show p.length ≤ 64; omega
    clear hR
    obtain ⟨n, hnl⟩ : ∃ n, n = p.length := ⟨_, rfl⟩
    rw [← hnl] at HC HG HDR HZ HLE hle ⊢
    clear hnl h64 hql
    go_enter Tryz.func10, Tryz.ntmps10
    go_wp2
    go_loopw [11] (fun vi wr => ∃ i : Nat, vi = .int .i64 i ∧ i ≤ n ∧ Hid (checkF p (p.drop i) i = R ∧ Below w.heap.size w wr)) (fun vi _ => n - (intOf vi).toNat)
    case atStart => exact ⟨0, rfl, by omega, HR.out, Below.refl _ _⟩
    case round =>
      obtain ⟨i, rfl, hi, hr⟩ := hrel
      clear HR
      by_cases hin : i < n
      · obtain ⟨g, o, pv, vv, av, bv, rfl, hg, c0, c1, c2, c3, c4, c5, hG⟩ := HG.out i hin
        have hin' : (i : Int) < n := by omega
        have hcl : ∀ j, wr.cell? ⟨g, j, none⟩ = w.cell? ⟨g, j, none⟩ := fun j => hr.out.2.cell (p := ⟨g, j, none⟩) hg
        rw [← hcl] at c0 c1 c2 c3 c4 c5
        have HD := HDR.out i hin
        rw [hr.out.1] at HD
        have HCI := fun W hb => HC.out i hin HLE.out pv vv av bv W hb hG
        obtain ⟨pa, pc, va, vc, aa, ac, ba, bc, rfl, rfl, rfl, rfl, _, _, _, _⟩ := hG.openF
        clear hG hcl HG HDR HC HZ
        generalize graphB p (p.getD i default) = gb at *
        generalize (p.getD i default).name = nm at *
        generalize (p.getD i default).result = r at *
        generalize (p.getD i default).params.length = pl at *
        generalize (p.getD i default).vars.length = m at *
        generalize (p.getD i default).arrs.length = al at *
        generalize (p.getD i default).blocks.length = bl at *
        have HB1 : Hid (Below w.heap.size w (wr.alloc (.cells #[.string nm, .slice pa pl pc, .int .u8 r, .slice va m vc, .slice aa al ac, .slice ba bl bc] 40))) := below_alloc hr.out.2 _
        have HCJ : Hid _ := HCI
        have HDD : Hid _ := HD
        clear HCI HD
        cases gb with
        | true =>
          go_wp2_with (go_at_call 14; go_loud (refine Calls.mono (by exact HCJ.out _ HB1.out) ?_; rintro e w1 ⟨rfl, hb1⟩; have HW1 : Hid _ := hb1; clear hb1))
          go_roundw
          case rel => exact ⟨i + 1, by first | rfl | (congr 1; omega), by omega, by have h9 := HDD.out; simpa using h9.symm, below_trans HB1.out HW1.out⟩
          case measure => simp [intOf]; omega
        | false =>
          go_wp2_with (go_at_call 14; go_loud (refine Calls.mono (by exact HCJ.out _ HB1.out) ?_; rintro e w1 ⟨rfl, hb1⟩; have HW1 : Hid _ := hb1; clear hb1))
          go_ret2
          have h8 : R = (4, (i : Int)) := by have h9 := HDD.out; rw [h9]; simp
          exact ⟨ret_errs h8.symm, below_trans HB1.out HW1.out⟩
      · obtain rfl : i = n := by omega
        have hd : (0, 0) = R := by have h9 := hr.out.1; rw [HZ.out] at h9; exact h9
        have HD : Hid _ := hd
        clear hd HG HDR HC HZ
        go_wp2
        go_ret2
        exact ⟨ret_errs HD.out, hr.out.2⟩
end Go.Proofs.YtdgpdmohfnealaaGreatDoor
