/- Right parameters, right ends. -/
import Derived.Test.YtabpnjakfoofpaaGreatDoorGChk2M
import Derived.Laws.StructEq
namespace Go.Proofs.YtabpnjakfoofpaaGreatDoor
open Go.RowKit

theorem eql_pair_d (d : Nat) (a b c e : Int) (w : World) : (Op.equalIn (d + 1 + 1) 35 (.agg #[.int .i64 a, .int .i64 b]) (.agg #[.int .i64 c, .int .i64 e])).run Tryz.prog w = .ok (a == c && b == e) w := by
  rw [Op.equalIn]
  simp only [Sem.run_bind, run_underlying Tryz.underlying35, Result.andThen_ok]
  simp only [Tryz.sizeOf3, Result.andThen_ok, Std.Legacy.Range.forIn_eq_forIn_range']
  simp only [Std.Legacy.Range.size, List.range', List.forIn_cons, List.forIn_nil]
  go_simp
  by_cases h1 : a = c <;> by_cases h2 : b = e <;> simp [h1, h2]
theorem eql_pair (a b c e : Int) (w : World) : (Op.equalIn 9999 35 (.agg #[.int .i64 a, .int .i64 b]) (.agg #[.int .i64 c, .int .i64 e])).run Tryz.prog w = .ok (a == c && b == e) w := eql_pair_d 9997 a b c e w
theorem eql_term (x0 x1 x2 x3 x4 y0 y1 y2 y3 y4 : Int) (w : World) : (binOp .eql 38 (.agg #[.int .u8 x0, .int .i64 x1, .int .i64 x2, .int .i64 x3, .int .u8 x4]) (.agg #[.int .u8 y0, .int .i64 y1, .int .i64 y2, .int .i64 y3, .int .u8 y4])).run Tryz.prog w = .ok (.bool (x0 == y0 && x1 == y1 && x2 == y2 && x3 == y3 && x4 == y4)) w := by
  have hS : Tryz.prog.underlying 38 = some (.struct (Tryz.prog.fieldsOf 38)) := by kernel_rfl
  have hp : Tryz.prog.stoodInHeld 38 = false := by kernel_rfl
  rw [run_eql_struct, show (10000 : Nat) = 9999 + 1 from rfl, run_equalIn_agg w 9999 38 _ _ hS hp]
  simp only [Program.fieldsOf, Tryz.underlying38]
  have hq := eql_pair
  go_simp
  by_cases h0 : x0 = y0 <;> by_cases h1 : x1 = y1 <;> by_cases h2 : x2 = y2 <;> by_cases h3 : x3 = y3 <;> by_cases h4 : x4 = y4 <;> simp [h0, h1, h2, h3, h4]
theorem slice_low {g o m c f : Nat} (hm : m ≤ c) (hf : f ≤ m) : ∀ W, (Instr.slice 22 (.slice (some ⟨g, o, none⟩) m c) none (some (.int .i64 (f : Int))) none).run Tryz.prog W = .ok (.slice (some ⟨g, o, none⟩) f c) W := fun W => by
  have hs : ∀ W : World, (sizeOf (Tryz.prog.elem 22)).run Tryz.prog W = .ok 1 W := fun W => by kernel_rfl
  have hu : Tryz.prog.underlying 22 = some (.slice (Tryz.prog.elem 22)) := by kernel_rfl
  rw [run_slice_h W 22 _ m c hu .i64 f (by omega) (by omega), hs]
  simp [Result.andThen, sliced, Addr.add]
def parOk (n : Nat) (ps : List Int) (j : Nat) : Bool := inB (ps.getD j 0) n && !((ps.take j).contains (ps.getD j 0))
def paramsB (G : Gr) : Bool := decide (G.params.length ≤ 8) && (List.range G.params.length).all (parOk G.vars.length G.params)
set_option maxRecDepth 100000 in
set_option maxHeartbeats 1000000 in
theorem params_any (G : Gr) (pv vv av bv : Value) (w : World) (h : GrAt w pv vv av bv G) :
    Calls Tryz.prog 61 #[.agg #[.string G.name, pv, .int .u8 G.result, vv, av, bv]] w fun e w' => e = .returned (.bool (paramsB G)) ∧ Below w.heap.size w w' := by
  obtain ⟨pa, pc, va, vc, aa, ac, ba, bc, rfl, rfl, rfl, rfl, hpl, _, _, _⟩ := h.openF
  obtain ⟨nm, ps, r, vs, ars, bs⟩ := G
  dsimp only at *
  have hcap := h.ps.cap
  dsimp only at hcap
  have HPS : Hid (∀ i, i < ps.length → _) := fun i hi => h.ps.get (i := i) hi
  have HPL : Hid (∀ v W, Calls Tryz.prog 28 #[.int .i64 v, .int .i64 (vs.length : Int)] W fun e w' => e = .returned (.bool (inB v vs.length)) ∧ w' = W) := fun v W => isPlace_any v _ W
  unfold paramsB
  dsimp only
  by_cases h8 : ps.length ≤ 8
  · have h8' : (ps.length : Int) ≤ 8 := by omega
    obtain ⟨R, hR⟩ : ∃ R, R = (decide (ps.length ≤ 8) && (List.range ps.length).all (parOk vs.length ps)) := ⟨_, rfl⟩
    rw [← hR]
    have HR : Hid (R = ((List.range ps.length).drop 0).all (parOk vs.length ps)) := by show _ = _; rw [hR, decide_eq_true h8]; rfl
    have HCN : Hid (∀ (i : Nat) (g o : Nat) (x : Int) (W : World), i < ps.length → (∀ j, j < ps.length → W.cell? ⟨g, o + j, none⟩ = some (.int .i64 (ps.getD j 0))) → Calls Tryz.prog 91 #[.slice (some ⟨g, o, none⟩) i pc, .int .i64 x] W fun e w' => e = .returned (.bool ((ps.take i).contains x)) ∧ w' = W) := fun i g o x W hi hc => Tryz.slices_Contains_int g o i pc ps x W (by omega) (by omega) hc
    clear hR h
    go_enter Tryz.func61, Tryz.ntmps61
    go_wp2
    go_loopw [12] (fun vi wr => ∃ i : Nat, vi = .int .i64 i ∧ i ≤ ps.length ∧ Hid (R = ((List.range ps.length).drop i).all (parOk vs.length ps)) ∧ wr = w.alloc (.cells #[.string nm, .slice pa ps.length pc, .int .u8 r, .slice va vs.length vc, .slice aa ars.length ac, .slice ba bs.length bc] 28)) (fun vi _ => ps.length - (intOf vi).toNat)
    case atStart => exact ⟨0, rfl, by omega, HR.out, rfl⟩
    case round =>
      obtain ⟨i, rfl, hi, hr, rfl⟩ := hrel
      clear HR
      by_cases hin : i < ps.length
      · obtain ⟨g, o, rfl, hg, cv⟩ := HPS.out i hin
        have hall : ∀ j, j < ps.length → w.cell? ⟨g, o + j, none⟩ = some (.int .i64 (ps.getD j 0)) := fun j hj => by
          obtain ⟨g', o', he, _, hc⟩ := HPS.out j hj
          cases he
          exact hc
        have hin' : (i : Int) < ps.length := by omega
        have hd : R = (parOk vs.length ps i && ((List.range ps.length).drop (i + 1)).all (parOk vs.length ps)) := by
          rw [hr.out, all_drop (d := 0) (by simpa using hin)]
          congr 2
          simp [List.getD, hin]
        unfold parOk at hd
        have HPI := HPL.out (ps.getD i 0)
        have HCI : Hid (∀ W, Below w.heap.size w W → Calls Tryz.prog 91 #[.slice (some ⟨g, o, none⟩) i pc, .int .i64 (ps.getD i 0)] W fun e w' => e = .returned (.bool ((ps.take i).contains (ps.getD i 0))) ∧ w' = W) := fun W hb => HCN.out i g o _ W hin (fun j hj => (hb.cell (p := ⟨g, o + j, none⟩) hg).trans (hall j hj))
        have hsl := slice_low (g := g) (o := o) hcap (Nat.le_of_lt hin)
        have HB0 : Hid (Below w.heap.size w (w.alloc (.cells #[.string nm, .slice (some ⟨g, o, none⟩) ps.length pc, .int .u8 r, .slice va vs.length vc, .slice aa ars.length ac, .slice ba bs.length bc] 28))) := below_alloc (Below.refl _ _) _
        generalize ps.getD i 0 = x at *
        generalize (ps.take i).contains x = ct at *
        clear HPS HCN hall
        cases hb : inB x vs.length with
        | false =>
          rw [hb] at hd HPI
          simp only [Bool.false_and] at hd
          have HD : Hid (R = false) := hd
          have HPJ : Hid _ := HPI
          clear hd HPI hb
          go_wp2_with (go_at_call 28; refine Calls.mono (HPJ.out _) ?_; rintro e wx ⟨rfl, hwx⟩; subst wx)
          go_ret
          exact ⟨ret_bool HD.out.symm, HB0.out⟩
        | true =>
          rw [hb] at hd HPI
          have HPJ : Hid _ := HPI
          cases ct with
          | true =>
            have HD : Hid (R = false) := by show _ = _; rw [hd]; rfl
            clear hd HPI hb
            go_wp2_with (first
              | (go_at_call 28; refine Calls.mono (HPJ.out _) ?_; rintro e wx ⟨rfl, hwx⟩; subst wx)
              | (go_at_call 91; refine Calls.mono (HCI.out _ HB0.out) ?_; rintro e wx ⟨rfl, hwx⟩; subst wx))
            go_ret
            exact ⟨ret_bool HD.out.symm, HB0.out⟩
          | false =>
            have HD : Hid (R = ((List.range ps.length).drop (i + 1)).all (fun j => parOk vs.length ps j)) := by show _ = _; rw [hd]; rfl
            clear hd HPI hb
            go_wp2_with (first
              | (go_at_call 28; refine Calls.mono (HPJ.out _) ?_; rintro e wx ⟨rfl, hwx⟩; subst wx)
              | (go_at_call 91; refine Calls.mono (HCI.out _ HB0.out) ?_; rintro e wx ⟨rfl, hwx⟩; subst wx))
            go_roundw
            case rel => exact ⟨i + 1, by first | rfl | (congr 1; omega), by omega, HD.out, by first | rfl | trivial⟩
            case measure => simp [intOf]; omega
      · obtain rfl : i = ps.length := by omega
        have hd : R = true := by rw [hr.out, List.drop_eq_nil_of_le (by simp)]; rfl
        have HD : Hid _ := hd
        clear hd HPS HCN
        go_wp2
        go_ret
        exact ⟨ret_bool HD.out.symm, below_alloc (Below.refl _ _) _⟩
  · have h8' : ¬ (ps.length : Int) ≤ 8 := by omega
    rw [decide_eq_false h8]
    clear HPS HPL h
    go_enter Tryz.func61, Tryz.ntmps61
    go_wp2
    go_ret
    exact ⟨rfl, below_alloc (Below.refl _ _) _⟩
end Go.Proofs.YtabpnjakfoofpaaGreatDoor
