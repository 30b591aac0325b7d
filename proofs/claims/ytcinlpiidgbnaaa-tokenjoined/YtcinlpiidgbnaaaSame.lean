/- Two lists of tokens, compared. -/
import Derived.Test.YtcinlpiidgbnaaaScan
namespace Go.Proofs.Ytcinlpiidgbnaaa
open Go.RowKit

theorem tokCells_at (ts : List Tok) : ∀ (j : Nat) (h : j < ts.length), (tokCells ts)[3 * j]? = some (.int .u8 (ts[j].1 : Int)) ∧ (tokCells ts)[3 * j + 1]? = some (.int .i64 (ts[j].2.1 : Int)) ∧ (tokCells ts)[3 * j + 2]? = some (.int .i64 (ts[j].2.2 : Int)) := by
  induction ts with
  | nil => intro j h; simp at h
  | cons t u ih =>
    intro j h
    have e : tokCells (t :: u) = (.int .u8 (t.1 : Int)) :: (.int .i64 (t.2.1 : Int)) :: (.int .i64 (t.2.2 : Int)) :: tokCells u := rfl
    rw [e]
    match j, h with
    | 0, _ => exact ⟨rfl, rfl, rfl⟩
    | j + 1, h =>
      have hj : j < u.length := by simpa using h
      have := ih j hj
      rw [show 3 * (j + 1) = 3 * j + 3 by omega]
      simpa using this
/-- The tokens ts lie where the slice v says. -/
def Lies (w : World) (v : Value) (ts : List Tok) : Prop :=
  ∃ ad cap, v = .slice ad ts.length cap ∧ (0 < ts.length → ∃ g, ad = some ⟨g, 0, none⟩ ∧ ∀ j (h : j < ts.length), w.cell? ⟨g, j * 3, none⟩ = some (.int .u8 (ts[j].1 : Int)) ∧ w.cell? ⟨g, j * 3 + 1, none⟩ = some (.int .i64 (ts[j].2.1 : Int)) ∧ w.cell? ⟨g, j * 3 + 2, none⟩ = some (.int .i64 (ts[j].2.2 : Int)))
theorem lies_own {w : World} {base : Nat} {v : Value} {ts : List Tok} (h : w.ownsRow base 35 3 v ts.length (tokCells ts)) : Lies w v ts := by
  rcases h.2 with ⟨hv, h0⟩ | ⟨g, cap, cur, hv, _⟩
  · exact ⟨none, 0, by rw [hv, h0], fun h => by omega⟩
  · subst hv
    refine ⟨some ⟨g, 0, none⟩, cap, rfl, fun _ => ⟨g, rfl, fun j hj => ?_⟩⟩
    have hc := tokCells_at ts j hj
    rw [h.cellAt (j * 3) (by omega), h.cellAt (j * 3 + 1) (by omega), h.cellAt (j * 3 + 2) (by omega), Nat.mul_comm j 3]
    exact hc
theorem eql_tok (x0 x1 x2 y0 y1 y2 : Int) (w : World) : (binOp .eql 35 (.agg #[.int .u8 x0, .int .i64 x1, .int .i64 x2]) (.agg #[.int .u8 y0, .int .i64 y1, .int .i64 y2])).run Try.prog w = .ok (.bool (x0 == y0 && x1 == y1 && x2 == y2)) w := by
  have hS : Try.prog.underlying 35 = some (.struct (Try.prog.fieldsOf 35)) := by kernel_rfl
  have hp : Try.prog.stoodInHeld 35 = false := by kernel_rfl
  rw [run_eql_struct, show (10000 : Nat) = 9999 + 1 from rfl, run_equalIn_agg w 9999 35 _ _ hS hp]
  simp only [Program.fieldsOf, Try.underlying35]
  go_simp
  by_cases h1 : x0 = y0 <;> by_cases h2 : x1 = y1 <;> by_cases h3 : x2 = y2 <;> simp [h1, h2, h3]
theorem neq_tok (x0 x1 x2 y0 y1 y2 : Int) (w : World) : (binOp .neq 35 (.agg #[.int .u8 x0, .int .i64 x1, .int .i64 x2]) (.agg #[.int .u8 y0, .int .i64 y1, .int .i64 y2])).run Try.prog w = .ok (.bool (!(x0 == y0 && x1 == y1 && x2 == y2))) w := by
  have hS : Try.prog.underlying 35 = some (.struct (Try.prog.fieldsOf 35)) := by kernel_rfl
  have hp : Try.prog.stoodInHeld 35 = false := by kernel_rfl
  rw [run_neq_struct, show (10000 : Nat) = 9999 + 1 from rfl, run_equalIn_agg w 9999 35 _ _ hS hp]
  simp only [Program.fieldsOf, Try.underlying35]
  go_simp
  by_cases h1 : x0 = y0 <;> by_cases h2 : x1 = y1 <;> by_cases h3 : x2 = y2 <;> simp [h1, h2, h3]
theorem eql_flt (x0 x1 y0 y1 : Int) (w : World) : (binOp .eql 26 (.agg #[.int .i64 x0, .int .i64 x1]) (.agg #[.int .i64 y0, .int .i64 y1])).run Try.prog w = .ok (.bool (x0 == y0 && x1 == y1)) w := by
  have hS : Try.prog.underlying 26 = some (.struct (Try.prog.fieldsOf 26)) := by kernel_rfl
  have hp : Try.prog.stoodInHeld 26 = false := by kernel_rfl
  rw [run_eql_struct, show (10000 : Nat) = 9999 + 1 from rfl, run_equalIn_agg w 9999 26 _ _ hS hp]
  simp only [Program.fieldsOf, Try.underlying26]
  go_simp
  by_cases h1 : x0 = y0 <;> by_cases h2 : x1 = y1 <;> simp [h1, h2]
theorem neq_flt (x0 x1 y0 y1 : Int) (w : World) : (binOp .neq 26 (.agg #[.int .i64 x0, .int .i64 x1]) (.agg #[.int .i64 y0, .int .i64 y1])).run Try.prog w = .ok (.bool (!(x0 == y0 && x1 == y1))) w := by
  have hS : Try.prog.underlying 26 = some (.struct (Try.prog.fieldsOf 26)) := by kernel_rfl
  have hp : Try.prog.stoodInHeld 26 = false := by kernel_rfl
  rw [run_neq_struct, show (10000 : Nat) = 9999 + 1 from rfl, run_equalIn_agg w 9999 26 _ _ hS hp]
  simp only [Program.fieldsOf, Try.underlying26]
  go_simp
  by_cases h1 : x0 = y0 <;> by_cases h2 : x1 = y1 <;> simp [h1, h2]
set_option maxHeartbeats 400000 in
theorem same_any (va vb : Value) (ta tb : List Tok) (w : World) (ha : Lies w va ta) (hb : Lies w vb tb) (hl : ta.length ≤ 65537) :
    Calls Try.prog 12 #[va, vb] w fun e w' => e = .returned (.bool (decide (ta = tb))) ∧ ∃ n, w' = w.drewN n := by
  obtain ⟨ada, capa, rfl, hca⟩ := ha
  obtain ⟨adb, capb, rfl, hcb⟩ := hb
  by_cases hle : ta.length = tb.length
  · have HE : Hid (ta.length = tb.length) := hle
    have HA : Hid _ := hca
    have HB : Hid _ := hcb
    have hle' : ((ta.length : Int) != tb.length) = false := by simp; omega
    clear hca hcb
    obtain ⟨n, hn⟩ : ∃ n, ta.length = n := ⟨_, rfl⟩
    rw [← hle]
    rw [hn] at hle' hl ⊢
    rw [← hle] at hle'
    rw [hn] at hle'
    have HN : Hid (ta.length = n) := hn
    clear hn hle hle'
    have n35 := neq_tok
    go_enter Try.func12, Try.ntmps12
    go_wp2
    go_loopw [5] (fun i wr => ∃ (k m : Nat), k ≤ n ∧ i = .int .i64 k ∧ wr = w.drewN m ∧ Hid (∀ j < k, ta[j]? = tb[j]?)) (fun i _ => n - (intOf i).toNat)
    case atStart => exact ⟨0, 0, by omega, rfl, rfl, fun j hj => by omega⟩
    case round =>
      obtain ⟨k, m, hk, rfl, rfl, hr⟩ := hrel
      by_cases hlt : k < n
      · have hlt' : (k : Int) < n := by omega
        obtain ⟨ga, rfl, ca⟩ := HA.out (by rw [HN.out]; omega)
        obtain ⟨gb, rfl, cb⟩ := HB.out (by rw [← HE.out, HN.out]; omega)
        obtain ⟨a0, a1, a2⟩ := ca k (by rw [HN.out]; omega)
        obtain ⟨b0, b1, b2⟩ := cb k (by rw [← HE.out, HN.out]; omega)
        obtain ⟨x0, hx0⟩ : ∃ x : Int, ((ta[k]'(by rw [HN.out]; omega)).1 : Int) = x := ⟨_, rfl⟩
        obtain ⟨x1, hx1⟩ : ∃ x : Int, ((ta[k]'(by rw [HN.out]; omega)).2.1 : Int) = x := ⟨_, rfl⟩
        obtain ⟨x2, hx2⟩ : ∃ x : Int, ((ta[k]'(by rw [HN.out]; omega)).2.2 : Int) = x := ⟨_, rfl⟩
        obtain ⟨y0, hy0⟩ : ∃ x : Int, ((tb[k]'(by rw [← HE.out, HN.out]; omega)).1 : Int) = x := ⟨_, rfl⟩
        obtain ⟨y1, hy1⟩ : ∃ x : Int, ((tb[k]'(by rw [← HE.out, HN.out]; omega)).2.1 : Int) = x := ⟨_, rfl⟩
        obtain ⟨y2, hy2⟩ : ∃ x : Int, ((tb[k]'(by rw [← HE.out, HN.out]; omega)).2.2 : Int) = x := ⟨_, rfl⟩
        rw [hx0] at a0; rw [hx1] at a1; rw [hx2] at a2
        rw [hy0] at b0; rw [hy1] at b1; rw [hy2] at b2
        have HX : Hid (((x0 = y0 ∧ x1 = y1) ∧ x2 = y2) ↔ ta[k]? = tb[k]?) := by
          show _ ↔ _
          rw [List.getElem?_eq_getElem (by rw [HN.out]; omega), List.getElem?_eq_getElem (by rw [← HE.out, HN.out]; omega)]
          simp only [Option.some.injEq, Prod.ext_iff]
          omega
        clear ca cb hx0 hx1 hx2 hy0 hy1 hy2
        by_cases he : (x0 = y0 ∧ x1 = y1) ∧ x2 = y2
        · have hbe : (x0 == y0 && x1 == y1 && x2 == y2) = true := by simp [he.1.1, he.1.2, he.2]
          have hr2 : Hid (∀ j < k + 1, ta[j]? = tb[j]?) := by
            intro j hj
            by_cases h : j < k
            · exact hr.out j h
            · rw [show j = k by omega]; exact HX.out.1 he
          clear he hr HX
          go_wp2_with fail
          go_quiet (fail)
          go_wp2
          go_roundw
          case rel => exact ⟨k + 1, _, by omega, by go_num, rfl, hr2⟩
          case measure => simp [intOf]; omega
        · have hbe : (x0 == y0 && x1 == y1 && x2 == y2) = false := by
            rw [Bool.eq_false_iff]; intro h; simp only [Bool.and_eq_true, beq_iff_eq] at h; exact he h
          have hne : Hid (decide (ta = tb) = false) := by
            show _ = _
            rw [decide_eq_false_iff_not]
            intro h; exact he (HX.out.2 (by rw [h]))
          clear he HX
          go_wp2_with fail
          go_quiet (fail)
          go_wp2
          go_ret
          exact ⟨ret_bool hne.out.symm, _, World.drewN_drewN _ _ _⟩
      · have heq : Hid (decide (ta = tb) = true) := by
          show _ = _
          rw [decide_eq_true_eq]
          apply List.ext_getElem?
          intro j
          by_cases h : j < k
          · exact hr.out j h
          · rw [List.getElem?_eq_none (by rw [HN.out]; omega), List.getElem?_eq_none (by rw [← HE.out, HN.out]; omega)]
        go_wp2
        go_ret
        exact ⟨ret_bool heq.out.symm, _, rfl⟩
  · have hne : Hid (decide (ta = tb) = false) := by
      show _ = _
      rw [decide_eq_false_iff_not]
      intro h; exact hle (by rw [h])
    have hle' : ((ta.length : Int) != tb.length) = true := by simp; omega
    clear hca hcb hle
    go_enter Try.func12, Try.ntmps12
    go_wp2
    go_ret
    exact ⟨ret_bool hne.out.symm, 0, rfl⟩
end Go.Proofs.Ytcinlpiidgbnaaa
