/- Graphs that are alike are called the same. -/
import Derived.Test.YtjfcimkhjjkadaaGreatDoorGQ0M
import Derived.Test.YtjfcimkhjjkadaaGreatDoorGChk4
import Derived.Test.YtjfcimkhjjkadaaGreatDoorLOrd
namespace Go.Proofs.YtjfcimkhjjkadaaGreatDoor
open Go.RowKit

theorem sameI_yes (l : List Int) (v1 v2 : Value) (w : World) (h1 : IntsAt w v1 l) (h2 : IntsAt w v2 l) : Calls Tryz.prog 7 #[v1, v2] w fun e w' => e = .returned (.bool true) ∧ ∃ k, w' = w.drewN k := by
  have h := sameI_any l l v1 v2 w h1 h2
  rw [decide_eq_true rfl] at h
  exact h
theorem row_form {w : World} {v : Value} {n : Nat} {cs : List Value} (h : RowAt w v n cs) : ∃ a c, v = .slice a n c ∧ n ≤ 140737488355328 := by
  obtain ⟨a, c, hv, hn, _⟩ := h
  exact ⟨a, c, hv, hn.2⟩
theorem neq_arr (a b : Int) (w : World) : (binOp .neq 79 (.agg #[.int .u8 a, .int .i64 b]) (.agg #[.int .u8 a, .int .i64 b])).run Tryz.prog w = .ok (.bool false) w := by
  have hS : Tryz.prog.underlying 79 = some (.struct (Tryz.prog.fieldsOf 79)) := by kernel_rfl
  have hp : Tryz.prog.stoodInHeld 79 = false := by kernel_rfl
  rw [run_neq_struct, show (10000 : Nat) = 9999 + 1 from rfl, run_equalIn_agg w 9999 79 _ _ hS hp]
  simp only [Program.fieldsOf, Tryz.underlying79]
  go_simp
set_option maxRecDepth 100000 in
set_option maxHeartbeats 1000000 in
theorem sameT_yes (l : List Int) (v1 v2 : Value) (w : World) (h1 : TysAt w v1 l) (h2 : TysAt w v2 l) : Calls Tryz.prog 34 #[v1, v2] w fun e w' => e = .returned (.bool true) ∧ ∃ k, w' = w.drewN k := by
  obtain ⟨a1, c1, rfl, _⟩ := row_form h1
  obtain ⟨a2, c2, rfl, _⟩ := row_form h2
  have H1 : Hid (∀ i, i < l.length → _) := fun i hi => h1.get (i := i) hi
  have H2 : Hid (∀ i, i < l.length → _) := fun i hi => h2.get (i := i) hi
  clear h1 h2
  generalize l.length = n at *
  go_enter Tryz.func34, Tryz.ntmps34
  go_wp2
  go_loopw [5] (fun vi wr => ∃ i : Nat, vi = .int .i64 i ∧ i ≤ n ∧ Hid (∃ k, wr = w.drewN k)) (fun vi _ => n - (intOf vi).toNat)
  case atStart => exact ⟨0, rfl, by omega, 0, rfl⟩
  case round =>
    obtain ⟨i, rfl, hi, hr⟩ := hrel
    obtain ⟨q, hq⟩ := hr.out
    have HQ : Hid (wr = w.drewN q) := hq
    clear hq hr
    by_cases hin : i < n
    · obtain ⟨g1, o1, rfl, _, k0⟩ := H1.out i hin
      obtain ⟨g2, o2, rfl, _, j0⟩ := H2.out i hin
      have k0' := k0
      rw [show w.cell? ⟨g1, o1 + i, none⟩ = wr.cell? ⟨g1, o1 + i, none⟩ from by rw [HQ.out]; rfl] at k0'
      have j0' := j0
      rw [show w.cell? ⟨g2, o2 + i, none⟩ = wr.cell? ⟨g2, o2 + i, none⟩ from by rw [HQ.out]; rfl] at j0'
      have hin' : (i : Int) < n := by omega
      clear H1 H2
      go_wp2
      go_quiet (fail)
      go_wp2
      go_roundw
      case rel => exact ⟨i + 1, by first | rfl | (congr 1; omega), by omega, _, by rw [HQ.out]; exact drewN_add _ _ _⟩
      case measure => simp [intOf]; omega
    · obtain rfl : i = n := by omega
      clear H1 H2
      go_wp2
      go_ret
      exact ⟨rfl, q, HQ.out⟩
set_option maxRecDepth 100000 in
set_option maxHeartbeats 1000000 in
theorem sameA_yes (l : List (Int × Int)) (v1 v2 : Value) (w : World) (h1 : ArrsAt w v1 l) (h2 : ArrsAt w v2 l) : Calls Tryz.prog 35 #[v1, v2] w fun e w' => e = .returned (.bool true) ∧ ∃ k, w' = w.drewN k := by
  obtain ⟨a1, c1, rfl, _⟩ := row_form h1
  obtain ⟨a2, c2, rfl, _⟩ := row_form h2
  have H1 : Hid (∀ i, i < l.length → _) := fun i hi => h1.get (i := i) hi
  have H2 : Hid (∀ i, i < l.length → _) := fun i hi => h2.get (i := i) hi
  clear h1 h2
  generalize l.length = n at *
  have hne := neq_arr
  go_enter Tryz.func35, Tryz.ntmps35
  go_wp2
  go_loopw [5] (fun vi wr => ∃ i : Nat, vi = .int .i64 i ∧ i ≤ n ∧ Hid (∃ k, wr = w.drewN k)) (fun vi _ => n - (intOf vi).toNat)
  case atStart => exact ⟨0, rfl, by omega, 0, rfl⟩
  case round =>
    obtain ⟨i, rfl, hi, hr⟩ := hrel
    obtain ⟨q, hq⟩ := hr.out
    have HQ : Hid (wr = w.drewN q) := hq
    clear hq hr
    by_cases hin : i < n
    · obtain ⟨g1, o1, rfl, _, k0, k1⟩ := H1.out i hin
      obtain ⟨g2, o2, rfl, _, j0, j1⟩ := H2.out i hin
      have k0' := k0
      rw [show w.cell? ⟨g1, o1 + i * 2, none⟩ = wr.cell? ⟨g1, o1 + i * 2, none⟩ from by rw [HQ.out]; rfl] at k0'
      have k1' := k1
      rw [show w.cell? ⟨g1, o1 + i * 2 + 1, none⟩ = wr.cell? ⟨g1, o1 + i * 2 + 1, none⟩ from by rw [HQ.out]; rfl] at k1'
      have j0' := j0
      rw [show w.cell? ⟨g2, o2 + i * 2, none⟩ = wr.cell? ⟨g2, o2 + i * 2, none⟩ from by rw [HQ.out]; rfl] at j0'
      have j1' := j1
      rw [show w.cell? ⟨g2, o2 + i * 2 + 1, none⟩ = wr.cell? ⟨g2, o2 + i * 2 + 1, none⟩ from by rw [HQ.out]; rfl] at j1'
      have hin' : (i : Int) < n := by omega
      clear H1 H2
      go_wp2
      go_quiet (fail)
      go_wp2
      go_roundw
      case rel => exact ⟨i + 1, by first | rfl | (congr 1; omega), by omega, _, by rw [HQ.out]; exact drewN_add _ _ _⟩
      case measure => simp [intOf]; omega
    · obtain rfl : i = n := by omega
      clear H1 H2
      go_wp2
      go_ret
      exact ⟨rfl, q, HQ.out⟩
end Go.Proofs.YtjfcimkhjjkadaaGreatDoor
/- A region whose reads come first and that ends in a call and one step more. -/
namespace Go.Proofs.YtjfcimkhjjkadaaGreatDoor
open Go.RowKit

theorem wp_region_last2 {P : Program} {id : Nat} {Q : Exit → Act → World → Prop} {a : Act} {w : World} {L : List Oper} (m : Nat) (o o1 : Oper) (ho : L.toArray[m]? = some o) (ho1 : L.toArray[m + 1]? = some o1) (hg : o.guard = none) (hg1 : o1.guard = none) (hm : P.follows .mixedOrders = true) (hB : Region.lexB .any (L.take m).toArray = true) (hml : decide (L.length = m + 2) = true) (hp : preB .any L.toArray m (Array.replicate L.length false) = true)
    (hr : Region.ready .any L.toArray (listed1 L.length m) = [m]) (hr1 : Region.ready .any L.toArray ((listed1 L.length m).setIfInBounds m true) = [m + 1]) (hr2 : Region.ready .any L.toArray (((listed1 L.length m).setIfInBounds m true).setIfInBounds (m + 1) true) = [])
    (h : wpQuiet P (L.take m).toArray (fun w' => ∃ n, w' = w.drewN n) (fun a' => ∀ w', (∃ n, w' = w.drewN n) → ∀ K : Act → World → Prop, (∀ a w, o1.wp P a w (Q .normal) Q → K a w) → o.wp P a' w' K Q) (L.take m) a) : (Code.region id L.toArray true).wp P Q a w := by
  have hml' : L.length = m + 2 := by simpa using hml
  refine wp_region_pre m hm hB (by simp; omega) hp ?_
  have e : L.length - m = 2 := by omega
  have hF : ∀ (a' : Act), (∀ w', (∃ n, w' = w.drewN n) → ∀ K : Act → World → Prop, (∀ a w, o1.wp P a w (Q .normal) Q → K a w) → o.wp P a' w' K Q) → ∀ w', (∃ n, w' = w.drewN n) → wpAny P .any L.toArray Q (L.length - m) (listed1 L.length m) a' w' := fun a' ha w' hw => by
    rw [e]
    refine ⟨fun h0 => (by rw [hr] at h0; cases h0), fun i hi => ?_⟩
    rw [hr] at hi
    have : i = m := by simpa using hi
    subst this
    unfold wpOp
    simp only [ho]
    rw [if_pos (by simp [Region.wanted, hg])]
    refine .inl (ha w' hw _ fun a w hq => ?_)
    refine ⟨fun h0 => (by rw [hr1] at h0; cases h0), fun j hj => ?_⟩
    rw [hr1] at hj
    have : j = i + 1 := by simpa using hj
    subst this
    unfold wpOp
    simp only [ho1]
    rw [if_pos (by simp [Region.wanted, hg1])]
    exact .inl (Oper.wp_mono (fun a w hq => ⟨hr2, hq⟩) hq)
  have mono : ∀ (l : List Oper) (a : Act) (Q1 Q2 : Act → Prop), (∀ a, Q1 a → Q2 a) → wpQuiet P (L.take m).toArray (fun w' => ∃ n, w' = w.drewN n) Q1 l a → wpQuiet P (L.take m).toArray (fun w' => ∃ n, w' = w.drewN n) Q2 l a := by
    intro l
    induction l with
    | nil => intro a Q1 Q2 h12 h; exact h12 _ h
    | cons o l ih =>
      intro a Q1 Q2 h12 h
      unfold wpQuiet at h ⊢
      split
      · rename_i hw
        rw [if_pos hw] at h
        exact Oper.quiet_mono (fun a h => ih a Q1 Q2 h12 h) h
      · rename_i hw
        rw [if_neg hw] at h
        exact ih _ Q1 Q2 h12 h
  exact mono _ _ _ _ hF h
end Go.Proofs.YtjfcimkhjjkadaaGreatDoor
