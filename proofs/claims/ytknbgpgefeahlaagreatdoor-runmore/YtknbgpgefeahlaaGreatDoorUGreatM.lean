/- Traces that are alike; beginnings; picks. -/
import Derived.Test.YtknbgpgefeahlaaGreatDoorURunH
import Derived.Laws.Rows
import Derived.Test.YtknbgpgefeahlaaGreatDoorGRight1M
namespace Go.Proofs.YtknbgpgefeahlaaGreatDoor
open Go.RowKit

def ShowsAt (w : World) (v : Value) (l : List (Int × Int)) : Prop := RowAt w v l.length (flat shCells l)
theorem ShowsAt.below {w w' : World} {v : Value} {l : List (Int × Int)} (h : ShowsAt w v l) (hb : Below w.heap.size w w') : ShowsAt w' v l := RowAt.below h hb
theorem shows_of {w : World} {base : Nat} {v : Value} {l : List (Int × Int)} (h : w.ownsRow base 56 2 v l.length (flat shCells l)) (hl : l.length ≤ 1000000000) : ShowsAt w v l := by
  rcases own_shape h with ⟨hv, hn⟩ | ⟨g, c, hv, hc, hm, _, hlt⟩
  · refine ⟨none, 0, ?_, ⟨by omega, by omega⟩, .inl hn⟩
    rw [hv, hn]
  · refine ⟨some ⟨g, 0, none⟩, c, hv, ⟨hc, by omega⟩, .inr ⟨g, 0, rfl, hlt, fun j u hu => ?_⟩⟩
    rw [hv] at h
    have hjl : j < l.length * 2 := by
      have := (List.getElem?_eq_some_iff.1 hu).1
      rw [flat_len shCells_len] at this
      exact this
    rw [Nat.zero_add, h.cellAt j hjl]
    exact hu
theorem ShowsAt.get {w : World} {a : Option Addr} {n c : Nat} {l : List (Int × Int)} (h : ShowsAt w (.slice a n c) l) {i : Nat} (hi : i < l.length) : ∃ g o, a = some ⟨g, o, none⟩ ∧ g < w.heap.size ∧ w.cell? ⟨g, o + i * 2, none⟩ = some (.int .u8 (l.getD i (0, 0)).1) ∧ w.cell? ⟨g, o + i * 2 + 1, none⟩ = some (.int .u64 (l.getD i (0, 0)).2) := by
  obtain ⟨a', c', hv, _, hc⟩ := h
  cases hv
  rcases hc with h0 | ⟨g, o, ha, hg, hc⟩
  · omega
  · have hx : l[i]? = some (l.getD i (0, 0)) := by simp [List.getD, List.getElem?_eq_getElem hi]
    exact ⟨g, o, ha, hg, hc _ _ (flat_at shCells_len l i 0 _ _ hx rfl), hc _ _ (flat_at shCells_len l i 1 _ _ hx rfl)⟩
theorem show_form {w : World} {v : Value} {l : List (Int × Int)} (h : ShowsAt w v l) : ∃ a c, v = .slice a l.length c ∧ l.length ≤ c ∧ l.length ≤ 140737488355328 := by
  obtain ⟨a, c, hv, hn, _⟩ := h
  exact ⟨a, c, hv, hn⟩
theorem neq_show (a b : Int) (w : World) : (binOp .neq 56 (.agg #[.int .u8 a, .int .u64 b]) (.agg #[.int .u8 a, .int .u64 b])).run Tryz.prog w = .ok (.bool false) w := by
  have hS : Tryz.prog.underlying 56 = some (.struct (Tryz.prog.fieldsOf 56)) := by kernel_rfl
  have hp : Tryz.prog.stoodInHeld 56 = false := by kernel_rfl
  rw [run_neq_struct, show (10000 : Nat) = 9999 + 1 from rfl, run_equalIn_agg w 9999 56 _ _ hS hp]
  simp only [Program.fieldsOf, Tryz.underlying56]
  go_simp
theorem drewN_two (w : World) (a b : Nat) : (w.drewN a).drewN b = w.drewN (a + b) := World.drewN_drewN w a b
set_option maxRecDepth 100000 in
set_option maxHeartbeats 1000000 in
theorem sameS_yes (l : List (Int × Int)) (v1 v2 : Value) (w : World) (h1 : ShowsAt w v1 l) (h2 : ShowsAt w v2 l) : Calls Tryz.prog 21 #[v1, v2] w fun e w' => e = .returned (.bool true) ∧ ∃ k, w' = w.drewN k := by
  obtain ⟨a1, c1, rfl, _, _⟩ := show_form h1
  obtain ⟨a2, c2, rfl, _, _⟩ := show_form h2
  have H1 : Hid (∀ i, i < l.length → _) := fun i hi => h1.get (i := i) hi
  have H2 : Hid (∀ i, i < l.length → _) := fun i hi => h2.get (i := i) hi
  clear h1 h2
  generalize l.length = n at *
  have hne := neq_show
  go_enter Tryz.func21, Tryz.ntmps21
  go_wp2
  go_loopw [5] (fun vi wr => ∃ i : Nat, vi = .int .i64 i ∧ i ≤ n ∧ Hid (∃ k, wr = w.drewN k)) (fun vi _ => n - (intOf vi).toNat)
  case atStart => exact ⟨0, rfl, by omega, 0, rfl⟩
  case round =>
    obtain ⟨i, rfl, hi, hr⟩ := hrel
    obtain ⟨q, hq⟩ := hr.out
    have HQ : Hid (wr = w.drewN q) := hq
    clear hq hr
    by_cases hin : i < n
    · obtain ⟨g1, o1, rfl, _, k0, k1⟩ := H1.out i hin
      obtain ⟨g2, o2, rfl, _, j0, j1⟩ := H2.out i hin
      have k0' := k0
      rw [show w.cell? ⟨g1, o1 + i * 2, none⟩ = wr.cell? ⟨g1, o1 + i * 2, none⟩ from by rw [HQ.out]; rfl] at k0'
      have k1' := k1
      rw [show w.cell? ⟨g1, o1 + i * 2 + 1, none⟩ = wr.cell? ⟨g1, o1 + i * 2 + 1, none⟩ from by rw [HQ.out]; rfl] at k1'
      have j0' := j0
      rw [show w.cell? ⟨g2, o2 + i * 2, none⟩ = wr.cell? ⟨g2, o2 + i * 2, none⟩ from by rw [HQ.out]; rfl] at j0'
      have j1' := j1
      rw [show w.cell? ⟨g2, o2 + i * 2 + 1, none⟩ = wr.cell? ⟨g2, o2 + i * 2 + 1, none⟩ from by rw [HQ.out]; rfl] at j1'
      have hin' : (i : Int) < n := by omega
      clear H1 H2
      go_wp2
      go_quiet (fail)
      go_wp2
      go_roundw
      case rel => exact ⟨i + 1, by first | rfl | (congr 1; omega), by omega, _, by rw [HQ.out]; exact drewN_two _ _ _⟩
      case measure => simp [intOf]; omega
    · obtain rfl : i = n := by omega
      clear H1 H2
      go_wp2
      go_ret
      exact ⟨rfl, q, HQ.out⟩
set_option maxRecDepth 100000 in
set_option maxHeartbeats 2000000 in
theorem sameTr_yes (l : List (Int × Int)) (v1 v2 : Value) (x1 x2 x3 x4 x5 : Int) (w : World) (h1 : ShowsAt w v1 l) (h2 : ShowsAt w v2 l) : Calls Tryz.prog 9 #[.agg #[v1, .int .u8 x1, .int .u64 x2, .int .u8 x3, .int .i64 x4, .int .i64 x5], .agg #[v2, .int .u8 x1, .int .u64 x2, .int .u8 x3, .int .i64 x4, .int .i64 x5]] w fun e w' => e = .returned (.bool true) ∧ Below w.heap.size w w' := by
  have HS : Hid (∀ W, Below w.heap.size w W → Calls Tryz.prog 21 #[v1, v2] W fun e w' => e = .returned (.bool true) ∧ ∃ k, w' = W.drewN k) := fun W hW => sameS_yes l v1 v2 W (h1.below hW) (h2.below hW)
  obtain ⟨a1, c1, rfl, _, _⟩ := show_form h1
  obtain ⟨a2, c2, rfl, _, _⟩ := show_form h2
  clear h1 h2
  generalize l.length = n at *
  go_enter Tryz.func9, Tryz.ntmps9
  go_wp2_with (go_at_call 21; refine Calls.mono (by exact HS.out _ (below_alloc (below_alloc (Below.refl _ _) _) _)) ?_; rintro e w1 ⟨rfl, k, rfl⟩)
  go_ret
  exact ⟨rfl, below_drewN (below_alloc (below_alloc (Below.refl _ _) _) _) _⟩
theorem prefix_shows {l l' : List (Int × Int)} (h : l <+: l') {w : World} {a : Option Addr} {c : Nat} (hs : ShowsAt w (.slice a l'.length c) l') : ShowsAt w (.slice a l.length c) l := by
  obtain ⟨t, rfl⟩ := h
  obtain ⟨a', c', hv, hn, hc⟩ := hs
  cases hv
  rw [List.length_append] at hn
  refine ⟨a, c, rfl, ⟨by omega, by omega⟩, ?_⟩
  rcases hc with h0 | ⟨g, o, ha, hg, hc⟩
  · left
    rw [List.length_append] at h0
    omega
  · refine .inr ⟨g, o, ha, hg, fun j u hu => hc j u ?_⟩
    unfold flat at hu ⊢
    rw [List.flatMap_append, List.getElem?_append_left (List.getElem?_eq_some_iff.1 hu).1]
    exact hu
theorem slice_shows {a : Option Addr} {n c f : Nat} (hf : f ≤ c) : ∀ W, (Instr.slice 26 (.slice a n c) none (some (.int .i64 (f : Int))) none).run Tryz.prog W = .ok (sliced a 0 f c 2) W := fun W => by
  have hs : ∀ W : World, (sizeOf (Tryz.prog.elem 26)).run Tryz.prog W = .ok 2 W := fun W => by kernel_rfl
  have hu : Tryz.prog.underlying 26 = some (.slice (Tryz.prog.elem 26)) := by kernel_rfl
  rw [run_slice_h W 26 _ n c hu .i64 f (by omega) (by omega), hs]
  simp [Result.andThen]
end Go.Proofs.YtknbgpgefeahlaaGreatDoor
/- Beginnings; picks. -/
namespace Go.Proofs.YtknbgpgefeahlaaGreatDoor
open Go.RowKit

set_option maxRecDepth 100000 in
set_option maxHeartbeats 2000000 in
theorem begins_yes (l l' : List (Int × Int)) (hp : l <+: l') (v1 v2 : Value) (w : World) (h1 : ShowsAt w v1 l) (h2 : ShowsAt w v2 l') : Calls Tryz.prog 11 #[v1, v2] w fun e w' => e = .returned (.bool true) ∧ ∃ k, w' = w.drewN k := by
  have hle := hp.length_le
  obtain ⟨a2, c2, rfl, hc2, _⟩ := show_form h2
  have HS : Hid (∀ W, W = w → Calls Tryz.prog 21 #[v1, .slice a2 l.length c2] W fun e w' => e = .returned (.bool true) ∧ ∃ k, w' = W.drewN k) := fun W hW => by
    subst hW
    exact sameS_yes l v1 _ _ h1 (prefix_shows hp h2)
  have hsl : ∀ W, (Instr.slice 26 (.slice a2 l'.length c2) none (some (.int .i64 (l.length : Int))) none).run Tryz.prog W = .ok (.slice a2 l.length c2) W := fun W => by
    rw [slice_shows (by omega)]
    congr 1
    cases a2 with
    | none =>
      obtain ⟨a', c', hv, _, hc⟩ := h2
      cases hv
      rcases hc with h0 | ⟨g, o, ha, _⟩
      · have : l.length = 0 := by omega
        rw [this]
        unfold sliced
        simp
      · cases ha
    | some ad =>
      obtain ⟨a', c', hv, _, hc⟩ := h2
      cases hv
      rcases hc with h0 | ⟨g, o, ha, _⟩
      · unfold sliced
        simp [Addr.add]
      · cases ha
        unfold sliced
        simp [Addr.add]
  obtain ⟨a1, c1, rfl, _, _⟩ := show_form h1
  have hle' : (l.length : Int) ≤ l'.length := by omega
  clear h1 h2 hp hle hc2
  generalize l.length = n at *
  generalize l'.length = m at *
  go_enter Tryz.func11, Tryz.ntmps11
  go_wp2_with (go_at_call 21; refine Calls.mono (by exact HS.out _ rfl) ?_; rintro e w1 ⟨rfl, k, rfl⟩)
  go_ret
  exact ⟨rfl, _, rfl⟩
set_option maxRecDepth 100000 in
set_option maxHeartbeats 1000000 in
theorem pick_any (x : Int) (n : Nat) (h0 : 0 < n) (hn : n ≤ 1000000) (w : World) : Calls Tryz.prog 10 #[.int .i64 x, .int .i64 (n : Int)] w fun e w' => e = .returned (.int .i64 (x % (n : Int))) ∧ w' = w := by
  have h1 : ¬ (n : Int) < 1 := by omega
  have hz : ¬ (n : Int) = 0 := by omega
  have hb1 : -(n : Int) < x.tmod n := by
    have := Int.lt_tmod_of_pos x (b := (n : Int)) (by omega)
    omega
  have hb2 : x.tmod n < n := Int.tmod_lt_of_pos x (by omega)
  have hm : x % (n : Int) = if x.tmod n < 0 then x.tmod n + n else x.tmod n := by
    have e1 := Int.tmod_eq_emod (a := x) (b := (n : Int))
    have e2 := Int.emod_nonneg x hz
    have e3 := Int.emod_lt_of_pos x (show (0 : Int) < n by omega)
    rw [Int.natAbs_natCast] at e1
    split at e1 <;> split <;> omega
  have HR : Hid _ := hm
  clear hm
  generalize x % (n : Int) = r at *
  generalize hq : x.tmod n = q at *
  by_cases hneg : q < 0
  · have HR2 : Hid (r = q + n) := by show _ = _; rw [HR.out, if_pos hneg]
    clear HR
    go_enter Tryz.func10, Tryz.ntmps10
    go_wp2
    go_ret
    exact ⟨ret_int HR2.out.symm, rfl⟩
  · have HR2 : Hid (r = q) := by show _ = _; rw [HR.out, if_neg hneg]
    clear HR
    go_enter Tryz.func10, Tryz.ntmps10
    go_wp2
    go_ret
    exact ⟨ret_int HR2.out.symm, rfl⟩
end Go.Proofs.YtknbgpgefeahlaaGreatDoor
/- A run's end: there is one; what stands of it; more steps, a greater depth. -/
namespace Go.Proofs.YtknbgpgefeahlaaGreatDoor

theorem endN_ex (lim : Nat) : ∃ N : Nat, lim * 1000002 + 1000002 ≤ N := ⟨_, Nat.le_refl _⟩
noncomputable def endN (lim : Nat) : Nat := Classical.choose (endN_ex lim)
theorem endN_le (lim : Nat) : lim * 1000002 + 1000002 ≤ endN lim := Classical.choose_spec (endN_ex lim)
theorem pair_of {s : HS × Bool} (h : s.2 = false) : s = (s.1, false) := by
  cases s
  cases h
  rfl
noncomputable def endH (P : List Gr) (lim dep g : Nat) (ws : List Int) : HS := (stH P lim dep g ws (endN lim)).1
theorem stH_ends {P : List Gr} (hK : most P 1000000) (lim dep g : Nat) (ws : List Int) : (stH P lim dep g ws (endN lim)).2 = false := by
  cases hf : (HS.first P lim dep g ws).2 with
  | false => unfold stH; rw [HS.iter_stop hf]; exact hf
  | true =>
    refine iter_ends hK _ _ ?_
    obtain ⟨h1, h2, h3⟩ := begin_on hf
    have hm := mul_step (K := 1000000) h2
    have hr := rem_le hK ((Fr.new g).sets (argPairs (P.getD g default) ws))
    have hE := endN_le lim
    unfold HS.first
    rw [h3]
    unfold leftM
    dsimp only at hm ⊢
    rw [remF_cons, List.length_cons]
    have e : remF P HS.zero.frs = 0 := rfl
    have e2 : HS.zero.frs.length = 0 := rfl
    have e3 : HS.zero.steps = 0 := rfl
    rw [e, e2]
    rw [e3] at hm ⊢
    omega
theorem stH_stop {P : List Gr} {lim dep g : Nat} {ws : List Int} {a b : Nat} (ha : (stH P lim dep g ws a).2 = false) (hb : (stH P lim dep g ws b).2 = false) : stH P lim dep g ws a = stH P lim dep g ws b := by
  unfold stH at *
  rcases Nat.le_total a b with h | h
  · obtain ⟨c, rfl⟩ := Nat.exists_eq_add_of_le h
    rw [HS.iter_add, HS.iter_stop ha]
  · obtain ⟨c, rfl⟩ := Nat.exists_eq_add_of_le h
    rw [HS.iter_add, HS.iter_stop hb]
/-- What a run leans on. -/
structure Runs (P : List Gr) (g : Nat) (ws : List Int) : Prop where
  ok : POk P
  bits : ∀ g t k, Sc.word ((((P.getD g default).blocks.getD t default).ins).getD k default).bits
  gl : g < P.length
  ws : ∀ v, Sc.word (ws.getD v 0)
  most : most P 1000000
theorem stH_within {P : List Gr} {lim dep g : Nat} {ws : List Int} (hR : Runs P g ws) : ∀ n, Within lim dep (stH P lim dep g ws n)
  | 0 => begin_within (Nat.zero_le _) (Nat.zero_le _) (Nat.le_refl _) rfl g ws
  | n + 1 => by
    have ih := stH_within hR (lim := lim) (dep := dep) n
    unfold stH at ih ⊢
    cases hc : (HS.iter P lim dep n (HS.first P lim dep g ws)).2 with
    | false => rw [HS.iter_add P lim dep n 1, HS.iter_stop hc]; exact ih
    | true =>
      obtain ⟨_, h2, _⟩ := iter_ok hR.ok hR.bits hR.gl hR.ws n hc
      have e : HS.iter P lim dep (n + 1) (HS.first P lim dep g ws) = (HS.iter P lim dep n (HS.first P lim dep g ws)).1.next P lim dep := HS.iter_one (H := (HS.iter P lim dep n (HS.first P lim dep g ws)).1) (by rw [← hc])
      rw [e]
      exact next_within (P := P) ih.steps ih.deep ih.frs (ih.on hc) h2
theorem end_within {P : List Gr} {g : Nat} {ws : List Int} (hR : Runs P g ws) (lim dep : Nat) : Within lim dep (endH P lim dep g ws, false) := by
  have h := stH_within hR (lim := lim) (dep := dep) (endN lim)
  have e : stH P lim dep g ws (endN lim) = (endH P lim dep g ws, false) := pair_of (stH_ends hR.most lim dep g ws)
  rw [← e]
  exact h
theorem stH_bound {P : List Gr} {lim dep g K : Nat} {ws : List Int} (hR : Runs P g ws) (hK : most P K) (h1 : lim ≤ 1000000000000) (h2 : lim * K ≤ 1000000000) (n : Nat) (ht : (stH P lim dep g ws n).2 = true) : (stH P lim dep g ws n).1.steps ≤ 1000000000000 ∧ (stH P lim dep g ws n).1.shows.length ≤ 1000000000 := by
  have hw := (stH_within hR (lim := lim) (dep := dep) n).steps
  have hs : (stH P lim dep g ws n).1.shows.length ≤ (stH P lim dep g ws n).1.steps * K := first_shows hK n ht
  have h3 : (stH P lim dep g ws n).1.steps * K ≤ lim * K := Nat.mul_le_mul_right _ hw
  omega
theorem next_off {P : List Gr} {lim dep : Nat} {H : HS} (h : (H.next P lim dep).2 = false) : (H.next P lim dep).1.shows = H.shows := by
  have stp : ∀ H : HS, (H.step lim).1.shows = H.shows := fun H => by unfold HS.step; split <;> rfl
  have bgn : ∀ (H : HS) (g : Nat) (ws : List Int), (H.begin P lim dep g ws).1.shows = H.shows := fun H g ws => by
    unfold HS.begin
    split
    · rfl
    · exact stp _
  unfold HS.next at h ⊢
  split at h
  · rfl
  · rename_i f fs e
    split at h
    · rename_i q1
      rw [if_pos q1]
      split at h
      · rename_i q2
        rw [if_pos q2]
        exact bgn _ _ _
      · cases h
    · rename_i q1
      rw [if_neg q1]
      unfold HS.endT HS.enter HS.tell
      repeat' split
      all_goals rfl
theorem stH_shows {P : List Gr} {lim dep g K : Nat} {ws : List Int} (hR : Runs P g ws) (hK : most P K) : ∀ n, (stH P lim dep g ws n).1.shows.length ≤ lim * K
  | 0 => by
    have : (stH P lim dep g ws 0).1.shows = [] := by
      show (HS.first P lim dep g ws).1.shows = []
      unfold HS.first HS.begin HS.step
      repeat' split
      all_goals rfl
    rw [this]
    exact Nat.zero_le _
  | n + 1 => by
    cases hc : (stH P lim dep g ws (n + 1)).2 with
    | true =>
      have hw := (stH_within hR (lim := lim) (dep := dep) (n + 1)).steps
      have hs : (stH P lim dep g ws (n + 1)).1.shows.length ≤ (stH P lim dep g ws (n + 1)).1.steps * K := first_shows hK _ hc
      exact Nat.le_trans hs (Nat.mul_le_mul_right _ hw)
    | false =>
      have ih := stH_shows hR hK (lim := lim) (dep := dep) n
      unfold stH at hc ih ⊢
      cases hp : (HS.iter P lim dep n (HS.first P lim dep g ws)).2 with
      | false => rw [HS.iter_add P lim dep n 1, HS.iter_stop hp]; exact ih
      | true =>
        have e : HS.iter P lim dep (n + 1) (HS.first P lim dep g ws) = (HS.iter P lim dep n (HS.first P lim dep g ws)).1.next P lim dep := HS.iter_one (H := (HS.iter P lim dep n (HS.first P lim dep g ws)).1) (by rw [← hp])
        rw [e] at hc ⊢
        rw [next_off hc]
        exact ih
theorem end_of {P : List Gr} {lim dep g : Nat} {ws : List Int} (hK : most P 1000000) {n : Nat} (h : (stH P lim dep g ws n).2 = false) : endH P lim dep g ws = (stH P lim dep g ws n).1 := by
  unfold endH
  rw [stH_stop (stH_ends hK lim dep g ws) h]
theorem end_cmp {P : List Gr} {lim lim' dep dep' g : Nat} {ws : List Int} (hK : most P 1000000) (hl : lim ≤ lim') (hd : dep ≤ dep') : Cmp lim dep (endH P lim dep g ws, false) (endH P lim' dep' g ws, false) := by
  have up : ∀ (lim dep a b : Nat), a ≤ b → (stH P lim dep g ws a).2 = false → (stH P lim dep g ws b).2 = false := fun lim dep a b hab h0 => by
    obtain ⟨c, hc⟩ := Nat.exists_eq_add_of_le hab
    rw [hc]
    unfold stH at h0 ⊢
    rw [HS.iter_add, HS.iter_stop h0]
    exact h0
  have h := first_cmp (P := P) hl hd g ws (max (endN lim) (endN lim'))
  have e1 := up lim' dep' _ _ (Nat.le_max_right (endN lim) (endN lim')) (stH_ends hK lim' dep' g ws)
  have e2 := up lim dep _ _ (Nat.le_max_left (endN lim) (endN lim')) (stH_ends hK lim dep g ws)
  rw [end_of hK e1, end_of hK e2]
  have q1 := pair_of e1
  have q2 := pair_of e2
  unfold stH at q1 q2
  rw [q1, q2] at h
  exact h
/-- With more steps and a greater depth. -/
theorem more_plain {P : List Gr} {g : Nat} {ws : List Int} (hR : Runs P g ws) {lim lim' dep dep' : Nat} (hl : lim ≤ lim') (hd : dep ≤ dep') :
    (endH P lim dep g ws).shows <+: (endH P lim' dep' g ws).shows ∧ (endH P lim dep g ws).steps ≤ (endH P lim' dep' g ws).steps ∧ (endH P lim dep g ws).deep ≤ (endH P lim' dep' g ws).deep ∧ (endH P lim dep g ws).steps ≤ lim ∧ (endH P lim dep g ws).deep ≤ dep ∧
    (((endH P lim dep g ws).fin = 3 ∧ (endH P lim dep g ws).steps = lim) ∨ ((endH P lim dep g ws).fin = 4 ∧ (endH P lim dep g ws).deep = dep) ∨ (((endH P lim dep g ws).fin = 1 ∨ (endH P lim dep g ws).fin = 2) ∧ endH P lim' dep' g ws = endH P lim dep g ws ∧ endH P (endH P lim dep g ws).steps (endH P lim dep g ws).deep g ws = endH P lim dep g ws)) := by
  have hw := end_within hR lim dep
  have hc := end_cmp (g := g) (ws := ws) hR.most hl hd
  have hle : (endH P lim dep g ws).le (endH P lim' dep' g ws) := by
    rcases hc with h | h
    · have : endH P lim dep g ws = endH P lim' dep' g ws := (Prod.mk.inj h).1
      rw [this]
      exact HS.le_refl _
    · exact h.2.1
  have hs1 : (endH P lim dep g ws).steps ≤ lim := hw.steps
  have hd1 : (endH P lim dep g ws).deep ≤ dep := hw.deep
  refine ⟨hle.1, hle.2.1, hle.2.2, hs1, hd1, ?_⟩
  have hoff := hw.off rfl
  dsimp only at hoff
  rcases hoff with h | h | h
  · right; right
    refine ⟨h, ?_, ?_⟩
    · rcases hc with h2 | ⟨⟨_, h2⟩, _⟩
      · exact ((Prod.mk.inj h2).1).symm
      · dsimp only at h2; omega
    · have hc2 := end_cmp (g := g) (ws := ws) hR.most hs1 hd1
      rcases hc2 with h2 | ⟨_, _, h3⟩
      · exact (Prod.mk.inj h2).1
      · rcases h3 with ⟨_, h3⟩ | h3 | h3
        · dsimp only at h3; omega
        · exact (Nat.lt_irrefl _ h3).elim
        · exact (Nat.lt_irrefl _ h3).elim
  · exact .inl h
  · exact .inr (.inl h)
end Go.Proofs.YtknbgpgefeahlaaGreatDoor
/- The law's own programs. -/
namespace Go.Proofs.YtknbgpgefeahlaaGreatDoor
open Go.RowKit

def allocs (w : World) (os : List Obj) : World := os.foldl World.alloc w
theorem allocs_below : ∀ (os : List Obj) (w : World), Below w.heap.size w (allocs w os)
  | [], _ => Below.refl _ _
  | o :: os, w => below_trans (below_alloc (Below.refl _ _) o) (allocs_below os (w.alloc o))
theorem allocs_get : ∀ (os : List Obj) (w : World) (k : Nat) (o : Obj), os[k]? = some o → (allocs w os).heap[w.heap.size + k]? = some o
  | o' :: os, w, 0, o, h => by
    cases h
    have h1 := (allocs_below os (w.alloc o')).block w.heap.size (by simp)
    exact h1.trans (heap_alloc_new w o')
  | o' :: os, w, k + 1, o, h => by
    have h1 := allocs_get os (w.alloc o') k o (by simpa using h)
    rw [show (w.alloc o').heap.size = w.heap.size + 1 by simp, show w.heap.size + 1 + k = w.heap.size + (k + 1) by omega] at h1
    exact h1
theorem row_lit {W : World} {g : Nat} {cs : List Value} {t : TypeId} (n : Nat) (h : W.heap[g]? = some (.cells cs.toArray t)) (hn : n ≤ 1000) : RowAt W (.slice (some ⟨g, 0, none⟩) n n) n cs := by
  refine ⟨_, _, rfl, ⟨Nat.le_refl _, by omega⟩, .inr ⟨g, 0, rfl, (Array.getElem?_eq_some_iff.1 h).1, fun j u hj => ?_⟩⟩
  simp only [World.cell?, h]
  simpa using hj
theorem row_nil (W : World) (cs : List Value) : RowAt W (.slice none 0 0) 0 cs := ⟨_, _, rfl, ⟨Nat.le_refl _, by omega⟩, .inl rfl⟩
abbrev sl (g n : Nat) : Value := .slice (some ⟨g, 0, none⟩) n n
def oneG : Gr := ⟨⟨#[]⟩, [0], 4, [4], [], [⟨[], ⟨3, 0, 0, 0, 0⟩⟩]⟩
def selfI : List In := [⟨10, 0, 0, [0], 0, 0⟩, ⟨9, 0, 0, [0], 0, 0⟩]
def selfG : Gr := ⟨⟨#[]⟩, [0], 4, [4], [], [⟨selfI, ⟨3, 0, 0, 0, 0⟩⟩]⟩
def objs1 (N : Nat) (iv : Value) : List Obj := [
  .cells #[intV 0] 3,
  .cells #[bytV 4] 41,
  .cells #[iv, bytV 3, intV 0, intV 0, intV 0, bytV 0] 53,
  .cells #[.string ⟨#[]⟩, sl N 1, bytV 4, sl (N + 1) 1, .slice none 0 0, sl (N + 2) 1] 46]
def objs2 (N : Nat) : List Obj := objs1 N (sl (N + 6) 2) ++ [.cells #[intV 0] 3, .cells #[intV 0] 3, .cells #[bytV 10, bytV 0, intV 0, sl (N + 4) 1, wordV 0, intV 0, bytV 9, bytV 0, intV 0, sl (N + 5) 1, wordV 0, intV 0] 75]
theorem one_at (w : World) : GrsAt (allocs w (objs1 w.heap.size (.slice none 0 0))) (sl (w.heap.size + 3) 1) [oneG] := by
  have g := fun k o (h : (objs1 w.heap.size (.slice none 0 0))[k]? = some o) => allocs_get (objs1 w.heap.size (.slice none 0 0)) w k o h
  refine ⟨[(sl w.heap.size 1, sl (w.heap.size + 1) 1, .slice none 0 0, sl (w.heap.size + 2) 1)], rfl, row_lit (t := 46) 1 (g 3 _ rfl) (by omega), fun i x q hx hq => ?_⟩
  rcases i with _ | i
  · cases hx; cases hq
    refine ⟨row_lit (t := 3) 1 (g 0 _ rfl) (by omega), row_lit (t := 41) 1 (g 1 _ rfl) (by omega), row_nil _ _, ⟨[.slice none 0 0], rfl, row_lit (t := 53) 1 (g 2 _ rfl) (by omega), fun i x a hx ha => ?_⟩⟩
    rcases i with _ | i
    · cases hx; cases ha
      exact ⟨by simp, [], rfl, row_nil _ _, fun i x a hx ha => by simp at hx⟩
    · simp [oneG] at hx
  · simp at hx
theorem self_at (w : World) : GrsAt (allocs w (objs2 w.heap.size)) (sl (w.heap.size + 3) 1) [selfG] := by
  have g := fun k o (h : (objs2 w.heap.size)[k]? = some o) => allocs_get (objs2 w.heap.size) w k o h
  refine ⟨[(sl w.heap.size 1, sl (w.heap.size + 1) 1, .slice none 0 0, sl (w.heap.size + 2) 1)], rfl, row_lit (t := 46) 1 (g 3 _ rfl) (by omega), fun i x q hx hq => ?_⟩
  rcases i with _ | i
  · cases hx; cases hq
    refine ⟨row_lit (t := 3) 1 (g 0 _ rfl) (by omega), row_lit (t := 41) 1 (g 1 _ rfl) (by omega), row_nil _ _, ⟨[sl (w.heap.size + 6) 2], rfl, row_lit (t := 53) 1 (g 2 _ rfl) (by omega), fun i x a hx ha => ?_⟩⟩
    rcases i with _ | i
    · cases hx; cases ha
      refine ⟨by decide, [sl (w.heap.size + 4) 1, sl (w.heap.size + 5) 1], rfl, row_lit (t := 75) 2 (g 6 _ rfl) (by omega), fun i x a hx ha => ?_⟩
      rcases i with _ | _ | i
      · cases hx; cases ha; exact row_lit (t := 3) 1 (g 4 _ rfl) (by omega)
      · cases hx; cases ha; exact row_lit (t := 3) 1 (g 5 _ rfl) (by omega)
      · simp [selfI] at hx
    · simp [selfG] at hx
  · simp at hx
set_option maxRecDepth 100000 in
set_option maxHeartbeats 4000000 in
theorem one_any (w : World) : Calls Tryz.prog 12 #[] w fun e w' => e = .returned (sl (w.heap.size + 3) 1) ∧ w' = allocs w (objs1 w.heap.size (.slice none 0 0)) := by
  go_enter Tryz.func12, Tryz.ntmps12
  go_wp2
  go_ret
  exact ⟨rfl, rfl⟩
set_option maxRecDepth 100000 in
set_option maxHeartbeats 4000000 in
theorem self_any (w : World) : Calls Tryz.prog 13 #[] w fun e w' => e = .returned (sl (w.heap.size + 3) 1) ∧ w' = allocs w (objs2 w.heap.size) := by
  have H1 : Hid _ := one_any w
  go_enter Tryz.func13, Tryz.ntmps13
  go_wp2_with (go_at_call 12; refine Calls.mono (by exact H1.out) ?_; rintro e w1 ⟨rfl, rfl⟩; unfold allocs objs1; simp only [List.foldl])
  go_ret
  exact ⟨rfl, rfl⟩
end Go.Proofs.YtknbgpgefeahlaaGreatDoor
/- The law's own: is a program too great? -/
namespace Go.Proofs.YtknbgpgefeahlaaGreatDoor
open Go.RowKit

/-- A graph that is not too great. -/
def FitG (G : Gr) : Prop := G.blocks.length + G.vars.length + G.arrs.length + G.params.length ≤ 1600 ∧ ∀ t, t < G.blocks.length → (G.blocks.getD t default).ins.length ≤ 1600
set_option maxRecDepth 100000 in
set_option maxHeartbeats 4000000 in
theorem great8_any (P : List Gr) (ppv : Value) (w : World) (hp : GrsAt w ppv P) :
    Calls Tryz.prog 5 #[ppv] w fun e w' => ∃ b, e = .returned (.bool b) ∧ Hid (b = false → ∀ i, i < P.length → FitG (P.getD i default)) ∧ Below w.heap.size w w' := by
  obtain ⟨qa, qc, rfl, hql⟩ := hp.form
  have HG : Hid (∀ i, i < P.length → ∃ (g o pl vl al bl bc : Nat) (pa va aa ba : Option Addr) (pc vc ac : Nat), qa = some ⟨g, o, none⟩ ∧ pl ≤ 140737488355328 ∧ vl ≤ 140737488355328 ∧ al ≤ 140737488355328 ∧ bl ≤ 140737488355328 ∧ (∀ k, (w.drewN k).cell? ⟨g, o + i * 6 + 1, none⟩ = some (.slice pa pl pc)) ∧ (∀ k, (w.drewN k).cell? ⟨g, o + i * 6 + 3, none⟩ = some (.slice va vl vc)) ∧ (∀ k, (w.drewN k).cell? ⟨g, o + i * 6 + 4, none⟩ = some (.slice aa al ac)) ∧ (∀ k, (w.drewN k).cell? ⟨g, o + i * 6 + 5, none⟩ = some (.slice ba bl bc)) ∧
      Hid (bl = (P.getD i default).blocks.length ∧ vl = (P.getD i default).vars.length ∧ al = (P.getD i default).arrs.length ∧ pl = (P.getD i default).params.length) ∧
      Hid (∀ t, t < bl → ∃ (g2 o2 il ic : Nat) (ia : Option Addr), ba = some ⟨g2, o2, none⟩ ∧ il ≤ 140737488355328 ∧ (∀ k, (w.drewN k).cell? ⟨g2, o2 + t * 6, none⟩ = some (.slice ia il ic)) ∧ Hid (il = ((P.getD i default).blocks.getD t default).ins.length))) := fun i hi => by
    obtain ⟨g, o, pv, vv, av, bv, e, _, _, c1, _, c3, c4, c5, hG⟩ := hp.get hi
    obtain ⟨pa, pc, va, vc, aa, ac, ba, bc, rfl, rfl, rfl, rfl, p1, p2, p3, p4⟩ := hG.openF
    refine ⟨g, o, _, _, _, _, bc, pa, va, aa, ba, pc, vc, ac, e, p1, p2, p3, p4, fun k => c1, fun k => c3, fun k => c4, fun k => c5, ⟨rfl, rfl, rfl, rfl⟩, fun t ht => ?_⟩
    obtain ⟨g2, o2, iv, e2, _, d0, _, _, _, _, _, hins⟩ := hG.bs.get ht
    obtain ⟨ia, ic, rfl, hil⟩ := hins.form
    exact ⟨g2, o2, _, ic, ia, e2, hil, fun k => d0, rfl⟩
  obtain ⟨C, hCt, hCf, hCn⟩ : ∃ C : Bool → Prop, C true ∧ ((∀ i, i < P.length → FitG (P.getD i default)) → C false) ∧ (∀ b, C b → Hid (b = false → ∀ i, i < P.length → FitG (P.getD i default))) := ⟨fun b => b = false → ∀ i, i < P.length → FitG (P.getD i default), (fun h => nomatch h), (fun h _ => h), (fun b h => h)⟩
  have HCT : Hid (C true) := hCt
  have HCF : Hid _ := hCf
  refine Calls.mono (R := fun e w' => ∃ b, e = .returned (.bool b) ∧ C b ∧ Below w.heap.size w w') ?_ (fun e w' ⟨b, he, hc, hb⟩ => ⟨b, he, hCn b hc, hb⟩)
  clear hCt hCf hCn hp
  obtain ⟨n, hn⟩ : ∃ n, n = P.length := ⟨_, rfl⟩
  rw [← hn] at HG HCF hql ⊢
  clear hn
  by_cases h1 : 70 < (n : Int)
  · clear HG HCF
    go_enter Tryz.func5, Tryz.ntmps5
    go_wp2
    go_ret
    first | exact ⟨true, rfl, HCT.out, Below.refl _ _⟩ | exact Or.inr ⟨rfl, HCT.out, Below.refl _ _⟩
  go_enter Tryz.func5, Tryz.ntmps5
  go_wp2
  go_loopw [3, 4] (fun vn vi wr => ∃ s i : Nat, vn = .int .i64 s ∧ vi = .int .i64 i ∧ i ≤ n ∧ (s : Int) ≤ 1600 ∧ Hid ((∀ j, j < i → FitG (P.getD j default)) ∧ ∃ k, wr = w.drewN k)) (fun _ vi _ => n - (intOf vi).toNat)
  case atStart => exact ⟨0, 0, rfl, rfl, by omega, by omega, fun j hj => by omega, 0, rfl⟩
  case round =>
    obtain ⟨s, i, rfl, rfl, hi, hs, hr⟩ := hrel
    obtain ⟨hall, q, hq⟩ := hr.out
    have HALL : Hid _ := hall
    subst hq
    clear hr hall
    by_cases hin : i < n
    · obtain ⟨g, o, pl, vl, al, bl, bc, pa, va, aa, ba, pc, vc, ac, rfl, p1, p2, p3, p4, c1, c3, c4, c5, hdat, hbl⟩ := HG.out i hin
      have hin' : (i : Int) < n := by omega
      have c1' := c1 q
      have c3' := c3 q
      have c4' := c4 q
      have c5' := c5 q
      have HP : Hid (pl ≤ 140737488355328 ∧ vl ≤ 140737488355328 ∧ al ≤ 140737488355328 ∧ bl ≤ 140737488355328) := ⟨p1, p2, p3, p4⟩
      have p1' : (pl : Int) ≤ 140737488355328 := by omega
      have p2' : (vl : Int) ≤ 140737488355328 := by omega
      have p3' : (al : Int) ≤ 140737488355328 := by omega
      have p4' : (bl : Int) ≤ 140737488355328 := by omega
      clear HG p1 p2 p3 p4
      go_wp2
      go_quiet (fail)
      go_wp2
      have HD : Hid _ := hdat
      have HBL : Hid _ := hbl.out
      clear hdat hbl
      go_loopw [3, 5] (fun vn vk wr => ∃ s2 k : Nat, vn = .int .i64 s2 ∧ vk = .int .i64 k ∧ k ≤ bl ∧ (s2 : Int) ≤ 562949953422912 ∧ Hid (bl + vl + al + pl ≤ s2 ∧ (∀ t, t < k → ((P.getD i default).blocks.getD t default).ins.length ≤ s2) ∧ ∃ q, wr = w.drewN q)) (fun _ vk _ => bl - (intOf vk).toNat)
      case atStart => exact ⟨s + bl + vl + al + pl, 0, by first | rfl | (congr 1; omega), rfl, by omega, by omega, by omega, fun t ht => by omega, _, by first | rfl | exact World.drewN_drewN _ _ _⟩
      case round =>
        obtain ⟨s2, k, rfl, rfl, hk, hs2, hr⟩ := hrel
        obtain ⟨hbase, hins, q2, hq2⟩ := hr.out
        have HBASE : Hid (bl + vl + al + pl ≤ s2) := hbase
        have HINS : Hid _ := hins
        subst hq2
        clear hr hbase hins
        have c5'' := c5 q2
        by_cases hkb : k < bl
        · have hkb' : (k : Int) < bl := by omega
          by_cases hle : (s2 : Int) ≤ 1600
          · obtain ⟨g2, o2, il, ic, ia, rfl, hil, d0, hdi⟩ := HBL.out k hkb
            have d0' := d0 q2
            have hil' : (il : Int) ≤ 140737488355328 := by omega
            have HDI : Hid _ := hdi.out
            clear HBL hil hdi
            go_wp2
            go_roundw
            case rel => exact ⟨s2 + il, k + 1, by first | rfl | (congr 1; omega), by first | rfl | (congr 1; omega), by omega, by omega, by have := HBASE.out; omega, fun t ht => by
              rcases Nat.lt_succ_iff_lt_or_eq.1 ht with h | h
              · have := HINS.out t h; omega
              · rw [h, ← HDI.out]; omega, q2, rfl⟩
            case measure => simp [intOf]; omega
          · go_wp2
            go_ret
            first | exact ⟨true, rfl, HCT.out, below_drewN (Below.refl _ _) _⟩ | exact Or.inr ⟨rfl, HCT.out, below_drewN (Below.refl _ _) _⟩
        · obtain rfl : k = bl := by omega
          by_cases hle : (s2 : Int) ≤ 1600
          · have HFIT : Hid (FitG (P.getD i default)) := by
              obtain ⟨e1, e2, e3, e4⟩ := HD.out
              have := HBASE.out
              exact ⟨by omega, fun t ht => by have := HINS.out t (by omega); omega⟩
            clear HBASE HINS HBL HD
            go_wp2
            go_roundw
            case rel => exact ⟨s2, i + 1, rfl, by first | rfl | (congr 1; omega), by omega, hle, fun j hj => by
              rcases Nat.lt_succ_iff_lt_or_eq.1 hj with h | h
              · exact HALL.out j h
              · rw [h]; exact HFIT.out, q2, rfl⟩
            case measure => simp [intOf]; omega
          · go_wp2
            go_ret
            first | exact ⟨true, rfl, HCT.out, below_drewN (Below.refl _ _) _⟩ | exact Or.inr ⟨rfl, HCT.out, below_drewN (Below.refl _ _) _⟩
    · obtain rfl : i = n := by omega
      have HX : Hid (C false) := HCF.out HALL.out
      clear HG HCF HALL
      go_wp2
      go_ret
      first | exact ⟨false, rfl, HX.out, below_drewN (Below.refl _ _) _⟩ | exact Or.inl ⟨rfl, HX.out, below_drewN (Below.refl _ _) _⟩
end Go.Proofs.YtknbgpgefeahlaaGreatDoor
