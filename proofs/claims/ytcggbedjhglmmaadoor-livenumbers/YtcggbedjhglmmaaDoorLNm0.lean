/- The graphs of LiveNumbers in memory. -/
import Derived.Test.YtcggbedjhglmmaaDoorLAw
namespace Go.Proofs.YtcggbedjhglmmaaDoor
open Go.RowKit

theorem allocs_size : ∀ (os : List Obj) (w : World), (allocs w os).heap.size = w.heap.size + os.length
  | [], _ => rfl
  | o :: os, w => by
    show (allocs (w.alloc o) os).heap.size = _
    rw [allocs_size os (w.alloc o)]
    simp; omega
theorem cell_of {W : World} {b j : Nat} {cs : Array Value} {t : TypeId} {u : Value} (h : W.heap[b]? = some (.cells cs t)) (hu : cs[j]? = some u) : W.cell? ⟨b, j, none⟩ = some u := by
  simp only [World.cell?, h]
  simpa using hu
theorem fz_of {W : World} {b : Nat} {cs : Array Value} {t : TypeId} (h : W.heap[b]? = some (.cells cs t)) (j : Nat) : W.frozen? ⟨b, j, none⟩ = false := by
  simp [World.frozen?, h]
theorem set_size (w : World) (a : Addr) (u : Value) : (w.setCell a u).heap.size = w.heap.size := by simp [World.setCell]
theorem two_up (w : World) (o1 o2 : Obj) (b : Nat) (h : b < w.heap.size) : ((w.alloc o1).alloc o2).heap[b]? = w.heap[b]? := (below_alloc (below_alloc (Below.refl w.heap.size w) o1) o2).block b h
theorem two_new (w : World) (o1 o2 : Obj) : ((w.alloc o1).alloc o2).heap[w.heap.size + 1]? = some o2 := by
  have h9 := heap_alloc_new (w.alloc o1) o2
  rw [show (w.alloc o1).heap.size = w.heap.size + 1 by simp] at h9
  exact h9
structure SmF (w W3 : World) : Prop where
  size : W3.heap.size = w.heap.size + 10
  l18 : W3.cell? ⟨w.heap.size + 9, 18, none⟩ = some (.slice (some ⟨w.heap.size + 8, 0, none⟩) 1 1)
  l6 : W3.cell? ⟨w.heap.size + 9, 6, none⟩ = some (.slice (some ⟨w.heap.size + 6, 0, none⟩) 1 1)
  c83 : W3.cell? ⟨w.heap.size + 8, 3, none⟩ = some (.slice (some ⟨w.heap.size + 7, 0, none⟩) 3 3)
  c60 : W3.cell? ⟨w.heap.size + 6, 0, none⟩ = some (.int .u8 10)
  c61 : W3.cell? ⟨w.heap.size + 6, 1, none⟩ = some (.int .u8 0)
  c62 : W3.cell? ⟨w.heap.size + 6, 2, none⟩ = some (.int .i64 0)
  c63 : W3.cell? ⟨w.heap.size + 6, 3, none⟩ = some (.slice (some ⟨w.heap.size + 5, 0, none⟩) 1 1)
  c64 : W3.cell? ⟨w.heap.size + 6, 4, none⟩ = some (.int .u64 0)
  c65 : W3.cell? ⟨w.heap.size + 6, 5, none⟩ = some (.int .i64 0)
  f8 : ∀ j, W3.frozen? ⟨w.heap.size + 8, j, none⟩ = false
  f6 : ∀ j, W3.frozen? ⟨w.heap.size + 6, j, none⟩ = false
theorem smf (w : World) : SmF w (allocs w (objs w.heap.size)) := by
  have g := fun k o (h : (objs w.heap.size)[k]? = some o) => allocs_get (objs w.heap.size) w k o h
  exact ⟨allocs_size _ _, cell_of (g 9 _ rfl) rfl, cell_of (g 9 _ rfl) rfl, cell_of (g 8 _ rfl) rfl, cell_of (g 6 _ rfl) rfl, cell_of (g 6 _ rfl) rfl, cell_of (g 6 _ rfl) rfl, cell_of (g 6 _ rfl) rfl, cell_of (g 6 _ rfl) rfl, cell_of (g 6 _ rfl) rfl, fz_of (g 8 _ rfl), fz_of (g 6 _ rfl)⟩
theorem live_few (w W3 : World) (hT : Tabs w) (hw : W3 = allocs w (objs w.heap.size)) (M : Nat) (hM : M = W3.heap.size + 1) (N : Nat) (hN : N = w.heap.size) : Calls Tryd.prog 4 #[.agg #[.string ⟨#[]⟩, .slice (some ⟨N + 1, 0, none⟩) 1 1, .int .u8 4, .slice (some ⟨N + 2, 0, none⟩) 3 3, .slice none 0 0, .slice (some ⟨N + 9, 0, none⟩) 5 5]] (((W3.setCell ⟨N + 8, 3, none⟩ (.slice (some ⟨M, 0, none⟩) 2 2)).alloc (.cells #[.string ⟨#[]⟩, .slice (some ⟨N + 1, 0, none⟩) 1 1, .int .u8 4, .slice (some ⟨N + 2, 0, none⟩) 3 3, .slice none 0 0, .slice (some ⟨N + 9, 0, none⟩) 5 5] 36)).alloc (.cells #[.int .i64 0, .int .i64 2] 3)) fun e w' => e = .returned (.tuple #[.slice none 0 0, .slice none 0 0, .int .i64 4]) ∧ Below w.heap.size w w' := by
  subst hM
  subst hN
  have hs : W3.heap.size = w.heap.size + 10 := by rw [hw]; exact allocs_size _ _
  have hb3 : Below w.heap.size w W3 := by rw [hw]; exact allocs_below _ _
  have g : ∀ k o, (objs w.heap.size)[k]? = some o → W3.heap[w.heap.size + k]? = some o := fun k o h => by rw [hw]; exact allocs_get _ w k o h
  have kl : ∀ k o, (objs w.heap.size)[k]? = some o → k < 10 := fun k o h => (List.getElem?_eq_some_iff.1 h).1
  generalize hWF : ((W3.setCell ⟨w.heap.size + 8, 3, none⟩ (.slice (some ⟨W3.heap.size + 1, 0, none⟩) 2 2)).alloc (.cells #[.string ⟨#[]⟩, .slice (some ⟨w.heap.size + 1, 0, none⟩) 1 1, .int .u8 4, .slice (some ⟨w.heap.size + 2, 0, none⟩) 3 3, .slice none 0 0, .slice (some ⟨w.heap.size + 9, 0, none⟩) 5 5] 36)).alloc (.cells #[.int .i64 0, .int .i64 2] 3) = WF
  have hB : Below w.heap.size w WF := by rw [← hWF]; exact below_alloc (below_alloc (hb3.setCell (p := ⟨w.heap.size + 8, 3, none⟩) (by show w.heap.size ≤ w.heap.size + 8; omega) _) _) _
  have gf : ∀ k o, k ≠ 8 → (objs w.heap.size)[k]? = some o → WF.heap[w.heap.size + k]? = some o := fun k o hk h => by
    have hk2 := kl k o h
    rw [← hWF]
    exact ((two_up _ _ _ _ (by rw [set_size]; omega)).trans (Below.heap_setCell _ _ _ _ (by show w.heap.size + k ≠ w.heap.size + 8; omega))).trans (g k o h)
  have g8 : WF.heap[w.heap.size + 8]? = some (.cells #[bytV 1, bytV 0, intV 2, .slice (some ⟨W3.heap.size + 1, 0, none⟩) 2 2, u64V 0, intV 0] 46) := by
    rw [← hWF]
    exact (two_up _ _ _ _ (by rw [set_size]; omega)).trans (hsc (i := 3) (g 8 _ rfl) _)
  have gM : WF.heap[W3.heap.size + 1]? = some (.cells #[intV 0, intV 2] 3) := by
    rw [← hWF]
    have h9 := two_new (W3.setCell ⟨w.heap.size + 8, 3, none⟩ (.slice (some ⟨W3.heap.size + 1, 0, none⟩) 2 2)) (.cells #[.string ⟨#[]⟩, .slice (some ⟨w.heap.size + 1, 0, none⟩) 1 1, .int .u8 4, .slice (some ⟨w.heap.size + 2, 0, none⟩) 3 3, .slice none 0 0, .slice (some ⟨w.heap.size + 9, 0, none⟩) 5 5] 36) (.cells #[.int .i64 0, .int .i64 2] 3)
    rw [set_size] at h9
    exact h9
  have hC : InsAt WF (sl (w.heap.size + 8) 1) insF := by
    refine ⟨by decide, [.slice (some ⟨W3.heap.size + 1, 0, none⟩) 2 2], rfl, row_lit (t := 46) 1 g8 (by omega), fun i x a hx ha => ?_⟩
    rcases i with _ | i
    · cases hx; cases ha; exact row_lit (t := 3) 2 gM (by omega)
    · simp [insF] at hx
  have hG := mk_at (W := WF) (N := w.heap.size) (fun k o _ _ k8 h => gf k o k8 h) (insB_at (gf 5 _ (by decide) rfl) (gf 6 _ (by decide) rfl)) hC
  exact (live_no (mkG insB insF) _ _ _ _ WF hG (hT.below hB) (by decide) (by decide) (by decide) alone_few).mono fun e w' h => ⟨h.1, below_trans hB h.2⟩
theorem call_at (w W3 : World) (r : Int) (hw : W3 = allocs w (objs w.heap.size)) (M : Nat) (hM : M = W3.heap.size + 1) (WF : World) (hWF : ((((((((W3.setCell ⟨w.heap.size + 6, 0, none⟩ (.int .u8 9)).setCell ⟨w.heap.size + 6, 1, none⟩ (.int .u8 0)).setCell ⟨w.heap.size + 6, 2, none⟩ (.int .i64 1)).setCell ⟨w.heap.size + 6, 3, none⟩ (.slice (some ⟨M, 0, none⟩) 2 2)).setCell ⟨w.heap.size + 6, 4, none⟩ (.int .u64 0)).setCell ⟨w.heap.size + 6, 5, none⟩ (.int .i64 r)).alloc (.cells #[.string ⟨#[]⟩, .slice (some ⟨w.heap.size + 1, 0, none⟩) 1 1, .int .u8 4, .slice (some ⟨w.heap.size + 2, 0, none⟩) 3 3, .slice none 0 0, .slice (some ⟨w.heap.size + 9, 0, none⟩) 5 5] 36)).alloc (.cells #[.int .i64 2, .int .i64 1] 3)) = WF) : Below w.heap.size w WF ∧ GrAt WF (sl (w.heap.size + 1) 1) (sl (w.heap.size + 2) 3) (.slice none 0 0) (sl (w.heap.size + 9) 5) (mkG (insK r) insC) := by
  subst hM
  have hs : W3.heap.size = w.heap.size + 10 := by rw [hw]; exact allocs_size _ _
  have hb3 : Below w.heap.size w W3 := by rw [hw]; exact allocs_below _ _
  have g : ∀ k o, (objs w.heap.size)[k]? = some o → W3.heap[w.heap.size + k]? = some o := fun k o h => by rw [hw]; exact allocs_get _ w k o h
  have kl : ∀ k o, (objs w.heap.size)[k]? = some o → k < 10 := fun k o h => (List.getElem?_eq_some_iff.1 h).1
  have hle : w.heap.size ≤ w.heap.size + 6 := by omega
  have hB : Below w.heap.size w WF := by rw [← hWF]; exact below_alloc (below_alloc ((((((hb3.setCell (p := ⟨w.heap.size + 6, 0, none⟩) hle _).setCell (p := ⟨w.heap.size + 6, 1, none⟩) hle _).setCell (p := ⟨w.heap.size + 6, 2, none⟩) hle _).setCell (p := ⟨w.heap.size + 6, 3, none⟩) hle _).setCell (p := ⟨w.heap.size + 6, 4, none⟩) hle _).setCell (p := ⟨w.heap.size + 6, 5, none⟩) hle _) _) _
  have hz : (((((((W3.setCell ⟨w.heap.size + 6, 0, none⟩ (.int .u8 9)).setCell ⟨w.heap.size + 6, 1, none⟩ (.int .u8 0)).setCell ⟨w.heap.size + 6, 2, none⟩ (.int .i64 1)).setCell ⟨w.heap.size + 6, 3, none⟩ (.slice (some ⟨W3.heap.size + 1, 0, none⟩) 2 2)).setCell ⟨w.heap.size + 6, 4, none⟩ (.int .u64 0)).setCell ⟨w.heap.size + 6, 5, none⟩ (.int .i64 r))).heap.size = W3.heap.size := by simp only [set_size]
  have ot : ∀ b, b ≠ w.heap.size + 6 → b < W3.heap.size → WF.heap[b]? = W3.heap[b]? := fun b hb hl => by
    rw [← hWF, two_up _ _ _ _ (by rw [hz]; exact hl), Below.heap_setCell _ _ _ _ hb, Below.heap_setCell _ _ _ _ hb, Below.heap_setCell _ _ _ _ hb, Below.heap_setCell _ _ _ _ hb, Below.heap_setCell _ _ _ _ hb, Below.heap_setCell _ _ _ _ hb]
  have gf : ∀ k o, k ≠ 6 → (objs w.heap.size)[k]? = some o → WF.heap[w.heap.size + k]? = some o := fun k o hk h => by
    have hk2 := kl k o h
    rw [ot _ (by omega) (by omega)]
    exact g k o h
  have g6 : WF.heap[w.heap.size + 6]? = some (.cells #[bytV 9, bytV 0, intV 1, .slice (some ⟨W3.heap.size + 1, 0, none⟩) 2 2, u64V 0, intV r] 46) := by
    rw [← hWF]
    exact (two_up _ _ _ _ (by rw [hz]; omega)).trans (hsc (i := 5) (hsc (i := 4) (hsc (i := 3) (hsc (i := 2) (hsc (i := 1) (hsc (i := 0) (g 6 _ rfl) _) _) _) _) _) _)
  have gM : WF.heap[W3.heap.size + 1]? = some (.cells #[intV 2, intV 1] 3) := by
    rw [← hWF]
    have h9 := two_new (((((((W3.setCell ⟨w.heap.size + 6, 0, none⟩ (.int .u8 9)).setCell ⟨w.heap.size + 6, 1, none⟩ (.int .u8 0)).setCell ⟨w.heap.size + 6, 2, none⟩ (.int .i64 1)).setCell ⟨w.heap.size + 6, 3, none⟩ (.slice (some ⟨W3.heap.size + 1, 0, none⟩) 2 2)).setCell ⟨w.heap.size + 6, 4, none⟩ (.int .u64 0)).setCell ⟨w.heap.size + 6, 5, none⟩ (.int .i64 r))) (.cells #[.string ⟨#[]⟩, .slice (some ⟨w.heap.size + 1, 0, none⟩) 1 1, .int .u8 4, .slice (some ⟨w.heap.size + 2, 0, none⟩) 3 3, .slice none 0 0, .slice (some ⟨w.heap.size + 9, 0, none⟩) 5 5] 36) (.cells #[.int .i64 2, .int .i64 1] 3)
    rw [hz] at h9
    exact h9
  have hK : InsAt WF (sl (w.heap.size + 6) 1) (insK r) := by
    refine ⟨fun x hx => by rw [List.mem_singleton.1 hx]; exact ⟨show (0 : Int) ≤ 0 by omega, show (0 : Int) < 18446744073709551616 by omega⟩, [.slice (some ⟨W3.heap.size + 1, 0, none⟩) 2 2], rfl, row_lit (t := 46) 1 g6 (by omega), fun i x a hx ha => ?_⟩
    rcases i with _ | i
    · cases hx; cases ha; exact row_lit (t := 3) 2 gM (by omega)
    · simp [insK] at hx
  exact ⟨hB, mk_at (W := WF) (N := w.heap.size) (fun k o _ k6 _ h => gf k o k6 h) hK (insC_at (gf 7 _ (by decide) rfl) (gf 8 _ (by decide) rfl))⟩
theorem live_low (w W3 : World) (hT : Tabs w) (hw : W3 = allocs w (objs w.heap.size)) (M : Nat) (hM : M = W3.heap.size + 1) : Calls Tryd.prog 4 #[.agg #[.string ⟨#[]⟩, .slice (some ⟨w.heap.size + 1, 0, none⟩) 1 1, .int .u8 4, .slice (some ⟨w.heap.size + 2, 0, none⟩) 3 3, .slice none 0 0, .slice (some ⟨w.heap.size + 9, 0, none⟩) 5 5]] (((((((((W3.setCell ⟨w.heap.size + 6, 0, none⟩ (.int .u8 9)).setCell ⟨w.heap.size + 6, 1, none⟩ (.int .u8 0)).setCell ⟨w.heap.size + 6, 2, none⟩ (.int .i64 1)).setCell ⟨w.heap.size + 6, 3, none⟩ (.slice (some ⟨M, 0, none⟩) 2 2)).setCell ⟨w.heap.size + 6, 4, none⟩ (.int .u64 0)).setCell ⟨w.heap.size + 6, 5, none⟩ (.int .i64 (-1))).alloc (.cells #[.string ⟨#[]⟩, .slice (some ⟨w.heap.size + 1, 0, none⟩) 1 1, .int .u8 4, .slice (some ⟨w.heap.size + 2, 0, none⟩) 3 3, .slice none 0 0, .slice (some ⟨w.heap.size + 9, 0, none⟩) 5 5] 36)).alloc (.cells #[.int .i64 2, .int .i64 1] 3))) fun e w' => e = .returned (.tuple #[.slice none 0 0, .slice none 0 0, .int .i64 4]) ∧ Below w.heap.size w w' := by
  subst hM
  obtain ⟨hB, hG⟩ := call_at w W3 (-1) hw _ rfl _ rfl
  exact (live_no (mkG (insK (-1)) insC) _ _ _ _ _ hG (hT.below hB) (by decide) (by decide) (by decide) alone_low).mono fun e w' h => ⟨h.1, below_trans hB h.2⟩
theorem live_call (w W3 : World) (hT : Tabs w) (hw : W3 = allocs w (objs w.heap.size)) (M : Nat) (hM : M = W3.heap.size + 1) : Calls Tryd.prog 4 #[.agg #[.string ⟨#[]⟩, .slice (some ⟨w.heap.size + 1, 0, none⟩) 1 1, .int .u8 4, .slice (some ⟨w.heap.size + 2, 0, none⟩) 3 3, .slice none 0 0, .slice (some ⟨w.heap.size + 9, 0, none⟩) 5 5]] (((((((((W3.setCell ⟨w.heap.size + 6, 0, none⟩ (.int .u8 9)).setCell ⟨w.heap.size + 6, 1, none⟩ (.int .u8 0)).setCell ⟨w.heap.size + 6, 2, none⟩ (.int .i64 1)).setCell ⟨w.heap.size + 6, 3, none⟩ (.slice (some ⟨M, 0, none⟩) 2 2)).setCell ⟨w.heap.size + 6, 4, none⟩ (.int .u64 0)).setCell ⟨w.heap.size + 6, 5, none⟩ (.int .i64 4611686018427387904)).alloc (.cells #[.string ⟨#[]⟩, .slice (some ⟨w.heap.size + 1, 0, none⟩) 1 1, .int .u8 4, .slice (some ⟨w.heap.size + 2, 0, none⟩) 3 3, .slice none 0 0, .slice (some ⟨w.heap.size + 9, 0, none⟩) 5 5] 36)).alloc (.cells #[.int .i64 2, .int .i64 1] 3))) fun e w' => (∃ gA gB, e = .returned (.tuple #[.slice (some ⟨gA, 0, none⟩) 5 5, .slice (some ⟨gB, 0, none⟩) 5 5, .int .i64 0]) ∧ NetAt w' (.slice (some ⟨gA, 0, none⟩) 5 5) [[0], [0, 1, 2], [2], [], [2]] ∧ ∃ ra rc, gB < w'.heap.size ∧ w'.cell? ⟨gB, 0, none⟩ = some (.slice ra 3 rc) ∧ IntsAt w' (.slice ra 3 rc) [0, 1, 2]) ∧ Below w.heap.size w w' := by
  subst hM
  obtain ⟨hB, hG⟩ := call_at w W3 4611686018427387904 hw _ rfl _ rfl
  have h := live_yes (mkG (insK 4611686018427387904) insC) _ _ _ _ _ hG (hT.below hB) (by decide) (by decide) (by decide) alone_call (f := 6) ok_call
  have e1 : inRows (mkG (insK 4611686018427387904) insC).blocks (aheadT (tms (mkG (insK 4611686018427387904) insC).blocks)) (mkG (insK 4611686018427387904) insC).vars.length 6 = [[0], [0, 1, 2], [2], [], [2]] := rows_call.1
  rw [e1] at h
  exact h.mono fun e w' hh => by
    obtain ⟨⟨gA, gB, he, h1, h2⟩, hb⟩ := hh
    obtain ⟨gq, oq, ra, rc, hq1, hq2, hq3, hq4⟩ := h2.get (i := 0) (by have := rows_call.2.2; show 0 < (outRows (mkG (insK 4611686018427387904) insC).blocks (aheadT (tms (mkG (insK 4611686018427387904) insC).blocks)) 3 6).length; omega)
    cases hq1
    have e3 : (outRows (mkG (insK 4611686018427387904) insC).blocks (aheadT (tms (mkG (insK 4611686018427387904) insC).blocks)) (mkG (insK 4611686018427387904) insC).vars.length 6).getD 0 [] = [0, 1, 2] := rows_call.2.1
    rw [e3] at hq3 hq4
    exact ⟨⟨gA, gB, he, h1, ra, rc, hq2, hq3, hq4⟩, below_trans hB hb⟩
theorem live_one (W : World) (hT : Tabs W) : Calls Tryd.prog 4 #[.agg #[.string ⟨#[]⟩, .slice none 0 0, .int .u8 4, .slice (some ⟨W.heap.size, 0, none⟩) 1 1, .slice none 0 0, .slice (some ⟨W.heap.size + 1, 0, none⟩) 1 1]] (((W.alloc (.cells #[.int .u8 4] 22)).alloc (.cells #[.slice none 0 0, .int .u8 3, .int .i64 0, .int .i64 0, .int .i64 0, .int .u8 0] 31)).alloc (.cells #[.string ⟨#[]⟩, .slice none 0 0, .int .u8 4, .slice (some ⟨W.heap.size, 0, none⟩) 1 1, .slice none 0 0, .slice (some ⟨W.heap.size + 1, 0, none⟩) 1 1] 36)) fun e w' => (∃ gA gB, e = .returned (.tuple #[.slice (some ⟨gA, 0, none⟩) 1 1, .slice (some ⟨gB, 0, none⟩) 1 1, .int .i64 0]) ∧ NetAt w' (.slice (some ⟨gA, 0, none⟩) 1 1) [[0]] ∧ NetAt w' (.slice (some ⟨gB, 0, none⟩) 1 1) [[]]) ∧ Below W.heap.size W w' := by
  have g := fun k o (h : ([.cells #[.int .u8 4] 22, .cells #[.slice none 0 0, .int .u8 3, .int .i64 0, .int .i64 0, .int .i64 0, .int .u8 0] 31, .cells #[.string ⟨#[]⟩, .slice none 0 0, .int .u8 4, .slice (some ⟨W.heap.size, 0, none⟩) 1 1, .slice none 0 0, .slice (some ⟨W.heap.size + 1, 0, none⟩) 1 1] 36] : List Obj)[k]? = some o) => allocs_get [.cells #[.int .u8 4] 22, .cells #[.slice none 0 0, .int .u8 3, .int .i64 0, .int .i64 0, .int .i64 0, .int .u8 0] 31, .cells #[.string ⟨#[]⟩, .slice none 0 0, .int .u8 4, .slice (some ⟨W.heap.size, 0, none⟩) 1 1, .slice none 0 0, .slice (some ⟨W.heap.size + 1, 0, none⟩) 1 1] 36] W k o h
  have hB : Below W.heap.size W (((W.alloc (.cells #[.int .u8 4] 22)).alloc (.cells #[.slice none 0 0, .int .u8 3, .int .i64 0, .int .i64 0, .int .i64 0, .int .u8 0] 31)).alloc (.cells #[.string ⟨#[]⟩, .slice none 0 0, .int .u8 4, .slice (some ⟨W.heap.size, 0, none⟩) 1 1, .slice none 0 0, .slice (some ⟨W.heap.size + 1, 0, none⟩) 1 1] 36)) := allocs_below [.cells #[.int .u8 4] 22, .cells #[.slice none 0 0, .int .u8 3, .int .i64 0, .int .i64 0, .int .i64 0, .int .u8 0] 31, .cells #[.string ⟨#[]⟩, .slice none 0 0, .int .u8 4, .slice (some ⟨W.heap.size, 0, none⟩) 1 1, .slice none 0 0, .slice (some ⟨W.heap.size + 1, 0, none⟩) 1 1] 36] W
  have hG : GrAt (((W.alloc (.cells #[.int .u8 4] 22)).alloc (.cells #[.slice none 0 0, .int .u8 3, .int .i64 0, .int .i64 0, .int .i64 0, .int .u8 0] 31)).alloc (.cells #[.string ⟨#[]⟩, .slice none 0 0, .int .u8 4, .slice (some ⟨W.heap.size, 0, none⟩) 1 1, .slice none 0 0, .slice (some ⟨W.heap.size + 1, 0, none⟩) 1 1] 36)) (.slice none 0 0) (.slice (some ⟨W.heap.size, 0, none⟩) 1 1) (.slice none 0 0) (.slice (some ⟨W.heap.size + 1, 0, none⟩) 1 1) oneG := by
    refine ⟨row_nil _ _, row_lit (t := 22) 1 (g 0 _ rfl) (by omega), row_nil _ _, ⟨[.slice none 0 0], rfl, row_lit (t := 31) 1 (g 1 _ rfl) (by omega), fun i x a hx ha => ?_⟩⟩
    rcases i with _ | i
    · cases hx; cases ha; exact ⟨by simp, [], rfl, row_nil _ _, fun i x a hx ha => by simp at hx⟩
    · simp [oneG] at hx
  have h := live_yes oneG _ _ _ _ _ hG (hT.below hB) (by decide) (by decide) (by decide) alone_one (f := 6) ok_one
  have e1 : inRows oneG.blocks (aheadT (tms oneG.blocks)) oneG.vars.length 6 = [[0]] := rows_one.1
  have e2 : outRows oneG.blocks (aheadT (tms oneG.blocks)) oneG.vars.length 6 = [[]] := rows_one.2
  rw [e1, e2] at h
  exact h.mono fun e w' hh => ⟨hh.1, below_trans hB hh.2⟩
theorem live_none (W : World) (hT : Tabs W) : Calls Tryd.prog 4 #[.agg #[.string ⟨#[]⟩, .slice none 0 0, .int .u8 0, .slice none 0 0, .slice none 0 0, .slice none 0 0]] W fun e w' => e = .returned (.tuple #[.slice none 0 0, .slice none 0 0, .int .i64 4]) ∧ Below W.heap.size W w' :=
  live_no noG (.slice none 0 0) (.slice none 0 0) (.slice none 0 0) (.slice none 0 0) W ⟨row_nil _ _, row_nil _ _, row_nil _ _, ⟨[], rfl, row_nil _ _, fun i x a hx => by simp [noG] at hx⟩⟩ hT (by decide) (by decide) (by decide) alone_no
end Go.Proofs.YtcggbedjhglmmaaDoor
