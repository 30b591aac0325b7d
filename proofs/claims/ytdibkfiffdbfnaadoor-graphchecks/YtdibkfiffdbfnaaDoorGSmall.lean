/- Small contracts: places, what an end names, rows compared, how much there is. -/
import Derived.Test.YtdibkfiffdbfnaaDoorGMemM
import Derived.Laws.OwnMore
import Derived.OwnWalk
namespace Go.Proofs.YtdibkfiffdbfnaaDoor
open Go.RowKit

theorem ret_int {k : IntKind} {a b : Int} (h : a = b) : Ending.returned (.int k a) = .returned (.int k b) := by rw [h]
theorem ret_bool {a b : Bool} (h : a = b) : Ending.returned (.bool a) = .returned (.bool b) := by rw [h]
theorem below_drewN {w w1 : World} (h : Below w.heap.size w w1) (k : Nat) : Below w.heap.size w (w1.drewN k) := h.trans ⟨rfl, rfl, rfl, Nat.le_refl _, fun _ _ => rfl⟩
theorem below_drew {w w1 : World} (h : Below w.heap.size w w1) : Below w.heap.size w w1.drew := h.trans ⟨rfl, rfl, rfl, Nat.le_refl _, fun _ _ => rfl⟩
theorem below_alloc {w w1 : World} (h : Below w.heap.size w w1) (o : Obj) : Below w.heap.size w (w1.alloc o) := h.alloc h.size o
theorem below_trans {w w1 w2 : World} (h : Below w.heap.size w w1) (h2 : Below w1.heap.size w1 w2) : Below w.heap.size w w2 := h.trans (h2.mono h.size)
theorem bcell {W w1 : World} (hb : Below W.heap.size W w1) : (∀ b o, b < W.heap.size → w1.cell? ⟨b, o, none⟩ = W.cell? ⟨b, o, none⟩) ∧ (∀ b o, b < W.heap.size → w1.frozen? ⟨b, o, none⟩ = W.frozen? ⟨b, o, none⟩) :=
  ⟨fun b o h => hb.cell (p := ⟨b, o, none⟩) h, fun b o h => hb.frozen (p := ⟨b, o, none⟩) h⟩
def placeB (a b : Int) : Bool := decide (0 ≤ a ∧ a < b)
theorem placeB_in (a : Int) (n : Nat) : placeB a (n : Int) = inB a n := rfl
theorem isPlace_any (a b : Int) (w : World) : Calls Tryd.prog 21 #[.int .i64 a, .int .i64 b] w fun e w' => e = .returned (.bool (placeB a b)) ∧ w' = w := by
  unfold placeB
  go_enter Tryd.func21, Tryd.ntmps21
  by_cases h : 0 ≤ a
  · go_wp2
    go_ret
    exact ⟨ret_bool (by simp [h]), rfl⟩
  · go_wp2
    go_ret
    exact ⟨ret_bool (by simp; omega), rfl⟩
/-- A row of whole numbers in memory of one's own. -/
abbrev OwnI (w : World) (base : Nat) (v : Value) (l : List Int) : Prop := w.ownsRow base 3 1 v l.length (l.map intV)
theorem OwnI.at' {w : World} {base : Nat} {v : Value} {l : List Int} (h : OwnI w base v l) (hl : l.length ≤ 140737488355328) : IntsAt w v l := by
  rcases h.2 with ⟨rfl, h0⟩ | ⟨g, cap, cur, rfl, _, hg, hc, _⟩
  · exact ⟨none, 0, by rw [h0], ⟨by omega, hl⟩, .inl h0⟩
  · refine ⟨_, _, rfl, ⟨hc, hl⟩, .inr ⟨g, 0, rfl, (Array.getElem?_eq_some_iff.1 hg).1, fun j u hj => ?_⟩⟩
    have := h.cells (g := g) rfl j u hj
    rwa [Addr.add_lit] at this
theorem own_lit2 (w : World) (o : Obj) (cs : Array Value) (e : TypeId) (n : Nat) (hm : n ≤ maxLen) (hs : cs.size = n * 1) : ((w.alloc o).alloc (.cells cs e)).ownsRow w.heap.size e 1 (.slice (some ⟨w.heap.size + 1, 0, none⟩) n n) n cs.toList := by
  have h := World.ownsRow_lit (base := w.heap.size) (e := e) (size := 1) (w.alloc o) cs n (below_alloc (Below.refl _ _) _).size hm hs
  rwa [show (w.alloc o).heap.size = w.heap.size + 1 by simp] at h
abbrev tmV (t : Tm) : Value := .agg #[.int .u8 t.kind, .int .i64 t.arg, .int .i64 t.t0, .int .i64 t.t1, .int .u8 t.trap]
theorem named_any (t : Tm) (w : World) : Calls Tryd.prog 20 #[tmV t] w fun e w' => ∃ v, e = .returned v ∧ OwnI w' w.heap.size v (namedT t) ∧ Below w.heap.size w w' := by
  obtain ⟨k, a, x, y, z⟩ := t
  unfold namedT
  by_cases h1 : k = 1
  · subst h1
    go_enter Tryd.func20, Tryd.ntmps20
    go_wp2
    go_ret
    refine ⟨.slice (some ⟨w.heap.size + 1, 0, none⟩) 1 1, rfl, ?_, ?_⟩
    · exact own_lit2 w _ #[.int .i64 x] _ 1 (by decide) rfl
    · exact below_alloc (below_alloc (Below.refl _ _) _) _
  · by_cases h2 : k = 2
    · subst h2
      go_enter Tryd.func20, Tryd.ntmps20
      go_wp2
      go_ret
      refine ⟨.slice (some ⟨w.heap.size + 1, 0, none⟩) 2 2, rfl, ?_, ?_⟩
      · exact own_lit2 w _ #[.int .i64 x, .int .i64 y] _ 2 (by decide) rfl
      · exact below_alloc (below_alloc (Below.refl _ _) _) _
    · simp only [h1, h2, if_false]
      go_enter Tryd.func20, Tryd.ntmps20
      go_wp2
      go_ret
      exact ⟨_, rfl, World.ownsRow_nil _ _ _ _, below_alloc (Below.refl _ _) _⟩
theorem take_next {xs ys : List Int} {i : Nat} {x : Int} (h : xs.take i = ys.take i) (h1 : xs[i]? = some x) (h2 : ys[i]? = some x) : xs.take (i + 1) = ys.take (i + 1) := by
  rw [List.take_add_one, List.take_add_one, h, h1, h2]
theorem getD_some {l : List Int} {i : Nat} (h : i < l.length) : l[i]? = some (l.getD i 0) := by simp [List.getD, List.getElem?_eq_getElem h]
set_option maxRecDepth 100000 in
set_option maxHeartbeats 1000000 in
theorem same_any (xs ys : List Int) (v1 v2 : Value) (w : World) (h1 : IntsAt w v1 xs) (h2 : IntsAt w v2 ys) : Calls Tryd.prog 11 #[v1, v2] w fun e w' => e = .returned (.bool (decide (xs = ys))) ∧ Below w.heap.size w w' := by
  obtain ⟨a1, c1, rfl, hb1⟩ := h1.form
  obtain ⟨a2, c2, rfl, hb2⟩ := h2.form
  by_cases hl : xs.length = ys.length
  · have HI : Hid (∀ i, i < xs.length → ∃ g1 o1 g2 o2 x y, a1 = some ⟨g1, o1, none⟩ ∧ a2 = some ⟨g2, o2, none⟩ ∧ g1 < w.heap.size ∧ g2 < w.heap.size ∧ xs[i]? = some x ∧ ys[i]? = some y ∧ w.cell? ⟨g1, o1 + i, none⟩ = some (.int .i64 x) ∧ w.cell? ⟨g2, o2 + i, none⟩ = some (.int .i64 y)) := fun i hi => by
      obtain ⟨g1, o1, e1, l1, k1⟩ := h1.get hi
      obtain ⟨g2, o2, e2, l2, k2⟩ := h2.get (i := i) (by omega)
      exact ⟨g1, o1, g2, o2, _, _, e1, e2, l1, l2, getD_some hi, getD_some (by omega), k1, k2⟩
    have HD : Hid (∀ (i : Nat) (x y : Int), xs[i]? = some x → ys[i]? = some y → x ≠ y → decide (xs = ys) = false) := fun i x y e1 e2 hn => decide_eq_false (fun he => by rw [he, e2] at e1; cases e1; exact hn rfl)
    have HE : Hid (xs.take xs.length = ys.take xs.length → decide (xs = ys) = true) := fun he => decide_eq_true (by rw [List.take_length, hl, List.take_length] at he; exact he)
    have hl' : (ys.length : Int) = (xs.length : Int) := by omega
    generalize hN : xs.length = n at *
    obtain ⟨R, hR⟩ : ∃ R, R = decide (xs = ys) := ⟨_, rfl⟩
    rw [← hR]
    have HR : Hid _ := hR
    clear h1 h2 hR hN hb2
    rw [← hl]
    go_enter Tryd.func11, Tryd.ntmps11
    go_wp2
    go_loopw [5] (fun vi wr => ∃ i : Nat, vi = .int .i64 i ∧ i ≤ n ∧ Hid (xs.take i = ys.take i ∧ Below w.heap.size w wr)) (fun vi _ => n - (intOf vi).toNat)
    case atStart => exact ⟨0, rfl, by omega, rfl, Below.refl _ _⟩
    case round =>
      obtain ⟨i, rfl, hi, hr⟩ := hrel
      by_cases hin : i < n
      · obtain ⟨g1, o1, g2, o2, x, y, rfl, rfl, l1, l2, e1, e2, k1, k2⟩ := HI.out i hin
        have k1' : wr.cell? ⟨g1, o1 + i, none⟩ = some (.int .i64 x) := (hr.out.2.cell (p := ⟨g1, o1 + i, none⟩) l1).trans k1
        have k2' : wr.cell? ⟨g2, o2 + i, none⟩ = some (.int .i64 y) := (hr.out.2.cell (p := ⟨g2, o2 + i, none⟩) l2).trans k2
        have hin' : (i : Int) < n := by omega
        have E1 : Hid _ := e1
        have E2 : Hid _ := e2
        clear k1 k2 HI e1 e2 l1 l2
        by_cases hxy : x = y
        · subst hxy
          have HT : Hid _ := take_next hr.out.1 E1.out E2.out
          clear E1 E2
          go_wp2
          go_quiet (fail)
          go_wp2
          go_roundw
          case rel => exact ⟨i + 1, by first | rfl | (congr 1; omega), by omega, HT.out, by first | exact hr.out.2 | exact below_drewN hr.out.2 _⟩
          case measure => simp [intOf]; omega
        · have HX : Hid (R = false) := HR.out.trans (HD.out i x y E1.out E2.out hxy)
          clear E1 E2
          go_wp2
          go_quiet (fail)
          go_wp2
          go_ret
          exact ⟨ret_bool HX.out.symm, by first | exact hr.out.2 | exact below_drewN hr.out.2 _⟩
      · obtain rfl : i = n := by omega
        have HX : Hid (R = true) := HR.out.trans (HE.out hr.out.1)
        clear HI
        go_wp2
        go_ret
        exact ⟨ret_bool HX.out.symm, hr.out.2⟩
  · have hne : decide (xs = ys) = false := decide_eq_false (fun he => hl (by rw [he]))
    rw [hne]
    have hl' : ¬ (xs.length : Int) = (ys.length : Int) := by omega
    clear h1 h2 hl hne
    go_enter Tryd.func11, Tryd.ntmps11
    go_wp2
    go_ret
    exact ⟨rfl, Below.refl _ _⟩
end Go.Proofs.YtdibkfiffdbfnaaDoor
