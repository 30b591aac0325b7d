/- Small contracts: places, what an end names, rows compared, how much there is. -/
import Derived.Test.YtdgpdmohfnealaaGreatDoorGMemM
import Derived.Laws.OwnMore
import Derived.OwnWalk
import Derived.OpenShut
namespace Go.Proofs.YtdgpdmohfnealaaGreatDoor
open Go.RowKit

theorem ret_int {k : IntKind} {a b : Int} (h : a = b) : Ending.returned (.int k a) = .returned (.int k b) := by rw [h]
theorem ret_bool {a b : Bool} (h : a = b) : Ending.returned (.bool a) = .returned (.bool b) := by rw [h]
theorem below_drewN {w w1 : World} (h : Below w.heap.size w w1) (k : Nat) : Below w.heap.size w (w1.drewN k) := h.trans ⟨rfl, rfl, rfl, Nat.le_refl _, fun _ _ => rfl⟩
theorem below_drew {w w1 : World} (h : Below w.heap.size w w1) : Below w.heap.size w w1.drew := h.trans ⟨rfl, rfl, rfl, Nat.le_refl _, fun _ _ => rfl⟩
theorem below_alloc {w w1 : World} (h : Below w.heap.size w w1) (o : Obj) : Below w.heap.size w (w1.alloc o) := h.alloc h.size o
theorem below_trans {w w1 w2 : World} (h : Below w.heap.size w w1) (h2 : Below w1.heap.size w1 w2) : Below w.heap.size w w2 := h.trans (h2.mono h.size)
theorem bcell {W w1 : World} (hb : Below W.heap.size W w1) : (∀ b o, b < W.heap.size → w1.cell? ⟨b, o, none⟩ = W.cell? ⟨b, o, none⟩) ∧ (∀ b o, b < W.heap.size → w1.frozen? ⟨b, o, none⟩ = W.frozen? ⟨b, o, none⟩) :=
  ⟨fun b o h => hb.cell (p := ⟨b, o, none⟩) h, fun b o h => hb.frozen (p := ⟨b, o, none⟩) h⟩
def placeB (a b : Int) : Bool := decide (0 ≤ a ∧ a < b)
theorem placeB_in (a : Int) (n : Nat) : placeB a (n : Int) = inB a n := rfl
theorem isPlace_any (a b : Int) (w : World) : Calls Tryz.prog 43 #[.int .i64 a, .int .i64 b] w fun e w' => e = .returned (.bool (placeB a b)) ∧ w' = w := by
  unfold placeB
  go_enter Tryz.func43, Tryz.ntmps43
  by_cases h : 0 ≤ a
  · go_wp2
    go_ret
    exact ⟨ret_bool (by simp [h]), rfl⟩
  · go_wp2
    go_ret
    exact ⟨ret_bool (by simp; omega), rfl⟩
/-- A row of whole numbers in memory of one's own. -/
abbrev OwnI (w : World) (base : Nat) (v : Value) (l : List Int) : Prop := w.ownsRow base 3 1 v l.length (l.map intV)
theorem OwnI.at' {w : World} {base : Nat} {v : Value} {l : List Int} (h : OwnI w base v l) (hl : l.length ≤ 140737488355328) : IntsAt w v l := by
  rcases h.2 with ⟨rfl, h0⟩ | ⟨g, cap, cur, rfl, _, hg, hc, _⟩
  · exact ⟨none, 0, by rw [h0], ⟨by omega, hl⟩, .inl h0⟩
  · refine ⟨_, _, rfl, ⟨hc, hl⟩, .inr ⟨g, 0, rfl, (Array.getElem?_eq_some_iff.1 hg).1, fun j u hj => ?_⟩⟩
    have := h.cells (g := g) rfl j u hj
    rwa [Addr.add_lit] at this
theorem own_lit2 (w : World) (o : Obj) (cs : Array Value) (e : TypeId) (n : Nat) (hm : n ≤ maxLen) (hs : cs.size = n * 1) : ((w.alloc o).alloc (.cells cs e)).ownsRow w.heap.size e 1 (.slice (some ⟨w.heap.size + 1, 0, none⟩) n n) n cs.toList := by
  have h := World.ownsRow_lit (base := w.heap.size) (e := e) (size := 1) (w.alloc o) cs n (below_alloc (Below.refl _ _) _).size hm hs
  rwa [show (w.alloc o).heap.size = w.heap.size + 1 by simp] at h
abbrev tmV (t : Tm) : Value := .agg #[.int .u8 t.kind, .int .i64 t.arg, .int .i64 t.t0, .int .i64 t.t1, .int .u8 t.trap]
theorem named_any (t : Tm) (w : World) : Calls Tryz.prog 67 #[tmV t] w fun e w' => ∃ v, e = .returned v ∧ OwnI w' w.heap.size v (namedT t) ∧ Below w.heap.size w w' := by
  obtain ⟨k, a, x, y, z⟩ := t
  unfold namedT
  by_cases h1 : k = 1
  · subst h1
    go_enter Tryz.func67, Tryz.ntmps67
    go_wp2
    go_ret
    refine ⟨.slice (some ⟨w.heap.size + 1, 0, none⟩) 1 1, rfl, ?_, ?_⟩
    · exact own_lit2 w _ #[.int .i64 x] _ 1 (by decide) rfl
    · exact below_alloc (below_alloc (Below.refl _ _) _) _
  · by_cases h2 : k = 2
    · subst h2
      go_enter Tryz.func67, Tryz.ntmps67
      go_wp2
      go_ret
      refine ⟨.slice (some ⟨w.heap.size + 1, 0, none⟩) 2 2, rfl, ?_, ?_⟩
      · exact own_lit2 w _ #[.int .i64 x, .int .i64 y] _ 2 (by decide) rfl
      · exact below_alloc (below_alloc (Below.refl _ _) _) _
    · simp only [h1, h2, if_false]
      go_enter Tryz.func67, Tryz.ntmps67
      go_wp2
      go_ret
      exact ⟨_, rfl, World.ownsRow_nil _ _ _ _, below_alloc (Below.refl _ _) _⟩
theorem take_next {xs ys : List Int} {i : Nat} {x : Int} (h : xs.take i = ys.take i) (h1 : xs[i]? = some x) (h2 : ys[i]? = some x) : xs.take (i + 1) = ys.take (i + 1) := by
  rw [List.take_add_one, List.take_add_one, h, h1, h2]
theorem getD_some {l : List Int} {i : Nat} (h : i < l.length) : l[i]? = some (l.getD i 0) := by simp [List.getD, List.getElem?_eq_getElem h]
end Go.Proofs.YtdgpdmohfnealaaGreatDoor
/- Package scalar: which words are right, what operations make of types, which types turn. -/
namespace Go.Proofs.YtdgpdmohfnealaaGreatDoor
open Go.RowKit

def wholeB (t : Int) : Bool := t == 2 || t == 3 || t == 4
def numberB (t : Int) : Bool := t == 5 || wholeB t
def typedB (t : Int) : Bool := t == 1 || numberB t
def nanI (a : Int) : Bool := FloatKind.f64.format.order a.toNat a.toNat != some .eq
def cutI (t a : Int) : Int :=
  if t = 1 then a % 2 else if t = 2 then a % 256 else if t = 3 then IntKind.u64.wrap (wrap32 a)
  else if t = 5 then (if nanI a = true then 9221120237041090560 else a) else if t = 4 then a else 0
def rightB (t a : Int) : Bool := typedB t && (cutI t a == a)
def word (a : Int) : Prop := 0 ≤ a ∧ a < 18446744073709551616
def oneB (o : Int) : Bool := o == 17 || o == 18
def ofT (o t : Int) : Int :=
  if o = 11 ∨ o = 12 then (if typedB t then 1 else 0)
  else if o = 13 ∨ o = 14 ∨ o = 15 ∨ o = 16 then (if numberB t then 1 else 0)
  else if o = 1 ∨ o = 2 ∨ o = 3 ∨ o = 4 ∨ o = 17 then (if numberB t then t else 0)
  else if o = 6 ∨ o = 7 ∨ o = 8 ∨ o = 18 then (if t = 1 ∨ wholeB t = true then t else 0)
  else if o = 5 ∨ o = 9 ∨ o = 10 then (if wholeB t then t else 0) else 0
def ofB (o t : Int) : Bool :=
  if o = 11 ∨ o = 12 then typedB t
  else if o = 13 ∨ o = 14 ∨ o = 15 ∨ o = 16 then numberB t
  else if o = 1 ∨ o = 2 ∨ o = 3 ∨ o = 4 ∨ o = 17 then numberB t
  else if o = 6 ∨ o = 7 ∨ o = 8 ∨ o = 18 then t == 1 || wholeB t
  else if o = 5 ∨ o = 9 ∨ o = 10 then wholeB t else false
def turnsB (to fr : Int) : Bool := numberB to && numberB fr
theorem ret_u64 {a b : Int} (h : a = b) : Ending.returned (.int .u64 a) = .returned (.int .u64 b) := by rw [h]
theorem ret_pair {k : IntKind} {a b : Int} {x y : Bool} (h : a = b) (g : x = y) : Ending.returned (.tuple #[.int k a, .bool x]) = .returned (.tuple #[.int k b, .bool y]) := by rw [h, g]
theorem and_one (a : Int) (h : word a) : bits .and .u64 a 1 = a % 2 := by
  obtain ⟨h0, h1⟩ := h
  exact and_one_u64 a h0 (by omega)
theorem run_frombits (a : Int) (w : World) : (callFunc 49 #[.int .u64 a]).run Tryz.prog w = .ok (.value (.float .f64 a.toNat)) w := by kernel_rfl
set_option maxHeartbeats 400000 in
theorem cut_any (t a : Int) (w : World) (ha : Hid (word a)) :
    Calls Tryz.prog 28 #[.int .u8 t, .int .u64 a] w fun e w' => e = .returned (.int .u64 (cutI t a)) ∧ w' = w := by
  have f1 := run_frombits
  by_cases h1 : t = 1
  · subst h1
    go_enter Tryz.func28, Tryz.ntmps28
    go_wp2
    go_ret
    exact ⟨ret_u64 (and_one a ha.out), rfl⟩
  by_cases h2 : t = 2
  · subst h2
    go_enter Tryz.func28, Tryz.ntmps28
    go_wp2
    go_ret
    exact ⟨rfl, rfl⟩
  by_cases h3 : t = 3
  · subst h3
    go_enter Tryz.func28, Tryz.ntmps28
    go_wp2
    go_ret
    exact ⟨rfl, rfl⟩
  by_cases h4 : t = 4
  · subst h4
    go_enter Tryz.func28, Tryz.ntmps28
    go_wp2
    go_ret
    exact ⟨rfl, rfl⟩
  by_cases h5 : t = 5
  · subst h5
    by_cases hn : (FloatKind.f64.format.order a.toNat a.toNat != some .eq) = true
    · go_enter Tryz.func28, Tryz.ntmps28
      go_wp2
      go_ret
      exact ⟨ret_u64 (by simp [cutI, nanI, hn]), rfl⟩
    · have hn' : (FloatKind.f64.format.order a.toNat a.toNat != some .eq) = false := by simpa using hn
      go_enter Tryz.func28, Tryz.ntmps28
      go_wp2
      go_ret
      exact ⟨ret_u64 (by simp [cutI, nanI, hn']), rfl⟩
  · go_enter Tryz.func28, Tryz.ntmps28
    go_wp2
    go_ret
    exact ⟨ret_u64 (by simp [cutI, h1, h2, h3, h4, h5]), rfl⟩
set_option maxHeartbeats 400000 in
theorem whole_any (t : Int) (w : World) : Calls Tryz.prog 66 #[.int .u8 t] w fun e w' => e = .returned (.bool (wholeB t)) ∧ w' = w := by
  go_enter Tryz.func66, Tryz.ntmps66
  go_wp2
  all_goals go_ret
  all_goals exact ⟨ret_bool (by simp_all [wholeB]), rfl⟩
set_option maxHeartbeats 400000 in
theorem number_any (t : Int) (w : World) : Calls Tryz.prog 47 #[.int .u8 t] w fun e w' => e = .returned (.bool (numberB t)) ∧ w' = w := by
  by_cases h : t = 5
  · subst h
    go_enter Tryz.func47, Tryz.ntmps47
    go_wp2
    go_ret
    exact ⟨rfl, rfl⟩
  · have h' : (t == 5) = false := by simpa using h
    go_enter Tryz.func47, Tryz.ntmps47
    go_wp2_with (go_at_call 66; refine (whole_any _ _).mono ?_; rintro e w' ⟨rfl, rfl⟩)
    go_ret
    exact ⟨ret_bool (by simp [numberB, h']), rfl⟩
set_option maxHeartbeats 400000 in
theorem typed_any (t : Int) (w : World) : Calls Tryz.prog 27 #[.int .u8 t] w fun e w' => e = .returned (.bool (typedB t)) ∧ w' = w := by
  by_cases h : t = 1
  · subst h
    go_enter Tryz.func27, Tryz.ntmps27
    go_wp2
    go_ret
    exact ⟨rfl, rfl⟩
  · have h' : (t == 1) = false := by simpa using h
    go_enter Tryz.func27, Tryz.ntmps27
    go_wp2_with (go_at_call 47; refine (number_any _ _).mono ?_; rintro e w' ⟨rfl, rfl⟩)
    go_ret
    exact ⟨ret_bool (by simp [typedB, h']), rfl⟩
set_option maxHeartbeats 400000 in
theorem right_any (t a : Int) (w : World) (ha : Hid (word a)) :
    Calls Tryz.prog 15 #[.int .u8 t, .int .u64 a] w fun e w' => e = .returned (.bool (rightB t a)) ∧ w' = w := by
  by_cases h : typedB t = true
  · go_enter Tryz.func15, Tryz.ntmps15
    go_wp2_with (first | (go_at_call 27; refine (typed_any _ _).mono ?_; rintro e w' ⟨rfl, rfl⟩) | (go_at_call 28; refine (cut_any _ _ _ ha).mono ?_; rintro e w' ⟨rfl, rfl⟩))
    go_ret
    exact ⟨ret_bool (by simp [rightB, h]), rfl⟩
  · have h' : typedB t = false := by simpa using h
    go_enter Tryz.func15, Tryz.ntmps15
    go_wp2_with (first | (go_at_call 27; refine (typed_any _ _).mono ?_; rintro e w' ⟨rfl, rfl⟩))
    go_ret
    exact ⟨ret_bool (by simp [rightB, h']), rfl⟩
set_option maxHeartbeats 1000000 in
theorem of_any (o t : Int) (w : World) :
    Calls Tryz.prog 70 #[.int .u8 o, .int .u8 t] w fun e w' => e = .returned (.tuple #[.int .u8 (ofT o t), .bool (ofB o t)]) ∧ w' = w := by
  go_enter Tryz.func70, Tryz.ntmps70
  go_wp2_with (first | (go_at_call 47; refine (number_any _ _).mono ?_; rintro e w' ⟨rfl, rfl⟩) | (go_at_call 66; refine (whole_any _ _).mono ?_; rintro e w' ⟨rfl, rfl⟩))
  all_goals go_ret2
  all_goals exact ⟨ret_pair (by simp_all [ofT, typedB]) (by simp_all [ofB, typedB]), rfl⟩
set_option maxHeartbeats 400000 in
theorem turns_any (to fr : Int) (w : World) : Calls Tryz.prog 54 #[.int .u8 to, .int .u8 fr] w fun e w' => e = .returned (.bool (turnsB to fr)) ∧ w' = w := by
  cases h1 : numberB to <;> cases h2 : numberB fr
  all_goals
    go_enter Tryz.func54, Tryz.ntmps54
    go_wp2_with (go_at_call 47; refine (number_any _ _).mono ?_; rintro e w' ⟨rfl, rfl⟩)
    go_ret
    exact ⟨ret_bool (by simp [turnsB, h1, h2]), rfl⟩
end Go.Proofs.YtdgpdmohfnealaaGreatDoor
/- Variables in memory; rows of one's own. -/
namespace Go.Proofs.YtdgpdmohfnealaaGreatDoor
open Go.RowKit

abbrev ptr (b : Nat) : Value := .pointer (some ⟨b, 0, none⟩)
/-- A variable at block b, cell by cell. -/
structure Box (w : World) (b : Nat) (cs : List Value) : Prop where
  lt : b < w.heap.size
  cell : ∀ (j : Nat) (u : Value), cs[j]? = some u → w.cell? ⟨b, j, none⟩ = some u
  fz : ∀ j, w.frozen? ⟨b, j, none⟩ = false
theorem Box.same {w w' : World} {b : Nat} {cs : List Value} (h : Box w b cs) (he : w'.heap[b]? = w.heap[b]?) : Box w' b cs := by
  refine ⟨?_, fun j u hj => (World.cell?_of_block (w := w) (a := ⟨b, j, none⟩) he).trans (h.cell j u hj), fun j => (World.frozen?_of_block (w := w) (a := ⟨b, j, none⟩) he).trans (h.fz j)⟩
  rcases Nat.lt_or_ge b w'.heap.size with h1 | h1
  · exact h1
  · rw [Array.getElem?_eq_none h1, Array.getElem?_eq_getElem h.lt] at he
    cases he
theorem Box.below {w w' : World} {b : Nat} {cs : List Value} (h : Box w b cs) (hk : Below w.heap.size w w') : Box w' b cs := h.same (hk.block b h.lt)
theorem Box.other {w : World} {b : Nat} {cs : List Value} (h : Box w b cs) {a : Addr} (ha : b ≠ a.block) (u : Value) : Box (w.setCell a u) b cs := h.same (Below.heap_setCell _ _ _ _ ha)
theorem Box.set {w : World} {b : Nat} {cs : List Value} (h : Box w b cs) {j : Nat} (hj : j < cs.length) (u : Value) : Box (w.setCell ⟨b, j, none⟩ u) b (cs.set j u) := by
  refine ⟨by simpa [World.setCell] using h.lt, fun i x hi => ?_, fun i => by rw [World.frozen?_setCell]; exact h.fz i⟩
  rw [List.getElem?_set] at hi
  by_cases hij : j = i
  · subst hij
    rw [if_pos rfl, if_pos hj] at hi
    cases hi
    exact World.cell?_setCell_same _ _ _ (h.cell j _ (List.getElem?_eq_getElem hj))
  · rw [if_neg hij] at hi
    rw [World.cell?_setCell_other _ _ _ _ (by intro hh; simp at hh <;> omega)]
    exact h.cell i x hi
theorem Box.new (w : World) (cs : List Value) (t : TypeId) : Box (w.alloc (.cells cs.toArray t)) w.heap.size cs := by
  have hh := heap_alloc_new w (.cells cs.toArray t)
  refine ⟨by simp, fun j u hj => ?_, fun j => ?_⟩
  · simp only [World.cell?, hh]; simpa using hj
  · simp only [World.frozen?, hh]; rfl
theorem owns_other {w : World} {base : Nat} {e : TypeId} {sz : Nat} {v : Value} {n : Nat} {xs : List Value} (h : w.ownsRow base e sz v n xs) {a : Addr} (ha : v.ownBlock ≠ some a.block) (u : Value) : (w.setCell a u).ownsRow base e sz v n xs := by
  refine ⟨h.1, ?_⟩
  rcases h.2 with h0 | ⟨g, cap, cur, hv, h1, hh, h2⟩
  · exact .inl h0
  · refine .inr ⟨g, cap, cur, hv, h1, (Below.heap_setCell _ _ _ _ ?_).trans hh, h2⟩
    intro hc
    rw [hv] at ha
    exact ha (by simp [Value.ownBlock, hc])
theorem owns_same {w w' : World} {base : Nat} {e : TypeId} {sz : Nat} {v : Value} {n : Nat} {xs : List Value} (h : w.ownsRow base e sz v n xs) (he : ∀ g, v.ownBlock = some g → w'.heap[g]? = w.heap[g]?) : w'.ownsRow base e sz v n xs := by
  refine ⟨h.1, ?_⟩
  rcases h.2 with h0 | ⟨g, cap, cur, hv, h1, hh, h2⟩
  · exact .inl h0
  · exact .inr ⟨g, cap, cur, hv, h1, (he g (by rw [hv]; rfl)).trans hh, h2⟩
theorem owns_below {w w' : World} {base : Nat} {e : TypeId} {sz : Nat} {v : Value} {n : Nat} {xs : List Value} (h : w.ownsRow base e sz v n xs) (hb : Below w.heap.size w w') : w'.ownsRow base e sz v n xs :=
  owns_same h fun g hg => hb.block g (h.lt g hg).2
theorem own_mono {w : World} {base base' : Nat} {e : TypeId} {size : Nat} {v : Value} {n : Nat} {xs : List Value} (h : w.ownsRow base e size v n xs) (hb : base' ≤ base) : w.ownsRow base' e size v n xs := by
  refine ⟨h.1, ?_⟩
  rcases h.2 with h0 | ⟨g, cap, cur, hv, h1, h2⟩
  · exact .inl h0
  · exact .inr ⟨g, cap, cur, hv, Nat.le_trans hb h1, h2⟩
theorem own_form {w : World} {base : Nat} {e : TypeId} {sz : Nat} {v : Value} {n : Nat} {xs : List Value} (h : w.ownsRow base e sz v (n + 1) xs) : ∃ g cap, v = .slice (some ⟨g, 0, none⟩) (n + 1) cap ∧ base ≤ g ∧ g < w.heap.size ∧ n + 1 ≤ cap ∧ cap ≤ maxLen := by
  rcases h.2 with ⟨_, h0⟩ | ⟨g, cap, cur, hv, h1, hh, h2, h3, _⟩
  · omega
  · exact ⟨g, cap, hv, h1, (Array.getElem?_eq_some_iff.1 hh).1, h2, h3⟩
theorem own_snoc {w : World} {base : Nat} {v : Value} {l : List Int} {x : Int} (h : OwnI w base v (l ++ [x])) : w.ownsRow base 3 1 v (l.length + 1) (l.map intV ++ [intV x]) := by
  have h2 : w.ownsRow base 3 1 v (l ++ [x]).length ((l ++ [x]).map intV) := h
  simpa using h2
/-- A row without its last element. -/
theorem own_cut {w : World} {base g c : Nat} {l : List Int} {x : Int} {n : Nat} (hn : n = l.length + 1) (h : OwnI w base (.slice (some ⟨g, 0, none⟩) n c) (l ++ [x])) : OwnI w base (.slice (some ⟨g, 0, none⟩) l.length c) l := by
  subst hn
  refine ⟨by simp, ?_⟩
  rcases h.2 with ⟨h0, _⟩ | ⟨g', cap, cur, hv, h1, hh, h2, h3, h4, h5⟩
  · cases h0
  · injection hv with e1 e2 e3
    cases e1
    subst e3
    refine .inr ⟨g, c, cur, rfl, h1, hh, by simp at h2; omega, h3, h4, ?_⟩
    have h6 := congrArg (List.take l.length) h5
    rw [List.take_take] at h6
    simpa using h6
theorem slice_cut {g m c f : Nat} (hm : m ≤ c) (hf : f ≤ m) : ∀ W, (Instr.slice 34 (.slice (some ⟨g, 0, none⟩) m c) none (some (.int .i64 (f : Int))) none).run Tryz.prog W = .ok (.slice (some ⟨g, 0, none⟩) f c) W := fun W => by
  have hs : ∀ W : World, (sizeOf (Tryz.prog.elem 34)).run Tryz.prog W = .ok 1 W := fun W => by kernel_rfl
  have hu : Tryz.prog.underlying 34 = some (.slice (Tryz.prog.elem 34)) := by kernel_rfl
  rw [run_slice_h W 34 _ m c hu .i64 f (by omega) (by omega), hs]
  simp [Result.andThen, sliced, Addr.add]
theorem infoI : (Tryz.prog.info? 3).map (fun i => (i.zero, i.size, i.bytes)) = some (some (.int .i64 0), 1, 8) := by kernel_rfl
end Go.Proofs.YtdgpdmohfnealaaGreatDoor
