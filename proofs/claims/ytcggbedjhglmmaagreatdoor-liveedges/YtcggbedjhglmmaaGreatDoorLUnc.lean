/- A graph with copies in the place of calls, in memory. -/
import Derived.Test.YtcggbedjhglmmaaGreatDoorLShpM
namespace Go.Proofs.YtcggbedjhglmmaaGreatDoor
open Go.RowKit

/-- but for some blocks nothing has changed -/
def Agr (S : Nat → Prop) (w W : World) : Prop := w.heap.size ≤ W.heap.size ∧ ∀ k, k < w.heap.size → ¬ S k → W.heap[k]? = w.heap[k]?
theorem Agr.refl (S : Nat → Prop) (w : World) : Agr S w w := ⟨Nat.le_refl _, fun _ _ _ => rfl⟩
theorem Agr.trans {S : Nat → Prop} {a b c : World} (h : Agr S a b) (g : Agr S b c) : Agr S a c := ⟨Nat.le_trans h.1 g.1, fun k hk hs => (g.2 k (Nat.lt_of_lt_of_le hk h.1) hs).trans (h.2 k hk hs)⟩
theorem Agr.below {S : Nat → Prop} {a b : World} (h : Below a.heap.size a b) : Agr S a b := ⟨h.size, fun k hk _ => h.block k hk⟩
theorem Agr.set {S : Nat → Prop} {w : World} {g : Nat} (hg : S g) (j : Nat) (u : Value) : Agr S w (w.setCell ⟨g, j, none⟩ u) := ⟨by simp [World.setCell], fun k _ hs => Below.heap_setCell _ _ _ _ (by intro e; exact hs (by simpa [e] using hg))⟩
theorem Agr.mono {S T : Nat → Prop} {a b : World} (h : Agr S a b) (hs : ∀ k, S k → T k) : Agr T a b := ⟨h.1, fun k hk ht => h.2 k hk fun hc => ht (hs k hc)⟩
def IntsS (S : Nat → Prop) (w : World) (v : Value) (l : List Int) : Prop := ∀ W, Agr S w W → IntsAt W v l
def InsS (S : Nat → Prop) (w : World) (v : Value) (l : List In) : Prop := ∀ W, Agr S w W → InsAt W v l
theorem IntsS.on {S : Nat → Prop} {w w1 : World} {v : Value} {l : List Int} (h : IntsS S w v l) (ha : Agr S w w1) : IntsS S w1 v l := fun W hW => h W (ha.trans hW)
theorem InsS.on {S : Nat → Prop} {w w1 : World} {v : Value} {l : List In} (h : InsS S w v l) (ha : Agr S w w1) : InsS S w1 v l := fun W hW => h W (ha.trans hW)
theorem RowAt.agr {S : Nat → Prop} {w0 w W : World} {v : Value} {n : Nat} {cs : List Value} (h : RowAt w0 v n cs) (hb : Below w0.heap.size w0 w) (hS : ∀ k, S k → w0.heap.size ≤ k) (ha : Agr S w W) : RowAt W v n cs := by
  obtain ⟨a, c, hv, hn, hc⟩ := h
  refine ⟨a, c, hv, hn, ?_⟩
  rcases hc with h0 | ⟨g, o, e, hg, hc⟩
  · exact .inl h0
  · have hgw : g < w.heap.size := Nat.lt_of_lt_of_le hg hb.size
    have eh : W.heap[g]? = w0.heap[g]? := (ha.2 g hgw (fun hs => by have := hS g hs; omega)).trans (hb.block g hg)
    exact .inr ⟨g, o, e, Nat.lt_of_lt_of_le hgw ha.1, fun j u hu => (World.cell?_of_block (w := w0) (a := ⟨g, o + j, none⟩) eh).trans (hc j u hu)⟩
theorem IntsS.old {S : Nat → Prop} {w0 w : World} {v : Value} {l : List Int} (h : IntsAt w0 v l) (hb : Below w0.heap.size w0 w) (hS : ∀ k, S k → w0.heap.size ≤ k) : IntsS S w v l := fun _ hW => RowAt.agr h hb hS hW
theorem InsS.old {S : Nat → Prop} {w0 w : World} {v : Value} {l : List In} (h : InsAt w0 v l) (hb : Below w0.heap.size w0 w) (hS : ∀ k, S k → w0.heap.size ≤ k) : InsS S w v l := fun _ hW => by
  obtain ⟨avs, h1, h2, h3⟩ := h.row
  exact ⟨h.wf, avs, h1, RowAt.agr h2 hb hS hW, fun i x a hx ha => RowAt.agr (h3 i x a hx ha) hb hS hW⟩
theorem insCells_len : ∀ {l : List In} {avs : List Value}, avs.length = l.length → (insCells l avs).length = l.length * 6
  | [], _, _ => by simp [insCells]
  | x :: l, [], h => by simp at h
  | x :: l, a :: avs, h => by
    have := insCells_len (l := l) (avs := avs) (by simpa using h)
    unfold insCells
    rw [List.length_append, this, List.length_cons, Nat.add_mul]
    simp [inCells]; omega
theorem blsCells_len : ∀ {l : List Bl} {avs : List Value}, avs.length = l.length → (blsCells l avs).length = l.length * 6
  | [], _, _ => by simp [blsCells]
  | x :: l, [], h => by simp at h
  | x :: l, a :: avs, h => by
    have := blsCells_len (l := l) (avs := avs) (by simpa using h)
    unfold blsCells
    rw [List.length_append, this, List.length_cons, Nat.add_mul]
    simp [blCells]; omega
theorem insCells_cons (x : In) (l : List In) (a : Value) (avs : List Value) : insCells (x :: l) (a :: avs) = inCells x a ++ insCells l avs := rfl
theorem blsCells_cons (x : Bl) (l : List Bl) (a : Value) (avs : List Value) : blsCells (x :: l) (a :: avs) = blCells x a ++ blsCells l avs := rfl
theorem set_six {p l : List Value} (hp : p.length = 6) (i q : Nat) (u : Value) : (p ++ l).set ((i + 1) * 6 + q) u = p ++ l.set (i * 6 + q) u := by
  rw [List.set_append_right _ _ (by rw [hp, Nat.add_mul]; omega), hp, show (i + 1) * 6 + q - 6 = i * 6 + q by omega]
theorem set_six0 {p l : List Value} (hp : p.length = 6) (i : Nat) (u : Value) : (p ++ l).set ((i + 1) * 6) u = p ++ l.set (i * 6) u := set_six hp i 0 u
/-- six cells of an element are others now -/
theorem insCells_set : ∀ {l : List In} {avs : List Value} {i : Nat} {x y : In} {a b : Value}, l[i]? = some x → avs[i]? = some a → (((((((insCells l avs).set (i * 6) (bytV y.kind)).set (i * 6 + 1) (bytV y.op)).set (i * 6 + 2) (intV y.dst)).set (i * 6 + 3) b).set (i * 6 + 4) (.int .u64 y.bits)).set (i * 6 + 5) (intV y.ref)) = insCells (l.set i y) (avs.set i b)
  | z :: l, c :: avs, 0, x, y, a, b, hx, ha => by
    simp [insCells, inCells]
  | z :: l, c :: avs, i + 1, x, y, a, b, hx, ha => by
    have := insCells_set (l := l) (avs := avs) (i := i) (y := y) (b := b) (by simpa using hx) (by simpa using ha)
    rw [List.set_cons_succ, List.set_cons_succ, insCells_cons, insCells_cons, ← this]
    have h6 : (inCells z c).length = 6 := rfl
    rw [set_six0 h6, set_six h6, set_six h6, set_six h6, set_six h6, set_six h6]
  | [], _, _, _, _, _, _, hx, _ => by simp at hx
  | _ :: _, [], _, _, _, _, _, _, ha => by simp at ha
theorem blsCells_set : ∀ {l : List Bl} {avs : List Value} {i : Nat} {x y : Bl} {a b : Value}, l[i]? = some x → avs[i]? = some a → y.tm = x.tm → (blsCells l avs).set (i * 6) b = blsCells (l.set i y) (avs.set i b)
  | z :: l, c :: avs, 0, x, y, a, b, hx, ha, ht => by
    simp at hx; subst hx
    simp [blsCells, blCells, ht]
  | z :: l, c :: avs, i + 1, x, y, a, b, hx, ha, ht => by
    have := blsCells_set (l := l) (avs := avs) (i := i) (y := y) (b := b) (by simpa using hx) (by simpa using ha) ht
    rw [List.set_cons_succ, List.set_cons_succ, blsCells_cons, blsCells_cons, ← this]
    have h6 : (blCells z c).length = 6 := rfl
    rw [set_six0 h6]
  | [], _, _, _, _, _, _, hx, _, _ => by simp at hx
  | _ :: _, [], _, _, _, _, _, _, ha, _ => by simp at ha
theorem infoBl : (Tryz.prog.info? 48).map (fun i => (i.zero, i.size, i.bytes)) = some (some (.agg #[.slice none 0 0, .int .u8 0, .int .i64 0, .int .i64 0, .int .i64 0, .int .u8 0]), 6, 64) := by kernel_rfl
theorem infoIn : (Tryz.prog.info? 54).map (fun i => (i.zero, i.size, i.bytes)) = some (some (.agg #[.int .u8 0, .int .u8 0, .int .i64 0, .slice none 0 0, .int .u64 0, .int .i64 0]), 6, 56) := by kernel_rfl
set_option maxRecDepth 100000 in
set_option maxHeartbeats 1000000 in
theorem cloneB_any {w : World} {a : Option Addr} {n c : Nat} {cs : List Value} (h : RowAt w (.slice a n c) n cs) (hl : cs.length = n * 6) (hn : n ≤ 1000000) (h1 : ∀ u ∈ cs, u.oneCell' = true) :
    Calls Tryz.prog 68 #[.slice a n c] w fun e w' => ∃ v', e = .returned v' ∧ w'.ownsRow w.heap.size 48 6 v' n cs ∧ Below w.heap.size w w' := by
  cases a with
  | none =>
    have h0 : n = 0 := by
      obtain ⟨a', c', hv, _, hc⟩ := h
      injection hv with e1 e2 e3
      subst e1
      rcases hc with h0 | ⟨g, o, e, _⟩
      · exact h0
      · cases e
    subst h0
    have hcs : cs = [] := List.eq_nil_of_length_eq_zero (by simpa using hl)
    subst hcs
    have hq : ∀ W, (binOp .eql 26 (.slice none 0 c) (.slice none 0 0)).run Tryz.prog W = .ok (.bool true) W := fun W => Lib.run_eql_slice_nil W _ _ none 0 c 0 0 Tryz.underlying26
    clear h hl hn h1
    go_enter Tryz.func68, Tryz.ntmps68
    go_wp2
    go_ret
    exact ⟨_, rfl, World.ownsRow_nil _ _ _ _, Below.refl _ _⟩
  | some ad =>
    obtain ⟨i0, hi0, hz0, hz1, hz2⟩ := info_parts infoBl
    have HC : Hid (∀ j u, cs[j]? = some u → (w.alloc (.cells #[] 48)).cell? (ad.add j) = some u) := by
      intro j u hj
      obtain ⟨a', c', hv, _, hc⟩ := h
      injection hv with e1 e2 e3
      subst e1
      rcases hc with h0 | ⟨g, o, e, hg, hc⟩
      · subst h0; have := (List.getElem?_eq_some_iff.1 hj).1; omega
      · cases e
        rw [Addr.add_lit]
        exact ((below_alloc (Below.refl w.heap.size w) (.cells #[] 48)).cell (p := ⟨g, o + j, none⟩) hg).trans (hc j u hj)
    have HL : Hid (cs.length = n * 6) := hl
    have H1 : Hid (∀ u ∈ cs, u.oneCell' = true) := h1
    have HN : Hid (n ≤ 1000000) := hn
    have hq : ∀ W, (binOp .eql 26 (.slice (some ad) n c) (.slice none 0 0)).run Tryz.prog W = .ok (.bool false) W := fun W => Lib.run_eql_slice_nil W _ _ (some ad) n c 0 0 Tryz.underlying26
    clear h hl hn h1
    go_enter Tryz.func68, Tryz.ntmps68
    go_wp2_with (at_builtin; go_loud (refine wpList_append_own_at _ rfl _ _ 26 rfl w.heap.size 48 i0 (.agg #[.slice none 0 0, .int .u8 0, .int .i64 0, .int .i64 0, .int .i64 0, .int .u8 0]) 6 64 Tryz.underlying26 hi0 hz0 hz1 hz2 rfl (by decide) _ 0 [] rfl (World.ownsRow_made w #[] 0 (Nat.le_refl _) (Nat.zero_le _) (by simp)) ad n c cs rfl HL.out HC.out H1.out ?c3 ?c4 ?c5 ?_))
    case c3 => have := HN.out; unfold maxLen; omega
    case c4 => have := HN.out; omega
    case c5 => simp
    intro v2 w2 ho hg2 _ hat
    have HQ : Hid (w2.ownsRow w.heap.size 48 6 v2 n cs ∧ Below w.heap.size w w2) := ⟨by simpa using ho, below_grown (below_alloc (Below.refl _ _) _) hg2 (fun g hg => by simp [Value.ownBlock] at hg; omega)⟩
    clear ho hg2 hat
    go_wp2
    go_ret
    exact ⟨_, rfl, HQ.out.1, HQ.out.2⟩
set_option maxRecDepth 100000 in
set_option maxHeartbeats 1000000 in
theorem cloneI_any {w : World} {a : Option Addr} {n c : Nat} {cs : List Value} (h : RowAt w (.slice a n c) n cs) (hl : cs.length = n * 6) (hn : n ≤ 1000000) (h1 : ∀ u ∈ cs, u.oneCell' = true) :
    Calls Tryz.prog 70 #[.slice a n c] w fun e w' => ∃ v', e = .returned v' ∧ w'.ownsRow w.heap.size 54 6 v' n cs ∧ Below w.heap.size w w' := by
  cases a with
  | none =>
    have h0 : n = 0 := by
      obtain ⟨a', c', hv, _, hc⟩ := h
      injection hv with e1 e2 e3
      subst e1
      rcases hc with h0 | ⟨g, o, e, _⟩
      · exact h0
      · cases e
    subst h0
    have hcs : cs = [] := List.eq_nil_of_length_eq_zero (by simpa using hl)
    subst hcs
    have hq : ∀ W, (binOp .eql 41 (.slice none 0 c) (.slice none 0 0)).run Tryz.prog W = .ok (.bool true) W := fun W => Lib.run_eql_slice_nil W _ _ none 0 c 0 0 Tryz.underlying41
    clear h hl hn h1
    go_enter Tryz.func70, Tryz.ntmps70
    go_wp2
    go_ret
    exact ⟨_, rfl, World.ownsRow_nil _ _ _ _, Below.refl _ _⟩
  | some ad =>
    obtain ⟨i0, hi0, hz0, hz1, hz2⟩ := info_parts infoIn
    have HC : Hid (∀ j u, cs[j]? = some u → (w.alloc (.cells #[] 54)).cell? (ad.add j) = some u) := by
      intro j u hj
      obtain ⟨a', c', hv, _, hc⟩ := h
      injection hv with e1 e2 e3
      subst e1
      rcases hc with h0 | ⟨g, o, e, hg, hc⟩
      · subst h0; have := (List.getElem?_eq_some_iff.1 hj).1; omega
      · cases e
        rw [Addr.add_lit]
        exact ((below_alloc (Below.refl w.heap.size w) (.cells #[] 54)).cell (p := ⟨g, o + j, none⟩) hg).trans (hc j u hj)
    have HL : Hid (cs.length = n * 6) := hl
    have H1 : Hid (∀ u ∈ cs, u.oneCell' = true) := h1
    have HN : Hid (n ≤ 1000000) := hn
    have hq : ∀ W, (binOp .eql 41 (.slice (some ad) n c) (.slice none 0 0)).run Tryz.prog W = .ok (.bool false) W := fun W => Lib.run_eql_slice_nil W _ _ (some ad) n c 0 0 Tryz.underlying41
    clear h hl hn h1
    go_enter Tryz.func70, Tryz.ntmps70
    go_wp2_with (at_builtin; go_loud (refine wpList_append_own_at _ rfl _ _ 41 rfl w.heap.size 54 i0 (.agg #[.int .u8 0, .int .u8 0, .int .i64 0, .slice none 0 0, .int .u64 0, .int .i64 0]) 6 56 Tryz.underlying41 hi0 hz0 hz1 hz2 rfl (by decide) _ 0 [] rfl (World.ownsRow_made w #[] 0 (Nat.le_refl _) (Nat.zero_le _) (by simp)) ad n c cs rfl HL.out HC.out H1.out ?c3 ?c4 ?c5 ?_))
    case c3 => have := HN.out; unfold maxLen; omega
    case c4 => have := HN.out; omega
    case c5 => simp
    intro v2 w2 ho hg2 _ hat
    have HQ : Hid (w2.ownsRow w.heap.size 54 6 v2 n cs ∧ Below w.heap.size w w2) := ⟨by simpa using ho, below_grown (below_alloc (Below.refl _ _) _) hg2 (fun g hg => by simp [Value.ownBlock] at hg; omega)⟩
    clear ho hg2 hat
    go_wp2
    go_ret
    exact ⟨_, rfl, HQ.out.1, HQ.out.2⟩
end Go.Proofs.YtcggbedjhglmmaaGreatDoor
