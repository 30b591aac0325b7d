/- Rows of one's own as rows that are read. -/
import Derived.Test.YtabpnjakfoofpaaGreatDoorGClnM
namespace Go.Proofs.YtabpnjakfoofpaaGreatDoor
open Go.RowKit

theorem row_own {w : World} {base : Nat} {e : TypeId} {sz : Nat} {v : Value} {n : Nat} {cs : List Value} (h : w.ownsRow base e sz v n cs) (hn : n ≤ 1000000) : RowAt w v n cs := by
  rcases own_shape h with ⟨e1, e2⟩ | ⟨g, c, e1, hc, _⟩
  · subst e1 e2
    exact ⟨_, _, rfl, ⟨Nat.le_refl _, by omega⟩, .inl rfl⟩
  · subst e1
    exact row_of_own h hn hc
theorem CI.at' {w : World} {base : Nat} {v : Value} {l : List In} {avs : List Value} (h : CI w base v l avs) (hn : l.length ≤ 1000000) (hla : ∀ x ∈ l, x.args.length ≤ 1000000) (hw : ∀ x ∈ l, 0 ≤ x.bits ∧ x.bits < 18446744073709551616) : InsAt w v l :=
  ⟨hw, avs, h.al, row_own h.row hn, fun i x a hx ha => OwnI.at' (h.kid i x a hx ha) (by have := hla x (List.mem_of_getElem? hx); omega)⟩
theorem CB.at' {w : World} {base : Nat} {v : Value} {bs : List Bl} {ivs : List Value} {avss : List (List Value)} (h : CB w base v bs ivs avss) (hn : bs.length ≤ 1000000) (hli : ∀ b ∈ bs, b.ins.length ≤ 1000000) (hla : ∀ b ∈ bs, ∀ x ∈ b.ins, x.args.length ≤ 1000000) (hw : ∀ b ∈ bs, ∀ x ∈ b.ins, 0 ≤ x.bits ∧ x.bits < 18446744073709551616) : BlsAt w v bs :=
  ⟨ivs, h.al, row_own h.row hn, fun i b iv hb hi => by
    have hl : i < avss.length := by rw [h.vl]; exact (List.getElem?_eq_some_iff.1 hb).1
    have hm := List.mem_of_getElem? hb
    exact (h.kid i b iv _ hb hi (List.getElem?_eq_getElem hl)).at' (hli b hm) (hla b hm) (hw b hm)⟩
end Go.Proofs.YtabpnjakfoofpaaGreatDoor
/- Programs in memory of one's own: graphs told one behind another, one put in the place of another. -/
namespace Go.Proofs.YtabpnjakfoofpaaGreatDoor
open Go.RowKit

/-- a graph that lies in what has been made since -/
def GN (w w' : World) (pv vv av bv : Value) (G : Gr) : Prop := ∀ W : World, (∀ k, w.heap.size ≤ k → k < w'.heap.size → W.heap[k]? = w'.heap[k]?) → GrAt W pv vv av bv G
abbrev GV := Value × Value × Value × Value
def KG (w : World) (v : Value) (q : GV) (G : Gr) : Prop := ∃ lo hi, hi ≤ w.heap.size ∧ (∀ g, v.ownBlock = some g → g < lo ∨ hi ≤ g) ∧ ∀ W : World, (∀ k, lo ≤ k → k < hi → W.heap[k]? = w.heap[k]?) → GrAt W q.1 q.2.1 q.2.2.1 q.2.2.2 G
structure QG (w : World) (base : Nat) (v : Value) (l : List Gr) (qs : List GV) : Prop where
  row : w.ownsRow base 28 6 v l.length (grsCells l qs)
  ql : qs.length = l.length
  kid : ∀ (i : Nat) (G : Gr) (q : GV), l[i]? = some G → qs[i]? = some q → KG w v q G
theorem QG.nil (w : World) (base : Nat) : QG w base (.slice none 0 0) [] [] := ⟨World.ownsRow_nil _ _ _ _, rfl, fun i G q h => by simp at h⟩
theorem KG.same {w w' : World} {v v' : Value} {q : GV} {G : Gr} (h : KG w v q G) (hs : w.heap.size ≤ w'.heap.size) (hk : ∀ k, k < w.heap.size → v.ownBlock ≠ some k → w'.heap[k]? = w.heap[k]?) (hv : ∀ g, v'.ownBlock = some g → v.ownBlock = some g ∨ w.heap.size ≤ g) : KG w' v' q G := by
  obtain ⟨lo, hi, h1, h2, h3⟩ := h
  refine ⟨lo, hi, Nat.le_trans h1 hs, fun g hg => ?_, fun W hW => h3 W fun k k1 k2 => (hW k k1 k2).trans (hk k (by omega) fun e => ?_)⟩
  · rcases hv g hg with e | e
    · exact h2 g e
    · exact .inr (by omega)
  · rcases h2 k e with e | e <;> omega
theorem QG.below {w w' : World} {base : Nat} {v : Value} {l : List Gr} {qs : List GV} (h : QG w base v l qs) (hb : Below w.heap.size w w') : QG w' base v l qs :=
  ⟨owns_below h.row hb, h.ql, fun i G q h1 h2 => (h.kid i G q h1 h2).same hb.size (fun k hk _ => hb.block k hk) fun _ hg => .inl hg⟩
theorem grsCells_snoc : ∀ {l : List Gr} {qs : List GV} (x : Gr) (q : GV), qs.length = l.length → grsCells (l ++ [x]) (qs ++ [q]) = grsCells l qs ++ grL x q.1 q.2.1 q.2.2.1 q.2.2.2
  | [], [], x, a, _ => by simp [grsCells]
  | y :: l, b :: avs, x, a, h => by
    have := grsCells_snoc (l := l) (qs := avs) x a (by simpa using h)
    rw [List.cons_append, List.cons_append]
    show grL y b.1 b.2.1 b.2.2.1 b.2.2.2 ++ grsCells (l ++ [x]) (avs ++ [a]) = grL y b.1 b.2.1 b.2.2.1 b.2.2.2 ++ grsCells l avs ++ grL x a.1 a.2.1 a.2.2.1 a.2.2.2
    rw [this, List.append_assoc]
  | [], b :: avs, _, _, h => by simp at h
  | y :: l, [], _, _, h => by simp at h
theorem QG.push {w w1 w2 : World} {base : Nat} {v v2 : Value} {l : List Gr} {qs : List GV} {x : Gr} {q : GV} (h : QG w base v l qs) (hb : Below w.heap.size w w1) (hq : ∀ W : World, (∀ k, w.heap.size ≤ k → k < w1.heap.size → W.heap[k]? = w1.heap[k]?) → GrAt W q.1 q.2.1 q.2.2.1 q.2.2.2 x)
    (ho : w2.ownsRow base 28 6 v2 (l.length + 1) (grsCells l qs ++ grL x q.1 q.2.1 q.2.2.1 q.2.2.2)) (hg : w1.grownBy w2 v.ownBlock) (hat : v2.ownBlock = v.ownBlock ∨ v2.ownBlock = some w1.heap.size) : QG w2 base v2 (l ++ [x]) (qs ++ [q]) := by
  have hvb : ∀ g, v.ownBlock = some g → g < w.heap.size := fun g hg => (h.row.lt g hg).2
  have hkeep : ∀ k, k < w1.heap.size → v.ownBlock ≠ some k → w2.heap[k]? = w1.heap[k]? := fun k hk hn => hg.block k hk (fun e => hn e.symm)
  refine ⟨?_, by simp [h.ql], fun i G qq h1 h2 => ?_⟩
  · rw [grsCells_snoc x q h.ql, List.length_append]; exact ho
  · rcases app_cases h1 with ⟨hi, h1⟩ | ⟨hi, rfl⟩
    · rcases app_cases h2 with ⟨_, h2⟩ | ⟨hi2, _⟩
      · refine (((QG.below h hb).kid i G qq h1 h2)).same hg.size hkeep fun g hg' => ?_
        rcases hat with e | e
        · exact .inl (e ▸ hg')
        · rw [e] at hg'; cases hg'; exact .inr (Nat.le_refl _)
      · rw [h.ql] at hi2; omega
    · rcases app_cases h2 with ⟨hi2, _⟩ | ⟨_, rfl⟩
      · rw [h.ql] at hi2; omega
      · refine ⟨w.heap.size, w1.heap.size, hg.size, fun g hg' => ?_, fun W hW => hq W fun k k1 k2 => (hW k k1 k2).trans (hkeep k k2 fun e => ?_)⟩
        · rcases hat with e | e
          · rw [e] at hg'; exact .inl (hvb g hg')
          · rw [e] at hg'; cases hg'; exact .inr (Nat.le_refl _)
        · have := hvb k e; omega
theorem grsCells_set : ∀ {l : List Gr} {qs : List GV} {i : Nat} {x y : Gr} {a b : GV}, l[i]? = some x → qs[i]? = some a → (((((((grsCells l qs).set (i * 6) (.string y.name)).set (i * 6 + 1) b.1).set (i * 6 + 2) (bytV y.result)).set (i * 6 + 3) b.2.1).set (i * 6 + 4) b.2.2.1).set (i * 6 + 5) b.2.2.2) = grsCells (l.set i y) (qs.set i b)
  | z :: l, c :: qs, 0, x, y, a, b, hx, ha => by
    simp [grsCells, grL]
  | z :: l, c :: qs, i + 1, x, y, a, b, hx, ha => by
    have := grsCells_set (l := l) (qs := qs) (i := i) (y := y) (b := b) (by simpa using hx) (by simpa using ha)
    rw [List.set_cons_succ, List.set_cons_succ]
    show ((((((grL z c.1 c.2.1 c.2.2.1 c.2.2.2 ++ grsCells l qs).set ((i + 1) * 6) (.string y.name)).set ((i + 1) * 6 + 1) b.1).set ((i + 1) * 6 + 2) (bytV y.result)).set ((i + 1) * 6 + 3) b.2.1).set ((i + 1) * 6 + 4) b.2.2.1).set ((i + 1) * 6 + 5) b.2.2.2 = grL z c.1 c.2.1 c.2.2.1 c.2.2.2 ++ grsCells (l.set i y) (qs.set i b)
    rw [← this]
    have h6 : (grL z c.1 c.2.1 c.2.2.1 c.2.2.2).length = 6 := rfl
    rw [set_six0 h6, set_six h6, set_six h6, set_six h6, set_six h6, set_six h6]
  | [], _, _, _, _, _, _, hx, _ => by simp at hx
  | _ :: _, [], _, _, _, _, _, _, ha => by simp at ha
/-- six cells of an element are told -/
abbrev putG (W : World) (g i : Nat) (u0 u1 u2 u3 u4 u5 : Value) : World := (((((W.setCell ⟨g, i * 6, none⟩ u0).setCell ⟨g, i * 6 + 1, none⟩ u1).setCell ⟨g, i * 6 + 2, none⟩ u2).setCell ⟨g, i * 6 + 3, none⟩ u3).setCell ⟨g, i * 6 + 4, none⟩ u4).setCell ⟨g, i * 6 + 5, none⟩ u5
theorem putG_keep (W : World) (g i : Nat) (u0 u1 u2 u3 u4 u5 : Value) {q : Nat} (hq : q ≠ g) : (putG W g i u0 u1 u2 u3 u4 u5).heap[q]? = W.heap[q]? := by
  have st : ∀ (V : World) (j : Nat) (u : Value), (V.setCell ⟨g, j, none⟩ u).heap[q]? = V.heap[q]? := fun V j u => Below.heap_setCell V ⟨g, j, none⟩ u q (by show q ≠ g; exact hq)
  unfold putG
  rw [st, st, st, st, st, st]
theorem putG_size (W : World) (g i : Nat) (u0 u1 u2 u3 u4 u5 : Value) : (putG W g i u0 u1 u2 u3 u4 u5).heap.size = W.heap.size := by simp [World.setCell]
theorem QG.put {w w1 : World} {base g n c : Nat} {l : List Gr} {qs : List GV} {i : Nat} {y : Gr} {q : GV} (h : QG w base (.slice (some ⟨g, 0, none⟩) n c) l qs) (hn : n = l.length) (hi : i < l.length) (hb : Below w.heap.size w w1) (hq : ∀ W : World, (∀ k, w.heap.size ≤ k → k < w1.heap.size → W.heap[k]? = w1.heap[k]?) → GrAt W q.1 q.2.1 q.2.2.1 q.2.2.2 y) :
    QG (putG w1 g i (.string y.name) q.1 (bytV y.result) q.2.1 q.2.2.1 q.2.2.2) base (.slice (some ⟨g, 0, none⟩) n c) (l.set i y) (qs.set i q) := by
  have h1 := h.below hb
  have hgl : g < w.heap.size := (h.row.lt g rfl).2
  have hxs : l[i]? = some l[i] := List.getElem?_eq_getElem hi
  have hqs : qs[i]? = some (qs[i]'(by rw [h.ql]; exact hi)) := List.getElem?_eq_getElem _
  refine ⟨?_, by simp [h.ql], fun j G qq e1 e2 => ?_⟩
  · rw [List.length_set, ← grsCells_set hxs hqs]
    subst hn
    exact own_six h1.row _ _ _ _ _ _
  · by_cases hj : i = j
    · subst hj
      rw [List.getElem?_set] at e1 e2
      simp only [if_true] at e1 e2
      rw [if_pos hi] at e1
      rw [if_pos (by rw [h.ql]; exact hi)] at e2
      cases e1
      cases e2
      refine ⟨w.heap.size, w1.heap.size, by rw [putG_size]; exact Nat.le_refl _, fun g' hg' => ?_, fun W hW => hq W fun k k1 k2 => (hW k k1 k2).trans (putG_keep _ _ _ _ _ _ _ _ _ (by omega))⟩
      · cases hg'; exact .inl hgl
    · rw [List.getElem?_set_ne hj] at e1 e2
      exact (h1.kid j G qq e1 e2).same (by rw [putG_size]; exact Nat.le_refl _) (fun k _ hne => putG_keep _ _ _ _ _ _ _ _ _ (fun e => hne (by rw [e]; rfl))) fun g' hg' => .inl hg'
theorem QG.at' {w : World} {base : Nat} {v : Value} {l : List Gr} {qs : List GV} (h : QG w base v l qs) (hn : l.length ≤ 1000000) : GrsAt w v l := by
  refine ⟨qs, h.ql, row_own h.row hn, fun i x q hx hq => ?_⟩
  obtain ⟨lo, hi, _, _, h3⟩ := h.kid i x q hx hq
  exact h3 w fun _ _ _ => rfl
theorem CG.new {w w' : World} {G : Gr} {B : Nat} {pv vv av bv : Value} {ivs : List Value} {avss : List (List Value)} (h : CG w w' G B pv vv av bv ivs avss) (hpl : G.params.length ≤ 1000000) (hml : G.vars.length ≤ 1000000) (hal : G.arrs.length ≤ 1000000) (hl : G.blocks.length ≤ 1000000) (hli : ∀ b ∈ G.blocks, b.ins.length ≤ 1000000) (hla : ∀ b ∈ G.blocks, ∀ x ∈ b.ins, x.args.length ≤ 1000000) (hw : ∀ b ∈ G.blocks, ∀ x ∈ b.ins, 0 ≤ x.bits ∧ x.bits < 18446744073709551616) : GN w w' pv vv av bv G := fun _ hW =>
  ⟨row_own (owns_same h.ps fun g hg => hW g (h.ps.lt g hg).1 (h.ps.lt g hg).2) hpl, row_own (owns_same h.vs fun g hg => hW g (h.vs.lt g hg).1 (h.vs.lt g hg).2) hml, row_own (owns_same h.ars fun g hg => hW g (h.ars.lt g hg).1 (h.ars.lt g hg).2) hal,
    CB.at' ⟨owns_same h.bs.row fun g hg => hW g (Nat.le_trans h.lo (h.bs.row.lt g hg).1) (h.bs.row.lt g hg).2, h.bs.al, h.bs.vl, fun i b iv avs h1 h2 h3 => (h.bs.kid i b iv avs h1 h2 h3).same fun g hg => hW g (Nat.le_trans h.lo ((h.bs.kid i b iv avs h1 h2 h3).lt hg).1) ((h.bs.kid i b iv avs h1 h2 h3).lt hg).2, h.bs.ap, h.bs.pw⟩ hl hli hla hw⟩
end Go.Proofs.YtabpnjakfoofpaaGreatDoor
