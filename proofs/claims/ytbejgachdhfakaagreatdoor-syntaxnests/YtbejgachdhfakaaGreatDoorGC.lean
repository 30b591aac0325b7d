/- What is opened is gone through by a closure. -/
import Derived.Test.YtbejgachdhfakaaGreatDoorGB
import Derived.Deep.MidRow
namespace Go.Proofs.YtbejgachdhfakaaGreatDoor
open Go.RowKit

theorem Par.setOpn {E : Env} {w : World} {v : Value} {kvs : List Value} {st : St} (h : Par E w v kvs st) (n : Nat) (hn : n ≤ 32) : Par E (w.setCell ⟨E.p, 2, none⟩ (.int .i64 (n : Int))) v kvs { st with opn := n } := by
  have hk : Kept E.p w (w.setCell ⟨E.p, 2, none⟩ (.int .i64 (n : Int))) := (Kept.refl _ _).setP _
  have hne : ∀ j, j ≠ 2 → (w.setCell ⟨E.p, 2, none⟩ (.int .i64 (n : Int))).cell? ⟨E.p, j, none⟩ = w.cell? ⟨E.p, j, none⟩ := fun j hj => World.cell?_setCell_other _ _ _ _ (by intro hh; simp at hh <;> omega)
  have ht := h.tl1
  have ho := h.og1
  have hl := h.lt
  refine { lt := Nat.lt_of_lt_of_le h.lt hk.size, pb := h.pb, bs := Nat.le_trans h.bs hk.size, tl1 := ht, og1 := ho, ogv := h.ogv, ehi := h.ehi, dhi := h.dhi, c0 := (hne 0 (by omega)).trans h.c0, c1 := (hne 1 (by omega)).trans h.c1, c2 := World.cell?_setCell_same _ _ _ h.c2, c3 := (hne 3 (by omega)).trans h.c3, c4 := (hne 4 (by omega)).trans h.c4, fz := fun j => (World.frozen?_setCell _ _ _ _).trans (h.fz j), tk := h.tk.same fun o => hk.cell (a := ⟨E.tg, o, none⟩) (by show E.tg < _; omega) (by show E.tg ≠ _; omega), ops := ?_, good := h.good, nds := h.nds.kept hk h.pb, sum := h.sum, opb := hn, ssz := h.ssz, gl := ⟨h.gl.1, h.gl.2.same fun g hg => hk.cell (a := ⟨g, 0, none⟩) (by show g < _; have := h.gl.1; omega) (by show g ≠ _; have := h.gl.1; omega)⟩ }
  · intro i o hi
    have hx : ∀ j, (w.setCell ⟨E.p, 2, none⟩ (.int .i64 (n : Int))).cell? ⟨E.og, j, none⟩ = w.cell? ⟨E.og, j, none⟩ := fun j => hk.cell (a := ⟨E.og, j, none⟩) (by show E.og < _; omega) (by show E.og ≠ _; omega)
    rw [hx, hx, hx, hx]; exact h.ops i o hi
/-- How a step that is handed a closure ends. -/
def PostQ {α : Type} (val : α → Value) (E : Env) (Q : α → World → Value → List Value → Prop) (Z : World → Prop) (r : Res α) (e : Ending) (w' : World) : Prop :=
  match r with
  | .ok a st' => e = .returned (val a) ∧ ∃ v' k', Par E w' v' k' st' ∧ Q a w' v' k'
  | .err c p => e = gaveUp c p ∧ Z w'
  | .out => True
abbrev unitV {α : Type} (_ : α) : Value := .tuple #[]
set_option maxRecDepth 100000 in
theorem opened_any {α : Type} {E : Env} {w : World} {v : Value} {kvs : List Value} {st : St} (h : Par E w v kvs st) (x : ByteArray) (hx : x.toList ≠ []) (K : FuncId) (caps : Array Value) (hE : ∀ w, (callFunc K caps).run Tryz.prog w = .ok (.enter K caps) w) (thr : St → Res α) (Q : α → World → Value → List Value → Prop) (Z : World → Prop)
    (hQ : ∀ a w2 v2 k2 u, Q a w2 v2 k2 → Q a (w2.setCell ⟨E.p, 2, none⟩ u) v2 k2) (hZ : ∀ w1, Kept E.p w w1 → Z w1)
    (hW : ∀ s1 a s2, thr s1 = .ok a s2 → s2.opn = s1.opn)
    (hno : opened E.s x.toList thr st ≠ .out) (hT : has E.s x.toList st = true → st.opn < 32 → thr { tl st with opn := st.opn + 1 } ≠ .out → ∀ w1, Kept E.p w w1 → Par E w1 v kvs { tl st with opn := st.opn + 1 } → Calls Tryz.prog K caps w1 (PostQ unitV E Q Z (thr { tl st with opn := st.opn + 1 }))) :
    Calls Tryz.prog 97 #[ptr E.p, .string x, .func (.func K) #[] caps] w (PostQ (fun a : Nat × α => natV a.1) E (fun a => Q a.2) Z (opened E.s x.toList thr st)) := by
  have hH := has_par h x
  have hK := fun w1 (hw : Below w.heap.size w w1) => take_par (h.below hw) x hx
  have hopb := h.opb
  have hC2 := fun w1 (hw : Below w.heap.size w w1) => (h.below hw).c2
  unfold opened at hno ⊢
  cases hb : has E.s x.toList st
  · rw [hb] at hH
    simp only [Bool.false_and, Bool.false_eq_true, if_false]
    unfold take at hK ⊢
    rw [hb] at hK ⊢
    simp only [Bool.false_eq_true, if_false] at hK ⊢
    unfold PostK stop at hK
    unfold stop Res.bind PostQ
    dsimp only at hK ⊢
    generalize (hd st).2.1 = y at hK ⊢
    clear hT hQ hW
    go_enter Tryz.func97, Tryz.ntmps97
    go_wp2_with (first | (go_at_call 91; refine hH.mono ?_; rintro e w1 ⟨rfl, hb1⟩) | (go_at_call 43; refine (hK _ hb1).mono ?_; rintro e w2 ⟨rfl, hb2⟩; unfold gaveUp))
    exact ⟨rfl, rfl, hZ _ ((Kept.of_below hb1).trans hb2)⟩
  · rw [hb] at hH
    by_cases ho : st.opn = 32
    · have hS := fun w1 (hw : Below w.heap.size w w1) => stop_par (h.below hw) 132
      rw [show (true && decide (st.opn = 32)) = true by simp [ho], if_pos rfl]
      rw [ho] at hC2
      unfold stop PostQ
      dsimp only
      generalize (hd st).2.1 = y at hS ⊢
      clear hT hQ hW hK hopb ho
      go_enter Tryz.func97, Tryz.ntmps97
      go_wp2_with (first | (go_at_call 91; refine hH.mono ?_; rintro e w1 ⟨rfl, hb1⟩; have q2 := hC2 _ hb1) | (go_at_call 92; refine (hS _ hb1).mono ?_; rintro e w2 ⟨rfl, hb2⟩; unfold gaveUp))
      exact ⟨rfl, rfl, hZ _ (Kept.of_below (hb1.trans (hb2.mono hb1.size)))⟩
    · have hlt : st.opn < 32 := by omega
      have hT := hT hb hlt
      rw [show (has E.s x.toList st && decide (st.opn = 32)) = false by simp [ho], if_neg (by simp)] at hno
      rw [show (true && decide (st.opn = 32)) = false by simp [ho], if_neg (by simp)]
      unfold take at hK hno ⊢
      rw [hb] at hK hno ⊢
      simp only [if_true] at hK hno ⊢
      have hne : (((st.opn : Nat) : Int) == 32) = false := by simp; omega
      unfold PostK at hK
      dsimp only at hK
      simp only [Res.bind] at hno ⊢
      have hC3 : ∀ w2, Par E w2 v kvs (tl st) → w2.cell? ⟨E.p, 2, none⟩ = some (.int .i64 ((st.opn : Nat) : Int)) ∧ w2.frozen? ⟨E.p, 2, none⟩ = false := fun w2 hp => ⟨hp.c2, hp.fz 2⟩
      have hO := fun w2 (hp : Par E w2 v kvs (tl st)) => hp.setOpn (st.opn + 1) (by omega)
      have e1 : ({ tl st with opn := (tl st).opn + 1 } : St) = { tl st with opn := st.opn + 1 } := rfl
      rw [e1] at hno ⊢
      generalize (hd st).2.1 = y at hK ⊢
      have hOp : ({ tl st with opn := st.opn + 1 } : St).opn = st.opn + 1 := rfl
      generalize ({ tl st with opn := st.opn + 1 } : St) = st1 at hT hO hno hOp ⊢
      have hW := hW st1
      generalize hr : thr st1 = r at hT hno hW ⊢
      have hT := hT (by intro h0; rw [h0] at hno; exact hno rfl)
      have HO : Hid _ := hO
      have HC : Hid _ := hC3
      have HT : Hid _ := hT
      have HW : Hid _ := hW
      have HOP1 : Hid _ := hOp
      generalize st.opn = m at hC2 hne hlt HO HC HOP1
      have hOp : Hid (st1.opn = m + 1) := HOP1
      have hm32 : (m : Int) < 32 := by omega
      have hlt : Hid (m < 32) := hlt
      clear hO hC3 hr ‹∀ (s1 : St) (a : α) (s2 : St), thr s1 = Res.ok a s2 → s2.opn = s1.opn›
      clear hT hW ho hopb HOP1 e1
      go_enter Tryz.func97, Tryz.ntmps97
      go_wp2_with (first | (go_at_call 91; refine hH.mono ?_; rintro e w1 ⟨rfl, hb1⟩; have q2 := hC2 _ hb1) | (go_at_call 43; refine (hK _ hb1).mono ?_; rintro e w2 ⟨rfl, hb2, hp2⟩; obtain ⟨q3, q4⟩ := HC.out _ hp2))
      refine (HT.out _ ?_ ?_).mono ?_
      · exact ((Kept.of_below hb1).trans hb2).setP _
      · exact HO.out _ hp2
      rintro e w3 h3
      unfold PostQ at h3
      cases r with
      | out => exact absurd rfl hno
      | err c q =>
        obtain ⟨rfl, hz⟩ := h3
        exact ⟨rfl, rfl, hz⟩
      | ok a st2 =>
        obtain ⟨rfl, v3, k3, hp3, hq3⟩ := h3
        have hop := (HW.out a st2 rfl).trans hOp.out
        have r1 := hp3.c2
        have r2 := hp3.fz 2
        rw [hop] at r1
        have HP : Hid _ := hp3.setOpn m (by have := hlt.out; omega)
        have HQ3 : Hid _ := hQ a w3 v3 k3 (.int .i64 ((m : Nat) : Int)) hq3
        have HOP : Hid _ := hop
        clear hop hp3 hq3
        go_wp2
        go_ret
        refine ⟨rfl, v3, k3, ?_, HQ3.out⟩
        rw [show st2.opn - 1 = m by rw [HOP.out]; omega]
        exact HP.out
end Go.Proofs.YtbejgachdhfakaaGreatDoor
/- Variables that closures share; a node that is put. -/
namespace Go.Proofs.YtbejgachdhfakaaGreatDoor
open Go.RowKit

/-- A variable at block b, cell by cell. -/
structure Box (w : World) (b : Nat) (cs : List Value) : Prop where
  lt : b < w.heap.size
  cell : ∀ (j : Nat) (u : Value), cs[j]? = some u → w.cell? ⟨b, j, none⟩ = some u
  fz : ∀ j, w.frozen? ⟨b, j, none⟩ = false
theorem Box.same {w w' : World} {b : Nat} {cs : List Value} (h : Box w b cs) (he : w'.heap[b]? = w.heap[b]?) : Box w' b cs := by
  refine ⟨?_, fun j u hj => (World.cell?_of_block (w := w) (a := ⟨b, j, none⟩) he).trans (h.cell j u hj), fun j => (World.frozen?_of_block (w := w) (a := ⟨b, j, none⟩) he).trans (h.fz j)⟩
  rcases Nat.lt_or_ge b w'.heap.size with h1 | h1
  · exact h1
  · rw [Array.getElem?_eq_none h1, Array.getElem?_eq_getElem h.lt] at he
    cases he
theorem Box.kept {p : Nat} {w w' : World} {b : Nat} {cs : List Value} (h : Box w b cs) (hk : Kept p w w') (hp : b ≠ p) : Box w' b cs := h.same (hk.block b h.lt hp)
theorem Box.below {w w' : World} {b : Nat} {cs : List Value} (h : Box w b cs) (hk : Below w.heap.size w w') : Box w' b cs := h.same (hk.block b h.lt)
theorem Box.moved {p : Nat} {w w' : World} {v v' : Value} {k k' : List Value} {b : Nat} {cs : List Value} (h : Box w b cs) (hm : Moved p w v k w' v' k') (hp : b ≠ p) (hv : v.ownBlock ≠ some b) : Box w' b cs := h.same (hm.block b h.lt hp hv)
theorem Box.other {w : World} {b : Nat} {cs : List Value} (h : Box w b cs) {a : Addr} (ha : b ≠ a.block) (u : Value) : Box (w.setCell a u) b cs := h.same (Below.heap_setCell _ _ _ _ ha)
theorem Box.set {w : World} {b : Nat} {cs : List Value} (h : Box w b cs) {j : Nat} (hj : j < cs.length) (u : Value) : Box (w.setCell ⟨b, j, none⟩ u) b (cs.set j u) := by
  refine ⟨by simpa [World.setCell] using h.lt, fun i x hi => ?_, fun i => by rw [World.frozen?_setCell]; exact h.fz i⟩
  rw [List.getElem?_set] at hi
  by_cases hij : j = i
  · subst hij
    rw [if_pos rfl, if_pos hj] at hi
    cases hi
    exact World.cell?_setCell_same _ _ _ (h.cell j _ (List.getElem?_eq_getElem hj))
  · rw [if_neg hij] at hi
    rw [World.cell?_setCell_other _ _ _ _ (by intro hh; simp at hh <;> omega)]
    exact h.cell i x hi
theorem Box.new (w : World) (cs : List Value) (t : TypeId) : Box (w.alloc (.cells cs.toArray t)) w.heap.size cs := by
  have hh := heap_alloc_new w (.cells cs.toArray t)
  refine ⟨by simp, fun j u hj => ?_, fun j => ?_⟩
  · simp only [World.cell?, hh]; simpa using hj
  · simp only [World.frozen?, hh]; rfl
/-- Block b is none of the nodes' row and none of their kids'. -/
def Off (b : Nat) (v : Value) (k : List Value) : Prop := v.ownBlock ≠ some b ∧ ∀ x ∈ k, x.ownBlock ≠ some b
theorem Off.moved {p b : Nat} {w w' : World} {v v' : Value} {k k' : List Value} (h : Off b v k) (hb : b < w.heap.size) (hm : Moved p w v k w' v' k') : Off b v' k' := by
  refine ⟨?_, ?_⟩
  · rcases hm.same with e | ⟨g, e, hg⟩
    · rw [e]; exact h.1
    · rw [e]; intro hc; cases hc; omega
  · obtain ⟨more, rfl, hmore⟩ := hm.kids
    intro x hx hc
    rcases List.mem_append.1 hx with hx | hx
    · exact h.2 x hx hc
    · have := hmore x hx b hc; omega
theorem NodesIn.blocks {w : World} {base : Nat} {v : Value} {kvs : List Value} {ns : List Nd} (h : NodesIn w base v kvs ns) : ∀ x ∈ kvs, ∀ g, x.ownBlock = some g → base ≤ g ∧ g < w.heap.size := by
  intro x hx g hg
  obtain ⟨i, hi, he⟩ := List.mem_iff_getElem.1 hx
  have hin : i < ns.length := by rw [← h.len]; exact hi
  exact (h.kid i ns[i] x (List.getElem?_eq_getElem hin) (by rw [List.getElem?_eq_getElem hi, he])).lt g hg
theorem Par.off {E : Env} {w : World} {v : Value} {kvs : List Value} {st : St} (h : Par E w v kvs st) {b : Nat} (hb : w.heap.size ≤ b) : Off b v kvs := by
  refine ⟨fun hc => ?_, fun x hx hc => ?_⟩
  · have := (h.nds.own.lt b hc).2; omega
  · have := (h.nds.blocks x hx b hc).2; omega
theorem owns_other {w : World} {base : Nat} {e : TypeId} {sz : Nat} {v : Value} {n : Nat} {xs : List Value} (h : w.ownsRow base e sz v n xs) {a : Addr} (ha : v.ownBlock ≠ some a.block) (u : Value) : (w.setCell a u).ownsRow base e sz v n xs := ownsRow_setCell_other h ha u
/-- A store into a variable of somebody else's. -/
theorem Par.setBox {E : Env} {w : World} {v : Value} {kvs : List Value} {st : St} (h : Par E w v kvs st) {b : Nat} (hb : E.p < b) (ho : Off b v kvs) (j : Nat) (u : Value) : Par E (w.setCell ⟨b, j, none⟩ u) v kvs st := by
  have hx : ∀ g j', g ≠ b → (w.setCell ⟨b, j, none⟩ u).cell? ⟨g, j', none⟩ = w.cell? ⟨g, j', none⟩ := fun g j' hg => World.cell?_of_block (w := w) (a := ⟨g, j', none⟩) (Below.heap_setCell _ _ _ _ hg)
  have hp := h.tl1
  have hg := h.og1
  exact { h with
    lt := by have := h.lt; simpa [World.setCell] using this
    bs := by have := h.bs; simpa [World.setCell] using this
    c0 := (hx _ _ (by omega)).trans h.c0, c1 := (hx _ _ (by omega)).trans h.c1, c2 := (hx _ _ (by omega)).trans h.c2, c3 := (hx _ _ (by omega)).trans h.c3, c4 := (hx _ _ (by omega)).trans h.c4
    fz := fun i => (World.frozen?_setCell _ _ _ _).trans (h.fz i)
    tk := h.tk.same fun o => hx _ _ (by omega)
    gl := ⟨h.gl.1, h.gl.2.same fun g hg => hx g 0 (by have := h.gl.1; omega)⟩
    ops := fun i o hi => by rw [hx _ _ (by omega), hx _ _ (by omega), hx _ _ (by omega), hx _ _ (by omega)]; exact h.ops i o hi
    nds := ⟨h.nds.len, owns_other h.nds.own ho.1 _, fun i n kv h1 h2 => owns_other (h.nds.kid i n kv h1 h2) (ho.2 kv (List.mem_of_getElem? h2)) _, h.nds.apart⟩ }
theorem Moved.setBox {p b : Nat} {w0 w : World} {v0 v : Value} {k0 k : List Value} (h : Moved p w0 v0 k0 w v k) (hb : w0.heap.size ≤ b) (j : Nat) (u : Value) : Moved p w0 v0 k0 (w.setCell ⟨b, j, none⟩ u) v k :=
  { h with
    size := by have := h.size; simpa [World.setCell] using this
    block := fun i hi hp hv => (Below.heap_setCell _ _ _ _ (by simp; omega)).trans (h.block i hi hp hv) }
theorem Moved.setP {p : Nat} {w0 w : World} {v0 v : Value} {k0 k : List Value} (h : Moved p w0 v0 k0 w v k) (j : Nat) (u : Value) : Moved p w0 v0 k0 (w.setCell ⟨p, j, none⟩ u) v k :=
  h.trans (((Kept.refl p w).setP u).moved v k)
theorem Moved.kept {p : Nat} {w0 w w' : World} {v0 v : Value} {k0 k : List Value} (h : Moved p w0 v0 k0 w v k) (hk : Kept p w w') : Moved p w0 v0 k0 w' v k := h.trans (hk.moved v k)
theorem Moved.below {p : Nat} {w0 w w' : World} {v0 v : Value} {k0 k : List Value} (h : Moved p w0 v0 k0 w v k) (hk : Below w.heap.size w w') : Moved p w0 v0 k0 w' v k := h.kept (.of_below hk)
/-- A row of kids stays while the parser goes on. -/
theorem kids_frame {p base : Nat} {w w' : World} {v : Value} (hb : ∀ k, k < w.heap.size → k ≠ p → v.ownBlock ≠ some k → w'.heap[k]? = w.heap[k]?) (hp : p < base) {m : Nat} {ys : List Value} (hv : w.ownsRow base 46 8 v m ys) {kv : Value} {n : Nat} {xs : List Value} (h : w.ownsRow base 3 1 kv n xs) : w'.ownsRow base 3 1 kv n xs := by
  refine ⟨h.1, ?_⟩
  rcases h.2 with h0 | ⟨g, cap, cur, hv1, h1, hh, h2⟩
  · exact .inl h0
  · refine .inr ⟨g, cap, cur, hv1, h1, ?_, h2⟩
    rw [hb g (Array.getElem?_eq_some_iff.1 hh).1 (by omega) ?_]
    · exact hh
    · intro hc
      rcases hv.2 with ⟨rfl, _⟩ | ⟨g', cap', cur', rfl, _, hh', _⟩
      · cases hc
      · simp [Value.ownBlock] at hc
        subst hc
        rw [hh] at hh'
        simp at hh'
abbrev ndV (n : Nd) (kv : Value) : Value := .agg #[.int .u8 (n.kind : Int), .int .i64 (n.pl : Int), .string n.name, .int .u8 (n.typ : Int), .int .u8 (n.op : Int), .int .u64 (n.bits : Int), .int .i64 (n.size : Int), kv]
theorem put_par {E : Env} {w : World} {v : Value} {kvs : List Value} {st : St} (h : Par E w v kvs st) (n : Nd) (ka : Option Addr) (kn kc : Nat) (hkv : w.ownsRow E.base 3 1 (.slice ka kn kc) n.kids.length (ints n.kids))
    (hap : ∀ x ∈ kvs, ∀ g, (Value.slice ka kn kc).ownBlock = some g → x.ownBlock ≠ some g) (hs : st.nodes.length + 1 + st.toks.length ≤ 140000) :
    Calls Tryz.prog 100 #[ptr E.p, ndV n (.slice ka kn kc)] w fun e w' => e = .returned (natV st.nodes.length) ∧
      ∃ v', Par E w' v' (kvs ++ [.slice ka kn kc]) { st with nodes := st.nodes ++ [n] } ∧ Frame E.p w v w' v' := by
  refine (put_at E.p E.base st.nodes.length v (ndsCells st.nodes kvs) n.kind n.pl n.typ n.op n.bits n.size n.name ka kn kc w h.lt h.c3 (h.fz 3) h.nds.own h.bs h.pb (by omega)).mono ?_
  rintro e w' ⟨rfl, v', ho, hc3, hcs, hfs, hf⟩
  refine ⟨rfl, v', ?_, hf⟩
  have hp := h.tl1
  have hg := h.og1
  have hl := h.lt
  have hpb := h.pb
  have hx : ∀ g j', g < E.p → w'.cell? ⟨g, j', none⟩ = w.cell? ⟨g, j', none⟩ := fun g j' hg => World.cell?_of_block (w := w) (a := ⟨g, j', none⟩) (hf.block g (by omega) (by omega) (fun hc => by have := (h.nds.own.lt g hc).1; omega))
  exact { h with
    lt := Nat.lt_of_lt_of_le h.lt hf.size
    bs := Nat.le_trans h.bs hf.size
    c0 := (hcs 0 (by omega)).trans h.c0, c1 := (hcs 1 (by omega)).trans h.c1, c2 := (hcs 2 (by omega)).trans h.c2, c3 := hc3, c4 := (hcs 4 (by omega)).trans h.c4
    fz := fun i => (hfs i).trans (h.fz i)
    tk := h.tk.same fun o => hx _ _ h.tl1
    gl := ⟨h.gl.1, h.gl.2.same fun g hg => hx g 0 (by have := h.gl.1; omega)⟩
    ops := fun i o hi => by rw [hx _ _ h.og1, hx _ _ h.og1, hx _ _ h.og1, hx _ _ h.og1]; exact h.ops i o hi
    sum := by simp; omega
    nds := by
      refine ⟨by simp [h.nds.len], ?_, ?_, ?_⟩
      · rw [ndsCells_snoc _ _ _ _ h.nds.len]; simpa [ndCells] using ho
      · intro i m kv h1 h2
        rw [List.getElem?_append] at h1 h2
        rw [h.nds.len] at h2
        by_cases hi : i < st.nodes.length
        · rw [if_pos hi] at h1 h2
          exact kids_frame hf.block h.pb h.nds.own (h.nds.kid i m kv h1 h2)
        · rw [if_neg hi] at h1 h2
          have h0 : i - st.nodes.length = 0 := by
            rcases Nat.eq_zero_or_pos (i - st.nodes.length) with h0 | h0
            · exact h0
            · rw [List.getElem?_eq_none (by simp; omega)] at h1; cases h1
          rw [h0] at h1 h2
          simp at h1 h2
          subst h1
          subst h2
          exact kids_frame hf.block h.pb h.nds.own hkv
      · intro i j a b g hij ha hb hag
        have hj : j < kvs.length + 1 := by
          have := (List.getElem?_eq_some_iff.1 hb).1
          simpa using this
        rw [List.getElem?_append] at ha hb
        rw [if_pos (by omega)] at ha
        by_cases hjl : j < kvs.length
        · rw [if_pos hjl] at hb
          exact h.nds.apart i j a b g hij ha hb hag
        · rw [if_neg hjl] at hb
          rw [show j - kvs.length = 0 by omega] at hb
          simp at hb
          subst hb
          intro hc
          exact hap a (List.mem_of_getElem? ha) g hc hag }
/-- How a step of the parser that hands back a node ends. -/
def PostN (E : Env) (w : World) (v : Value) (kvs : List Value) (r : Res Nat) (e : Ending) (w' : World) : Prop :=
  match r with
  | .ok a st' => e = .returned (natV a) ∧ ∃ v' k', Par E w' v' k' st' ∧ Moved E.p w v kvs w' v' k'
  | .err c p => e = gaveUp c p ∧ ∃ v' k', Moved E.p w v kvs w' v' k'
  | .out => True
/-- What a closure leaves of a variable of its caller's that ends in a row of kids. -/
def QNode {α : Type} (E : Env) (w0 : World) (v0 : Value) (k0 : List Value) (b1 b2 : Nat) (cs : List Value) (kids : α → List Nat) (a : α) (w' : World) (v' : Value) (k' : List Value) : Prop :=
  Moved E.p w0 v0 k0 w' v' k' ∧ Box w' b1 [ptr E.p] ∧ Off b1 v' k' ∧ Off b2 v' k' ∧ ∃ ka kn kc, Box w' b2 (cs ++ [.slice ka kn kc]) ∧ w'.ownsRow E.base 3 1 (.slice ka kn kc) (kids a).length (ints (kids a)) ∧
    ∀ g, (Value.slice ka kn kc).ownBlock = some g → w0.heap.size ≤ g ∧ g ≠ b1 ∧ g ≠ b2 ∧ ∀ x ∈ k', x.ownBlock ≠ some g
theorem QNode.setP {α : Type} {E : Env} {w0 : World} {v0 : Value} {k0 : List Value} {b1 b2 : Nat} {cs : List Value} {kids : α → List Nat} (hb : E.p < E.base) (h1 : E.p ≠ b1) (h2 : E.p ≠ b2) : ∀ a w2 v2 k2 u, QNode E w0 v0 k0 b1 b2 cs kids a w2 v2 k2 → QNode E w0 v0 k0 b1 b2 cs kids a (w2.setCell ⟨E.p, 2, none⟩ u) v2 k2 := by
  rintro a w2 v2 k2 u ⟨hm, hb1, ho1, ho2, ka, kn, kc, hb2, hr, hg⟩
  exact ⟨hm.setP _ _, hb1.other (fun h => h1 h.symm) _, ho1, ho2, ka, kn, kc, hb2.other (fun h => h2 h.symm) _, ownsRow_setCell_below hr hb _, hg⟩
def ZMov (E : Env) (w0 : World) (v0 : Value) (k0 : List Value) (w' : World) : Prop := ∃ v' k', Moved E.p w0 v0 k0 w' v' k'
end Go.Proofs.YtbejgachdhfakaaGreatDoor
/- Unary operators. -/
namespace Go.Proofs.YtbejgachdhfakaaGreatDoor
open Go.RowKit

def DoesUnary (F : FW) (n : Nat) : Prop := ∀ (E : Env) (w : World) (v : Value) (kvs : List Value) (st : St), Par E w v kvs st → unary F E.s n st ≠ .out → Calls Tryz.prog 171 #[ptr E.p] w (PostN E w v kvs (unary F E.s n st))
def DoesPrimary (F : FW) (n : Nat) : Prop := ∀ (E : Env) (w : World) (v : Value) (kvs : List Value) (st : St), Par E w v kvs st → primary F E.s n st ≠ .out → Calls Tryz.prog 174 #[ptr E.p] w (PostN E w v kvs (primary F E.s n st))
/-- A new row of one kid. -/
theorem kid_new {w : World} {base : Nat} (hb : base ≤ w.heap.size) (ks : List Nat) (hk : ks.length ≤ maxLen) : (w.alloc (.cells (ints ks).toArray 3)).ownsRow base 3 1 (.slice (some ⟨w.heap.size, 0, none⟩) ks.length ks.length) ks.length (ints ks) :=
  ⟨by simp, .inr ⟨w.heap.size, ks.length, (ints ks).toArray, rfl, hb, heap_alloc_new w _, Nat.le_refl _, hk, by simp, List.take_of_length_le (by simp)⟩⟩
/-- A closure's last step: a new row of kids is laid into its caller's variable. -/
theorem kids_laid {α : Type} {E : Env} {w0 w1 : World} {v0 v1 : Value} {k0 k1 : List Value} {st : St} {b1 b2 : Nat} {cs : List Value} {kv : Value} (kids : α → List Nat) (a : α) (hp : Par E w1 v1 k1 st) (hM : Moved E.p w0 v0 k0 w1 v1 k1) (hb1 : Box w1 b1 [ptr E.p]) (hb2 : Box w1 b2 (cs ++ [kv]))
    (o1 : Off b1 v1 k1) (o2 : Off b2 v1 k1) (p2 : E.p < b2) (h12 : b1 ≠ b2) (g2 : w0.heap.size ≤ b2) (hk : (kids a).length ≤ maxLen) {n : Nat} (hn : n = cs.length) :
    Par E ((w1.setCell ⟨b2, n, none⟩ (.slice (some ⟨w1.heap.size, 0, none⟩) (kids a).length (kids a).length)).alloc (.cells (ints (kids a)).toArray 3)) v1 k1 st ∧
      QNode E w0 v0 k0 b1 b2 cs kids a ((w1.setCell ⟨b2, n, none⟩ (.slice (some ⟨w1.heap.size, 0, none⟩) (kids a).length (kids a).length)).alloc (.cells (ints (kids a)).toArray 3)) v1 k1 := by
  subst hn
  have hz : (w1.setCell ⟨b2, cs.length, none⟩ (.slice (some ⟨w1.heap.size, 0, none⟩) (kids a).length (kids a).length)).heap.size = w1.heap.size := by simp [World.setCell]
  have hB : Below (w1.setCell ⟨b2, cs.length, none⟩ (.slice (some ⟨w1.heap.size, 0, none⟩) (kids a).length (kids a).length)).heap.size (w1.setCell ⟨b2, cs.length, none⟩ (.slice (some ⟨w1.heap.size, 0, none⟩) (kids a).length (kids a).length)) ((w1.setCell ⟨b2, cs.length, none⟩ (.slice (some ⟨w1.heap.size, 0, none⟩) (kids a).length (kids a).length)).alloc (.cells (ints (kids a)).toArray 3)) := (Below.refl _ _).alloc (Nat.le_refl _) _
  have hP := hp.setBox p2 o2 cs.length (.slice (some ⟨w1.heap.size, 0, none⟩) (kids a).length (kids a).length)
  refine ⟨hP.below hB, (hM.setBox g2 _ _).below hB, (hb1.other h12 _).below hB, o1, o2, some ⟨w1.heap.size, 0, none⟩, (kids a).length, (kids a).length, ?_, ?_, ?_⟩
  · have := (hb2.set (j := cs.length) (by simp) (.slice (some ⟨w1.heap.size, 0, none⟩) (kids a).length (kids a).length)).below hB
    rwa [List.set_append_right _ _ (Nat.le_refl _), Nat.sub_self, List.set_cons_zero] at this
  · have := kid_new (w := w1.setCell ⟨b2, cs.length, none⟩ (.slice (some ⟨w1.heap.size, 0, none⟩) (kids a).length (kids a).length)) (base := E.base) (by rw [hz]; exact hp.bs) (kids a) hk
    rwa [hz] at this
  · intro g hg
    simp [Value.ownBlock] at hg
    subst hg
    have l1 := hb1.lt
    have l2 := hb2.lt
    refine ⟨hM.size, by omega, by omega, fun x hx hc => ?_⟩
    have := (hp.nds.blocks x hx _ hc).2
    omega
set_option maxRecDepth 100000 in
theorem unary1_any {F : FW} {n : Nat} (hU : DoesUnary F n) {E : Env} {w w0 : World} {v v0 : Value} {kvs k0 : List Value} {st : St} (h : Par E w v kvs st) (hM : Moved E.p w0 v0 k0 w v kvs) {b1 b2 : Nat} {c0 c1 c2 c3 c4 c5 c6 kv : Value} (hb1 : Box w b1 [ptr E.p]) (hb2 : Box w b2 [c0, c1, c2, c3, c4, c5, c6, kv])
    (o1 : Off b1 v kvs) (o2 : Off b2 v kvs) (p1 : E.p < b1) (p2 : E.p < b2) (h12 : b1 ≠ b2) (g2 : w0.heap.size ≤ b2) (hne : unary F E.s n st ≠ .out) :
    Calls Tryz.prog 175 #[ptr b1, ptr b2] w (PostQ unitV E (QNode E w0 v0 k0 b1 b2 [c0, c1, c2, c3, c4, c5, c6] (fun k => [k])) (ZMov E w0 v0 k0) (unary F E.s n st)) := by
  have hc := hU E w v kvs st h hne
  have d0 := hb1.cell 0 _ rfl
  generalize unary F E.s n st = r at hc hne ⊢
  unfold PostN at hc
  unfold PostQ
  cases r with
  | out => exact absurd rfl hne
  | err c q =>
    dsimp only at hc ⊢
    go_enter Tryz.func175, Tryz.ntmps175
    go_wp2_with (go_at_call 171; refine hc.mono ?_; rintro e w1 ⟨rfl, v1, k1, hm1⟩; unfold gaveUp)
    exact ⟨rfl, rfl, v1, k1, hM.trans hm1⟩
  | ok k st' =>
    dsimp only at hc ⊢
    have H : Hid (Par E w v kvs st ∧ Moved E.p w0 v0 k0 w v kvs ∧ Box w b1 [ptr E.p] ∧ Box w b2 [c0, c1, c2, c3, c4, c5, c6, kv] ∧ Off b1 v kvs ∧ Off b2 v kvs) := ⟨h, hM, hb1, hb2, o1, o2⟩
    clear h hM hb1 hb2 o1 o2 hne hU
    go_enter Tryz.func175, Tryz.ntmps175
    go_wp2_with (go_at_call 171; refine hc.mono ?_; rintro e w1 ⟨rfl, v1, k1, hp1, hm1⟩; have B2 := H.out.2.2.2.1.moved hm1 (by omega) H.out.2.2.2.2.2.1; have d7 := B2.cell 7 _ rfl; have f7 := B2.fz 7; have l7 := B2.lt)
    go_end0
    have hm := H.out.2.1.trans hm1
    have := kids_laid (fun k : Nat => [k]) k hp1 hm (H.out.2.2.1.moved hm1 (by omega) H.out.2.2.2.2.1.1) (cs := [c0, c1, c2, c3, c4, c5, c6]) B2 (H.out.2.2.2.2.1.moved H.out.2.2.1.lt hm1) (H.out.2.2.2.2.2.moved H.out.2.2.2.1.lt hm1) p2 h12 g2 (by simp [maxLen]) (n := 7) rfl
    exact ⟨rfl, v1, k1, this⟩
/-- A node put behind what has been gone through. -/
theorem put_node {E : Env} {w0 w : World} {v0 v : Value} {k0 k : List Value} {st : St} (hp : Par E w v k st) (hM : Moved E.p w0 v0 k0 w v k) (n : Nd) (ka : Option Addr) (kn kc : Nat) (hr : w.ownsRow E.base 3 1 (.slice ka kn kc) n.kids.length (ints n.kids))
    (hg : ∀ g, (Value.slice ka kn kc).ownBlock = some g → w0.heap.size ≤ g ∧ ∀ x ∈ k, x.ownBlock ≠ some g) (hs : st.nodes.length + 1 + st.toks.length ≤ 140000) :
    Calls Tryz.prog 100 #[ptr E.p, ndV n (.slice ka kn kc)] w (PostN E w0 v0 k0 (putP n st)) := by
  refine (put_par hp n ka kn kc hr (fun x hx g hg' => (hg g hg').2 x hx) hs).mono ?_
  rintro e w' ⟨rfl, v', hp', hf⟩
  exact ⟨rfl, v', _, hp', hM.put hf (fun g hg' => (hg g hg').1)⟩
end Go.Proofs.YtbejgachdhfakaaGreatDoor
/- Unary operators: the step itself. -/
namespace Go.Proofs.YtbejgachdhfakaaGreatDoor
open Go.RowKit

theorem mf (fn : Fn) (first cap : Array Value) (w : World) : (Instr.makeFunc fn first cap).run Tryz.prog w = .ok (.func fn first cap) w := rfl
theorem bind_ne {α β : Type} {r : Res α} {f : α → St → Res β} (h : r.bind f ≠ .out) : r ≠ .out := by
  rintro rfl
  exact h rfl
/-- Two new variables: the parser's and another one. -/
def WB (w : World) (p : Nat) (cs : List Value) (t : TypeId) : World := (w.alloc (.cells #[ptr p] 121)).alloc (.cells cs.toArray t)
theorem wb_below (w : World) (p : Nat) (cs : List Value) (t : TypeId) : Below w.heap.size w (WB w p cs t) := ((Below.refl _ _).alloc (Nat.le_refl _) _).alloc (by simp) _
theorem wb_size (w : World) (p : Nat) (cs : List Value) (t : TypeId) : (WB w p cs t).heap.size = w.heap.size + 2 := by simp [WB]
theorem wb_box1 (w : World) (p : Nat) (cs : List Value) (t : TypeId) : Box (WB w p cs t) w.heap.size [ptr p] := (Box.new w [ptr p] 121).below ((Below.refl _ _).alloc (Nat.le_refl _) _)
theorem wb_box2 (w : World) (p : Nat) (cs : List Value) (t : TypeId) : Box (WB w p cs t) (w.heap.size + 1) cs := by
  have := Box.new (w.alloc (.cells #[ptr p] 121)) cs t
  rwa [show (w.alloc (.cells #[ptr p] 121)).heap.size = w.heap.size + 1 by simp] at this
theorem wb_all {w w1 : World} {p : Nat} {cs : List Value} {t : TypeId} (hb : Below (WB w p cs t).heap.size (WB w p cs t) w1) : Below w.heap.size w w1 ∧ Box w1 w.heap.size [ptr p] ∧ Box w1 (w.heap.size + 1) cs :=
  ⟨(wb_below w p cs t).trans (hb.mono (by rw [wb_size]; omega)), (wb_box1 w p cs t).below hb, (wb_box2 w p cs t).below hb⟩
set_option maxRecDepth 100000 in
set_option maxHeartbeats 1000000 in
/-- What is gone through behind a unary sign, and the node. -/
theorem unary_sign {F : FW} {n : Nat} (hU : DoesUnary F n) {E : Env} {w : World} {v : Value} {kvs : List Value} {st : St} (h : Par E w v kvs st) (y : ByteArray) (o : Nat) (hy : y.toList = [45] ∧ o = 17 ∨ y.toList = [33] ∧ o = 18)
    (hT : ∀ w1, Below w.heap.size w w1 → Calls Tryz.prog 95 #[ptr E.p] w1 fun e w' => e = .returned (.string y) ∧ Below w1.heap.size w1 w')
    (hne : ((opened E.s y.toList (unary F E.s n) st).bind fun a st1 => putP ⟨6, a.1, ⟨#[]⟩, 0, o, 0, 0, [a.2]⟩ st1) ≠ .out) :
    Calls Tryz.prog 171 #[ptr E.p] w (PostN E w v kvs ((opened E.s y.toList (unary F E.s n) st).bind fun a st1 => putP ⟨6, a.1, ⟨#[]⟩, 0, o, 0, 0, [a.2]⟩ st1)) := by
  have hl := h.lt
  have hxn : y.toList ≠ [] := by rcases hy with ⟨h, _⟩ | ⟨h, _⟩ <;> rw [h] <;> simp
  have hOp : ∀ w2 : World, Par E w2 v kvs st → Moved E.p w v kvs w2 v kvs → Box w2 w.heap.size [ptr E.p] → Box w2 (w.heap.size + 1) [.int .u8 6, .int .i64 0, .string ⟨#[]⟩, .int .u8 0, .int .u8 (o : Int), .int .u64 0, .int .i64 0, .slice none 0 0] →
      Calls Tryz.prog 97 #[ptr E.p, .string y, .func (.func 175) #[] #[ptr w.heap.size, ptr (w.heap.size + 1)]] w2 (PostQ (fun a : Nat × Nat => natV a.1) E (fun a => QNode E w v kvs w.heap.size (w.heap.size + 1) [.int .u8 6, .int .i64 0, .string ⟨#[]⟩, .int .u8 0, .int .u8 (o : Int), .int .u64 0, .int .i64 0] (fun k => [k]) a.2) (ZMov E w v kvs) (opened E.s y.toList (unary F E.s n) st)) := by
    intro w2 hp hm hB1 hB2
    refine opened_any hp y hxn 175 _ (fun w => by kernel_rfl) (unary F E.s n) (QNode E w v kvs w.heap.size (w.heap.size + 1) [.int .u8 6, .int .i64 0, .string ⟨#[]⟩, .int .u8 0, .int .u8 (o : Int), .int .u64 0, .int .i64 0] (fun k => [k])) (ZMov E w v kvs) (QNode.setP h.pb (by omega) (by omega)) (fun w1 hk => ⟨v, kvs, hm.kept hk⟩) (fun s1 a s2 hs => ((went_expr F E.s n).2.2.1 s1 a s2 hs).opn) (bind_ne hne) ?_
    intro _ _ hu w1 hk hp1
    have hw2 : w.heap.size + 2 ≤ w2.heap.size := by have := hB2.lt; omega
    exact unary1_any hU hp1 (hm.kept hk) (hB1.kept hk (by omega)) (hB2.kept hk (by omega)) (h.off (Nat.le_refl _)) (h.off (by omega)) (by omega) (by omega) (by omega) (by omega) hu
  have hsum := h.sum
  have HS : Hid (∀ a st1, opened E.s y.toList (unary F E.s n) st = .ok a st1 → st1.nodes.length + 1 + st1.toks.length ≤ 140000) := fun a st1 hs => by
    have := (went_opened (d := 0) hxn (went_expr F E.s n).2.2.1 hs).sum
    omega
  have HH : Hid (Par E w v kvs st) := h
  have HO : Hid _ := hOp
  generalize opened E.s y.toList (unary F E.s n) st = r at hne HS HO ⊢
  clear hOp h hU hsum hxn
  have hmf := mf
  have HT : Hid _ := hT
  clear hT
  have t2 : y.toList = [45] ∧ o = 17 ∨ (y.toList == [45]) = false ∧ y.toList = [33] ∧ o = 18 := by
    rcases hy with h | h
    · exact .inl h
    · exact .inr ⟨by rw [h.1]; rfl, h⟩
  clear hy
  cases r with
  | out => exact absurd rfl hne
  | err c q =>
    unfold PostQ at HO
    dsimp only [Res.bind, PostN] at HO ⊢
    rcases t2 with ⟨hy, rfl⟩ | ⟨t0, hy, rfl⟩
    · have t1 : (y.toList == [45]) = true := by rw [hy]; rfl
      clear hy hne
      go_enter Tryz.func171, Tryz.ntmps171
      go_wp2_with (first | (go_at_call 95; refine (HT.out _ (wb_below w E.p [.int .u8 6, .int .i64 0, .string ⟨#[]⟩, .int .u8 0, .int .u8 0, .int .u64 0, .int .i64 0, .slice none 0 0] 46)).mono ?_; rintro e w1 ⟨rfl, hb1⟩; obtain ⟨hw1, B1, B2⟩ := wb_all (cs := [.int .u8 6, .int .i64 0, .string ⟨#[]⟩, .int .u8 0, .int .u8 0, .int .u64 0, .int .i64 0, .slice none 0 0]) hb1; have a0 := B1.cell 0 _ rfl; have e4 := B2.cell 4 _ rfl; have f4 := B2.fz 4) | (go_at_call 97; refine (HO.out _ ((HH.out.below hw1).setBox (by omega) (HH.out.off (by omega)) 4 _) (((Kept.of_below hw1).moved v kvs).setBox (by omega) 4 _) (B1.other (by simp) _) (by exact B2.set (j := 4) (by simp) _)).mono ?_; rintro e w3 ⟨rfl, hz⟩; unfold gaveUp))
      exact ⟨rfl, rfl, hz⟩
    · have t1 : (y.toList == [33]) = true := by rw [hy]; rfl
      clear hy hne
      go_enter Tryz.func171, Tryz.ntmps171
      go_wp2_with (first | (go_at_call 95; refine (HT.out _ (wb_below w E.p [.int .u8 6, .int .i64 0, .string ⟨#[]⟩, .int .u8 0, .int .u8 0, .int .u64 0, .int .i64 0, .slice none 0 0] 46)).mono ?_; rintro e w1 ⟨rfl, hb1⟩; obtain ⟨hw1, B1, B2⟩ := wb_all (cs := [.int .u8 6, .int .i64 0, .string ⟨#[]⟩, .int .u8 0, .int .u8 0, .int .u64 0, .int .i64 0, .slice none 0 0]) hb1; have a0 := B1.cell 0 _ rfl; have e4 := B2.cell 4 _ rfl; have f4 := B2.fz 4) | (go_at_call 97; refine (HO.out _ ((HH.out.below hw1).setBox (by omega) (HH.out.off (by omega)) 4 _) (((Kept.of_below hw1).moved v kvs).setBox (by omega) 4 _) (B1.other (by simp) _) (by exact B2.set (j := 4) (by simp) _)).mono ?_; rintro e w3 ⟨rfl, hz⟩; unfold gaveUp))
      exact ⟨rfl, rfl, hz⟩
  | ok a st1 =>
    unfold PostQ at HO
    dsimp only [Res.bind, PostN, putP] at HO ⊢
    rcases t2 with ⟨hy, rfl⟩ | ⟨t0, hy, rfl⟩
    · have t1 : (y.toList == [45]) = true := by rw [hy]; rfl
      clear hy hne
      go_enter Tryz.func171, Tryz.ntmps171
      go_wp2_with (first | (go_at_call 95; refine (HT.out _ (wb_below w E.p [.int .u8 6, .int .i64 0, .string ⟨#[]⟩, .int .u8 0, .int .u8 0, .int .u64 0, .int .i64 0, .slice none 0 0] 46)).mono ?_; rintro e w1 ⟨rfl, hb1⟩; obtain ⟨hw1, B1, B2⟩ := wb_all (cs := [.int .u8 6, .int .i64 0, .string ⟨#[]⟩, .int .u8 0, .int .u8 0, .int .u64 0, .int .i64 0, .slice none 0 0]) hb1; have a0 := B1.cell 0 _ rfl; have e4 := B2.cell 4 _ rfl; have f4 := B2.fz 4) | (go_at_call 97; refine (HO.out _ ((HH.out.below hw1).setBox (by omega) (HH.out.off (by omega)) 4 _) (((Kept.of_below hw1).moved v kvs).setBox (by omega) 4 _) (B1.other (by simp) _) (by exact B2.set (j := 4) (by simp) _)).mono ?_; rintro e w3 ⟨rfl, v3, k3, hp3, hm3, C1, o1, o2, ka, kn, kc, C2, hr, hgg⟩; have x0 := C1.cell 0 _ rfl; have y0 := C2.cell 0 _ rfl; have y1 := C2.cell 1 _ rfl; have y2 := C2.cell 2 _ rfl; have y3 := C2.cell 3 _ rfl; have y4 := C2.cell 4 _ rfl; have y5 := C2.cell 5 _ rfl; have y6 := C2.cell 6 _ rfl; have y7 := C2.cell 7 _ rfl; have yf := C2.fz 1))
      have hput : Calls Tryz.prog 100 #[ptr E.p, .agg #[.int .u8 6, natV a.1, .string ⟨#[]⟩, .int .u8 0, .int .u8 17, .int .u64 0, .int .i64 0, .slice ka kn kc]] (w3.setCell ⟨w.heap.size + 1, 1, none⟩ (natV a.1)) (PostN E w v kvs (putP ⟨6, a.1, ⟨#[]⟩, 0, 17, 0, 0, [a.2]⟩ st1)) :=
        put_node (hp3.setBox (by omega) o2 1 _) (hm3.setBox (by omega) 1 _) ⟨6, a.1, ⟨#[]⟩, 0, 17, 0, 0, [a.2]⟩ ka kn kc (owns_other hr (fun hc => (hgg _ hc).2.2.1 rfl) _) (fun g hg => ⟨(hgg g hg).1, (hgg g hg).2.2.2⟩) (HS.out a st1 rfl)
      refine hput.mono ?_
      rintro e w4 h4
      unfold putP PostN at h4
      obtain ⟨rfl, h4⟩ := h4
      go_wp2
      go_ret
      exact ⟨rfl, h4⟩
    · have t1 : (y.toList == [33]) = true := by rw [hy]; rfl
      clear hy hne
      go_enter Tryz.func171, Tryz.ntmps171
      go_wp2_with (first | (go_at_call 95; refine (HT.out _ (wb_below w E.p [.int .u8 6, .int .i64 0, .string ⟨#[]⟩, .int .u8 0, .int .u8 0, .int .u64 0, .int .i64 0, .slice none 0 0] 46)).mono ?_; rintro e w1 ⟨rfl, hb1⟩; obtain ⟨hw1, B1, B2⟩ := wb_all (cs := [.int .u8 6, .int .i64 0, .string ⟨#[]⟩, .int .u8 0, .int .u8 0, .int .u64 0, .int .i64 0, .slice none 0 0]) hb1; have a0 := B1.cell 0 _ rfl; have e4 := B2.cell 4 _ rfl; have f4 := B2.fz 4) | (go_at_call 97; refine (HO.out _ ((HH.out.below hw1).setBox (by omega) (HH.out.off (by omega)) 4 _) (((Kept.of_below hw1).moved v kvs).setBox (by omega) 4 _) (B1.other (by simp) _) (by exact B2.set (j := 4) (by simp) _)).mono ?_; rintro e w3 ⟨rfl, v3, k3, hp3, hm3, C1, o1, o2, ka, kn, kc, C2, hr, hgg⟩; have x0 := C1.cell 0 _ rfl; have y0 := C2.cell 0 _ rfl; have y1 := C2.cell 1 _ rfl; have y2 := C2.cell 2 _ rfl; have y3 := C2.cell 3 _ rfl; have y4 := C2.cell 4 _ rfl; have y5 := C2.cell 5 _ rfl; have y6 := C2.cell 6 _ rfl; have y7 := C2.cell 7 _ rfl; have yf := C2.fz 1))
      have hput : Calls Tryz.prog 100 #[ptr E.p, .agg #[.int .u8 6, natV a.1, .string ⟨#[]⟩, .int .u8 0, .int .u8 18, .int .u64 0, .int .i64 0, .slice ka kn kc]] (w3.setCell ⟨w.heap.size + 1, 1, none⟩ (natV a.1)) (PostN E w v kvs (putP ⟨6, a.1, ⟨#[]⟩, 0, 18, 0, 0, [a.2]⟩ st1)) :=
        put_node (hp3.setBox (by omega) o2 1 _) (hm3.setBox (by omega) 1 _) ⟨6, a.1, ⟨#[]⟩, 0, 18, 0, 0, [a.2]⟩ ka kn kc (owns_other hr (fun hc => (hgg _ hc).2.2.1 rfl) _) (fun g hg => ⟨(hgg g hg).1, (hgg g hg).2.2.2⟩) (HS.out a st1 rfl)
      refine hput.mono ?_
      rintro e w4 h4
      unfold putP PostN at h4
      obtain ⟨rfl, h4⟩ := h4
      go_wp2
      go_ret
      exact ⟨rfl, h4⟩
set_option maxRecDepth 100000 in
theorem unary_any {F : FW} {n : Nat} (hU : DoesUnary F n) (hP : DoesPrimary F n) : DoesUnary F (n + 1) := by
  intro E w v kvs st h hne
  have hT := fun w1 (hw : Below w.heap.size w w1) => text_par (h.below hw)
  simp only [unary] at hne ⊢
  by_cases h1 : has E.s [45] st = true
  · rw [if_pos h1] at hne ⊢
    have hy : (txB E.s (hd st)).toList = [45] := eq_of_beq h1
    rw [← hy] at hne ⊢
    exact unary_sign hU h (txB E.s (hd st)) 17 (.inl ⟨hy, rfl⟩) hT hne
  · rw [if_neg h1] at hne ⊢
    by_cases h2 : has E.s [33] st = true
    · rw [if_pos h2] at hne ⊢
      have hy : (txB E.s (hd st)).toList = [33] := eq_of_beq h2
      rw [← hy] at hne ⊢
      exact unary_sign hU h (txB E.s (hd st)) 18 (.inr ⟨hy, rfl⟩) hT hne
    · rw [if_neg h2] at hne ⊢
      have t1 : ((txB E.s (hd st)).toList == [45]) = false := by simpa [has, txs] using h1
      have t2 : ((txB E.s (hd st)).toList == [33]) = false := by simpa [has, txs] using h2
      have HP : Hid (∀ w1, Below w.heap.size w w1 → Calls Tryz.prog 174 #[ptr E.p] w1 (PostN E w1 v kvs (primary F E.s n st))) := fun w1 hw => hP E w1 v kvs st (h.below hw) hne
      have HT : Hid _ := hT
      generalize txB E.s (hd st) = y at HT t1 t2
      generalize primary F E.s n st = r at HP hne ⊢
      clear hT hP hU h h1 h2
      unfold PostN at HP ⊢
      cases r with
      | out => exact absurd rfl hne
      | err c q =>
        dsimp only at HP ⊢
        go_enter Tryz.func171, Tryz.ntmps171
        go_wp2_with (first | (go_at_call 95; refine (HT.out _ (wb_below w E.p [.int .u8 6, .int .i64 0, .string ⟨#[]⟩, .int .u8 0, .int .u8 0, .int .u64 0, .int .i64 0, .slice none 0 0] 46)).mono ?_; rintro e w1 ⟨rfl, hb1⟩; obtain ⟨hw1, B1, B2⟩ := wb_all (cs := [.int .u8 6, .int .i64 0, .string ⟨#[]⟩, .int .u8 0, .int .u8 0, .int .u64 0, .int .i64 0, .slice none 0 0]) hb1; have a0 := B1.cell 0 _ rfl) | (go_at_call 174; refine (HP.out _ hw1).mono ?_; rintro e w2 ⟨rfl, v2, k2, hm⟩; unfold gaveUp))
        exact ⟨rfl, rfl, v2, k2, ((Kept.of_below hw1).moved v kvs).trans hm⟩
      | ok a st1 =>
        dsimp only at HP ⊢
        go_enter Tryz.func171, Tryz.ntmps171
        go_wp2_with (first | (go_at_call 95; refine (HT.out _ (wb_below w E.p [.int .u8 6, .int .i64 0, .string ⟨#[]⟩, .int .u8 0, .int .u8 0, .int .u64 0, .int .i64 0, .slice none 0 0] 46)).mono ?_; rintro e w1 ⟨rfl, hb1⟩; obtain ⟨hw1, B1, B2⟩ := wb_all (cs := [.int .u8 6, .int .i64 0, .string ⟨#[]⟩, .int .u8 0, .int .u8 0, .int .u64 0, .int .i64 0, .slice none 0 0]) hb1; have a0 := B1.cell 0 _ rfl) | (go_at_call 174; refine (HP.out _ hw1).mono ?_; rintro e w2 ⟨rfl, v2, k2, hp, hm⟩))
        go_ret
        exact ⟨rfl, v2, k2, hp, ((Kept.of_below hw1).moved v kvs).trans hm⟩
end Go.Proofs.YtbejgachdhfakaaGreatDoor
/- An expression, and one in a pair of signs. -/
namespace Go.Proofs.YtbejgachdhfakaaGreatDoor
open Go.RowKit

def DoesRow (F : FW) (n : Nat) : Prop := ∀ (E : Env) (w : World) (v : Value) (kvs : List Value) (st : St) (r : Nat), 1 ≤ r → r ≤ 6 → Par E w v kvs st → row F E.s n r st ≠ .out → Calls Tryz.prog 165 #[ptr E.p, natV r] w (PostN E w v kvs (row F E.s n r st))
def DoesExpr (F : FW) (n : Nat) : Prop := ∀ (E : Env) (w : World) (v : Value) (kvs : List Value) (st : St), Par E w v kvs st → row F E.s n 1 st ≠ .out → Calls Tryz.prog 158 #[ptr E.p] w (PostN E w v kvs (row F E.s n 1 st))
def DoesBetween (F : FW) (n : Nat) : Prop := ∀ (E : Env) (w : World) (v : Value) (kvs : List Value) (st : St) (x y : ByteArray), x.toList ≠ [] → y.toList ≠ [] → Par E w v kvs st → between F E.s n x.toList y.toList st ≠ .out → Calls Tryz.prog 184 #[ptr E.p, .string x, .string y] w (PostN E w v kvs (between F E.s n x.toList y.toList st))
theorem expr_any {F : FW} {n : Nat} (hR : DoesRow F n) : DoesExpr F n := by
  intro E w v kvs st h hne
  have hc : Calls Tryz.prog 165 #[ptr E.p, .int .i64 1] w (PostN E w v kvs (row F E.s n 1 st)) := hR E w v kvs st 1 (by omega) (by omega) h hne
  generalize row F E.s n 1 st = r at hc hne ⊢
  clear h hR
  unfold PostN at hc ⊢
  cases r with
  | out => exact absurd rfl hne
  | err c q =>
    dsimp only at hc ⊢
    go_enter Tryz.func158, Tryz.ntmps158
    go_wp2_with (go_at_call 165; refine hc.mono ?_; rintro e w1 ⟨rfl, hz⟩; unfold gaveUp)
    exact ⟨rfl, rfl, hz⟩
  | ok a st1 =>
    dsimp only at hc ⊢
    go_enter Tryz.func158, Tryz.ntmps158
    go_wp2_with (go_at_call 165; refine hc.mono ?_; rintro e w1 ⟨rfl, hz⟩)
    go_ret
    exact ⟨rfl, hz⟩
def QIn (E : Env) (w0 : World) (v0 : Value) (k0 : List Value) (b1 b2 : Nat) (a : Nat) (w' : World) (v' : Value) (k' : List Value) : Prop :=
  Moved E.p w0 v0 k0 w' v' k' ∧ Box w' b1 [ptr E.p] ∧ Box w' b2 [natV a]
theorem QIn.setP {E : Env} {w0 : World} {v0 : Value} {k0 : List Value} {b1 b2 : Nat} (h1 : E.p ≠ b1) (h2 : E.p ≠ b2) : ∀ a w2 v2 k2 u, QIn E w0 v0 k0 b1 b2 a w2 v2 k2 → QIn E w0 v0 k0 b1 b2 a (w2.setCell ⟨E.p, 2, none⟩ u) v2 k2 := by
  rintro a w2 v2 k2 u ⟨hm, hb1, hb2⟩
  exact ⟨hm.setP _ _, hb1.other (fun h => h1 h.symm) _, hb2.other (fun h => h2 h.symm) _⟩
set_option maxRecDepth 100000 in
theorem between1_any {F : FW} {n : Nat} (hX : DoesExpr F n) {E : Env} {w w0 : World} {v v0 : Value} {kvs k0 : List Value} {st : St} (h : Par E w v kvs st) (hM : Moved E.p w0 v0 k0 w v kvs) {b1 b2 b3 : Nat} {y : ByteArray} (hy : y.toList ≠ []) {c : Value} (hb1 : Box w b1 [ptr E.p]) (hb2 : Box w b2 [c]) (hb3 : Box w b3 [.string y])
    (o1 : Off b1 v kvs) (o2 : Off b2 v kvs) (o3 : Off b3 v kvs) (p1 : E.p < b1) (p2 : E.p < b2) (p3 : E.p < b3) (h12 : b1 ≠ b2) (h32 : b3 ≠ b2) (g2 : w0.heap.size ≤ b2)
    (hne : ((row F E.s n 1 st).bind fun k st2 => (take E.s y.toList st2).bind fun _ st3 => .ok k st3) ≠ .out) :
    Calls Tryz.prog 188 #[ptr b1, ptr b2, ptr b3] w (PostQ unitV E (QIn E w0 v0 k0 b1 b2) (ZMov E w0 v0 k0) ((row F E.s n 1 st).bind fun k st2 => (take E.s y.toList st2).bind fun _ st3 => .ok k st3)) := by
  have hc := hX E w v kvs st h (bind_ne hne)
  have d0 := hb1.cell 0 _ rfl
  generalize row F E.s n 1 st = r at hc hne ⊢
  unfold PostN at hc
  unfold PostQ
  cases r with
  | out => exact absurd rfl hne
  | err c q =>
    dsimp only [Res.bind] at hc ⊢
    go_enter Tryz.func188, Tryz.ntmps188
    go_wp2_with (go_at_call 158; refine hc.mono ?_; rintro e w1 ⟨rfl, v1, k1, hm1⟩; unfold gaveUp)
    exact ⟨rfl, rfl, v1, k1, hM.trans hm1⟩
  | ok k st' =>
    dsimp only [Res.bind] at hc hne ⊢
    have hK := fun (w1 : World) (v1 : Value) (k1 : List Value) (hp : Par E w1 v1 k1 st') => take_par hp y hy
    have H : Hid (Moved E.p w0 v0 k0 w v kvs ∧ Box w b1 [ptr E.p] ∧ Box w b2 [c] ∧ Box w b3 [.string y] ∧ Off b1 v kvs ∧ Off b2 v kvs ∧ Off b3 v kvs) := ⟨hM, hb1, hb2, hb3, o1, o2, o3⟩
    clear h hM hb1 hb2 hb3 o1 o2 o3 hX
    have HK : Hid _ := hK
    clear hK
    generalize take E.s y.toList st' = r2 at HK hne ⊢
    unfold PostK at HK
    cases r2 with
    | out => exact absurd rfl hne
    | err c2 q2 =>
      dsimp only at HK ⊢
      go_enter Tryz.func188, Tryz.ntmps188
      go_wp2_with (first | (go_at_call 158; refine hc.mono ?_; rintro e w1 ⟨rfl, v1, k1, hp1, hm1⟩; have C1 := H.out.2.1.moved hm1 (by omega) H.out.2.2.2.2.1.1; have C2 := H.out.2.2.1.moved hm1 (by omega) H.out.2.2.2.2.2.1.1; have C3 := H.out.2.2.2.1.moved hm1 (by omega) H.out.2.2.2.2.2.2.1; have x0 := C1.cell 0 _ rfl; have x1 := C2.cell 0 _ rfl; have x2 := C3.cell 0 _ rfl; have x3 := C2.fz 0) | (go_at_call 43; refine (HK.out _ _ _ (hp1.setBox p2 (H.out.2.2.2.2.2.1.moved H.out.2.2.1.lt hm1) 0 _)).mono ?_; rintro e w2 ⟨rfl, hk2⟩; unfold gaveUp))
      exact ⟨rfl, rfl, v1, k1, ((H.out.1.trans hm1).setBox g2 0 _).kept hk2⟩
    | ok a2 st2 =>
      dsimp only at HK ⊢
      go_enter Tryz.func188, Tryz.ntmps188
      go_wp2_with (first | (go_at_call 158; refine hc.mono ?_; rintro e w1 ⟨rfl, v1, k1, hp1, hm1⟩; have C1 := H.out.2.1.moved hm1 (by omega) H.out.2.2.2.2.1.1; have C2 := H.out.2.2.1.moved hm1 (by omega) H.out.2.2.2.2.2.1.1; have C3 := H.out.2.2.2.1.moved hm1 (by omega) H.out.2.2.2.2.2.2.1; have x0 := C1.cell 0 _ rfl; have x1 := C2.cell 0 _ rfl; have x2 := C3.cell 0 _ rfl; have x3 := C2.fz 0) | (go_at_call 43; refine (HK.out _ _ _ (hp1.setBox p2 (H.out.2.2.2.2.2.1.moved H.out.2.2.1.lt hm1) 0 _)).mono ?_; rintro e w2 ⟨rfl, hk2, hp2⟩))
      go_end0
      exact ⟨rfl, v1, k1, hp2, ((H.out.1.trans hm1).setBox g2 0 _).kept hk2, (C1.other h12 _).kept hk2 (by omega), by exact (C2.set (j := 0) (by simp) _).kept hk2 (by omega)⟩
/-- Three new variables. -/
def WC (w : World) (p : Nat) (y : ByteArray) : World := ((w.alloc (.cells #[ptr p] 121)).alloc (.cells #[.string y] 9)).alloc (.cells #[.int .i64 0] 3)
theorem wc_all (w : World) (p : Nat) (y : ByteArray) : Below w.heap.size w (WC w p y) ∧ Box (WC w p y) w.heap.size [ptr p] ∧ Box (WC w p y) (w.heap.size + 1) [.string y] ∧ Box (WC w p y) (w.heap.size + 2) [natV 0] := by
  have z1 : (w.alloc (.cells #[ptr p] 121)).heap.size = w.heap.size + 1 := by simp
  have z2 : ((w.alloc (.cells #[ptr p] 121)).alloc (.cells #[.string y] 9)).heap.size = w.heap.size + 2 := by simp
  have b1 := Box.new w [ptr p] 121
  have b2 := Box.new (w.alloc (.cells #[ptr p] 121)) [.string y] 9
  have b3 := Box.new ((w.alloc (.cells #[ptr p] 121)).alloc (.cells #[.string y] 9)) [natV 0] 3
  rw [z1] at b2
  rw [z2] at b3
  exact ⟨(((Below.refl _ _).alloc (Nat.le_refl _) _).alloc (by omega) _).alloc (by omega) _, (b1.below ((Below.refl _ _).alloc (Nat.le_refl _) _)).below ((Below.refl _ _).alloc (Nat.le_refl _) _), b2.below ((Below.refl _ _).alloc (Nat.le_refl _) _), b3⟩
set_option maxRecDepth 100000 in
theorem between_any {F : FW} {n : Nat} (hX : DoesExpr F n) : DoesBetween F (n + 1) := by
  intro E w v kvs st x y hx hy h hne
  simp only [between] at hne ⊢
  obtain ⟨hw, B1, B3, B2⟩ := wc_all w E.p y
  have hl := h.lt
  have hp := h.below hw
  have hm : Moved E.p w v kvs (WC w E.p y) v kvs := (Kept.of_below hw).moved v kvs
  have hO := opened_any hp x hx 188 #[ptr w.heap.size, ptr (w.heap.size + 2), ptr (w.heap.size + 1)] (fun w => by kernel_rfl) (fun st1 => (row F E.s n 1 st1).bind fun k st2 => (take E.s y.toList st2).bind fun _ st3 => .ok k st3) (QIn E w v kvs w.heap.size (w.heap.size + 2)) (ZMov E w v kvs) (QIn.setP (by omega) (by omega)) (fun w1 hk => ⟨v, kvs, hm.kept hk⟩)
    (fun s1 a s2 hs => by
      obtain ⟨k, st4, h3, hs⟩ := bind_ok hs
      obtain ⟨z, st5, h4, hs⟩ := bind_ok hs
      cases hs
      exact (went_take hy h4).opn.trans ((went_expr F E.s n).1 _ _ _ _ h3).opn) (bind_ne hne)
    (fun _ _ hu w1 hk hp1 => between1_any hX hp1 (hm.kept hk) hy (B1.kept hk (by omega)) (B2.kept hk (by omega)) (B3.kept hk (by omega)) (h.off (by omega)) (h.off (by omega)) (h.off (by omega)) (by omega) (by omega) (by omega) (by omega) (by omega) (by omega) hu)
  generalize opened E.s x.toList (fun st1 => (row F E.s n 1 st1).bind fun k st2 => (take E.s y.toList st2).bind fun _ st3 => .ok k st3) st = r at hO hne ⊢
  clear h hp hm B1 B2 B3 hw hX
  have hmf := mf
  unfold PostQ at hO
  unfold PostN
  cases r with
  | out => exact absurd rfl hne
  | err c q =>
    dsimp only [Res.bind] at hO ⊢
    go_enter Tryz.func184, Tryz.ntmps184
    go_wp2_with (go_at_call 97; refine Calls.mono (by exact hO) ?_; rintro e w3 ⟨rfl, hz⟩; unfold gaveUp)
    exact ⟨rfl, rfl, hz⟩
  | ok a st1 =>
    dsimp only [Res.bind] at hO ⊢
    go_enter Tryz.func184, Tryz.ntmps184
    go_wp2_with (go_at_call 97; refine Calls.mono (by exact hO) ?_; rintro e w3 ⟨rfl, v3, k3, hp3, hm3, C1, C2⟩; have x0 := C2.cell 0 _ rfl)
    go_ret
    exact ⟨rfl, v3, k3, hp3, hm3⟩
end Go.Proofs.YtbejgachdhfakaaGreatDoor
/- The table of operators: as a list, in memory, as a value. -/
namespace Go.Proofs.YtbejgachdhfakaaGreatDoor
open Go.RowKit

def opA : List Value := opsL.flatMap fun o => [.string ⟨o.1.toArray⟩, .int .i64 (o.2.1 : Int), .int .u8 (o.2.2.1 : Int), .int .u8 (o.2.2.2 : Int)]
def opArr : Array Value := opA.toArray
def opAtN (k : Nat) : List UInt8 × Nat × Nat × Nat := opsL.getD k ([], 0, 0, 0)
theorem opA_cell {w : World} {og : Nat} (h : OpsAt w og) : ∀ (j : Nat) (v : Value), opA[j]? = some v → w.cell? ⟨og, 0 + j, none⟩ = some v := by
  intro j v hv
  have hj : j < 72 := by
    have := (List.getElem?_eq_some_iff.1 hv).1
    simpa [opA, opsL] using this
  have hi : j / 4 < 18 := by omega
  have h18 : ∀ i, i < 18 → opsL[i]? = some (opAtN i) := by decide
  have hc := h (j / 4) (opAtN (j / 4)) (h18 _ hi)
  have hval : ∀ i, i < 18 → opA[4 * i]? = some (.string ⟨(opAtN i).1.toArray⟩) ∧ opA[4 * i + 1]? = some (.int .i64 ((opAtN i).2.1 : Int)) ∧ opA[4 * i + 2]? = some (.int .u8 ((opAtN i).2.2.1 : Int)) ∧ opA[4 * i + 3]? = some (.int .u8 ((opAtN i).2.2.2 : Int)) := by
    intro i hi
    have h18' : i = 0 ∨ i = 1 ∨ i = 2 ∨ i = 3 ∨ i = 4 ∨ i = 5 ∨ i = 6 ∨ i = 7 ∨ i = 8 ∨ i = 9 ∨ i = 10 ∨ i = 11 ∨ i = 12 ∨ i = 13 ∨ i = 14 ∨ i = 15 ∨ i = 16 ∨ i = 17 := by omega
    rcases h18' with rfl | rfl | rfl | rfl | rfl | rfl | rfl | rfl | rfl | rfl | rfl | rfl | rfl | rfl | rfl | rfl | rfl | rfl
    all_goals exact ⟨rfl, rfl, rfl, rfl⟩
  have hv4 := hval _ hi
  have hm : j % 4 < 4 := Nat.mod_lt _ (by omega)
  have e : j = 4 * (j / 4) + j % 4 := by omega
  rw [Nat.zero_add]
  match hq : j % 4, hm with
  | 0, _ => rw [hq] at e; rw [e] at hv ⊢; rw [Nat.add_zero] at hv ⊢; rw [hv4.1] at hv; cases hv; exact hc.1
  | 1, _ => rw [hq] at e; rw [e] at hv ⊢; rw [hv4.2.1] at hv; cases hv; exact hc.2.1
  | 2, _ => rw [hq] at e; rw [e] at hv ⊢; rw [hv4.2.2.1] at hv; cases hv; exact hc.2.2.1
  | 3, _ => rw [hq] at e; rw [e] at hv ⊢; rw [hv4.2.2.2] at hv; cases hv; exact hc.2.2.2
theorem info268 : (Tryz.prog.info? 268).map (·.size) = some opA.length := by kernel_rfl
theorem ops_load {w : World} (h : OpsAt w 1) : (Instr.loadAt 268 (.pointer (some ⟨1, 0, none⟩))).run Tryz.prog w = .ok (.agg opArr) w :=
  run_loadAt_mid w 1 0 268 opA _ (opA_cell h) Tryz.underlying268 rfl info268
theorem ops_cells {w : World} (h : OpsAt w 1) : (loadCellsFrom ⟨1, 0, none⟩ 0 72 #[]).run Tryz.prog w = .ok opArr w := by
  have := run_loadCells_list (P := Tryz.prog) w ⟨1, 0, none⟩ opA (fun j v hv => by rw [show (⟨1, 0, none⟩ : Addr).add j = ⟨1, 0 + j, none⟩ by simp [Addr.add_lit]]; exact opA_cell h j v hv)
  unfold loadCells at this
  rw [show opA.length = 72 by decide +kernel] at this
  exact this
/-- The table is read, as one step of a plain region. -/
theorem ops_step {ops : Array Oper} {rest : List Oper} {op : Oper} {a : Act} {w : World} {Q : Exit → Act → World → Prop} (h : OpsAt w 1) (hgd : op.guard = none) (ho : op.op = .load 268 (.global 1)) (hx : a.eval (.global 1) = .pointer (some ⟨1, 0, none⟩))
    (hn : wpList Tryz.prog ops Q rest (a.put op.dst (.agg opArr)) w) : wpList Tryz.prog ops Q (op :: rest) a w :=
  wpList_load_mid hgd 268 (.global 1) ho 1 0 hx opA _ (opA_cell h) Tryz.underlying268 rfl info268 hn
theorem ops_index0 (w : World) : (Instr.index 268 (.agg opArr) (.int .i64 ((0 : Nat) : Int))).run Tryz.prog w = .ok (.agg #[.string ⟨(opAtN 0).1.toArray⟩, .int .i64 ((opAtN 0).2.1 : Int), .int .u8 ((opAtN 0).2.2.1 : Int), .int .u8 ((opAtN 0).2.2.2 : Int)]) w := by kernel_rfl
theorem ops_index1 (w : World) : (Instr.index 268 (.agg opArr) (.int .i64 ((1 : Nat) : Int))).run Tryz.prog w = .ok (.agg #[.string ⟨(opAtN 1).1.toArray⟩, .int .i64 ((opAtN 1).2.1 : Int), .int .u8 ((opAtN 1).2.2.1 : Int), .int .u8 ((opAtN 1).2.2.2 : Int)]) w := by kernel_rfl
theorem ops_index2 (w : World) : (Instr.index 268 (.agg opArr) (.int .i64 ((2 : Nat) : Int))).run Tryz.prog w = .ok (.agg #[.string ⟨(opAtN 2).1.toArray⟩, .int .i64 ((opAtN 2).2.1 : Int), .int .u8 ((opAtN 2).2.2.1 : Int), .int .u8 ((opAtN 2).2.2.2 : Int)]) w := by kernel_rfl
theorem ops_index3 (w : World) : (Instr.index 268 (.agg opArr) (.int .i64 ((3 : Nat) : Int))).run Tryz.prog w = .ok (.agg #[.string ⟨(opAtN 3).1.toArray⟩, .int .i64 ((opAtN 3).2.1 : Int), .int .u8 ((opAtN 3).2.2.1 : Int), .int .u8 ((opAtN 3).2.2.2 : Int)]) w := by kernel_rfl
theorem ops_index4 (w : World) : (Instr.index 268 (.agg opArr) (.int .i64 ((4 : Nat) : Int))).run Tryz.prog w = .ok (.agg #[.string ⟨(opAtN 4).1.toArray⟩, .int .i64 ((opAtN 4).2.1 : Int), .int .u8 ((opAtN 4).2.2.1 : Int), .int .u8 ((opAtN 4).2.2.2 : Int)]) w := by kernel_rfl
theorem ops_index5 (w : World) : (Instr.index 268 (.agg opArr) (.int .i64 ((5 : Nat) : Int))).run Tryz.prog w = .ok (.agg #[.string ⟨(opAtN 5).1.toArray⟩, .int .i64 ((opAtN 5).2.1 : Int), .int .u8 ((opAtN 5).2.2.1 : Int), .int .u8 ((opAtN 5).2.2.2 : Int)]) w := by kernel_rfl
theorem ops_index6 (w : World) : (Instr.index 268 (.agg opArr) (.int .i64 ((6 : Nat) : Int))).run Tryz.prog w = .ok (.agg #[.string ⟨(opAtN 6).1.toArray⟩, .int .i64 ((opAtN 6).2.1 : Int), .int .u8 ((opAtN 6).2.2.1 : Int), .int .u8 ((opAtN 6).2.2.2 : Int)]) w := by kernel_rfl
theorem ops_index7 (w : World) : (Instr.index 268 (.agg opArr) (.int .i64 ((7 : Nat) : Int))).run Tryz.prog w = .ok (.agg #[.string ⟨(opAtN 7).1.toArray⟩, .int .i64 ((opAtN 7).2.1 : Int), .int .u8 ((opAtN 7).2.2.1 : Int), .int .u8 ((opAtN 7).2.2.2 : Int)]) w := by kernel_rfl
theorem ops_index8 (w : World) : (Instr.index 268 (.agg opArr) (.int .i64 ((8 : Nat) : Int))).run Tryz.prog w = .ok (.agg #[.string ⟨(opAtN 8).1.toArray⟩, .int .i64 ((opAtN 8).2.1 : Int), .int .u8 ((opAtN 8).2.2.1 : Int), .int .u8 ((opAtN 8).2.2.2 : Int)]) w := by kernel_rfl
theorem ops_index9 (w : World) : (Instr.index 268 (.agg opArr) (.int .i64 ((9 : Nat) : Int))).run Tryz.prog w = .ok (.agg #[.string ⟨(opAtN 9).1.toArray⟩, .int .i64 ((opAtN 9).2.1 : Int), .int .u8 ((opAtN 9).2.2.1 : Int), .int .u8 ((opAtN 9).2.2.2 : Int)]) w := by kernel_rfl
theorem ops_index10 (w : World) : (Instr.index 268 (.agg opArr) (.int .i64 ((10 : Nat) : Int))).run Tryz.prog w = .ok (.agg #[.string ⟨(opAtN 10).1.toArray⟩, .int .i64 ((opAtN 10).2.1 : Int), .int .u8 ((opAtN 10).2.2.1 : Int), .int .u8 ((opAtN 10).2.2.2 : Int)]) w := by kernel_rfl
theorem ops_index11 (w : World) : (Instr.index 268 (.agg opArr) (.int .i64 ((11 : Nat) : Int))).run Tryz.prog w = .ok (.agg #[.string ⟨(opAtN 11).1.toArray⟩, .int .i64 ((opAtN 11).2.1 : Int), .int .u8 ((opAtN 11).2.2.1 : Int), .int .u8 ((opAtN 11).2.2.2 : Int)]) w := by kernel_rfl
theorem ops_index12 (w : World) : (Instr.index 268 (.agg opArr) (.int .i64 ((12 : Nat) : Int))).run Tryz.prog w = .ok (.agg #[.string ⟨(opAtN 12).1.toArray⟩, .int .i64 ((opAtN 12).2.1 : Int), .int .u8 ((opAtN 12).2.2.1 : Int), .int .u8 ((opAtN 12).2.2.2 : Int)]) w := by kernel_rfl
theorem ops_index13 (w : World) : (Instr.index 268 (.agg opArr) (.int .i64 ((13 : Nat) : Int))).run Tryz.prog w = .ok (.agg #[.string ⟨(opAtN 13).1.toArray⟩, .int .i64 ((opAtN 13).2.1 : Int), .int .u8 ((opAtN 13).2.2.1 : Int), .int .u8 ((opAtN 13).2.2.2 : Int)]) w := by kernel_rfl
theorem ops_index14 (w : World) : (Instr.index 268 (.agg opArr) (.int .i64 ((14 : Nat) : Int))).run Tryz.prog w = .ok (.agg #[.string ⟨(opAtN 14).1.toArray⟩, .int .i64 ((opAtN 14).2.1 : Int), .int .u8 ((opAtN 14).2.2.1 : Int), .int .u8 ((opAtN 14).2.2.2 : Int)]) w := by kernel_rfl
theorem ops_index15 (w : World) : (Instr.index 268 (.agg opArr) (.int .i64 ((15 : Nat) : Int))).run Tryz.prog w = .ok (.agg #[.string ⟨(opAtN 15).1.toArray⟩, .int .i64 ((opAtN 15).2.1 : Int), .int .u8 ((opAtN 15).2.2.1 : Int), .int .u8 ((opAtN 15).2.2.2 : Int)]) w := by kernel_rfl
theorem ops_index16 (w : World) : (Instr.index 268 (.agg opArr) (.int .i64 ((16 : Nat) : Int))).run Tryz.prog w = .ok (.agg #[.string ⟨(opAtN 16).1.toArray⟩, .int .i64 ((opAtN 16).2.1 : Int), .int .u8 ((opAtN 16).2.2.1 : Int), .int .u8 ((opAtN 16).2.2.2 : Int)]) w := by kernel_rfl
theorem ops_index17 (w : World) : (Instr.index 268 (.agg opArr) (.int .i64 ((17 : Nat) : Int))).run Tryz.prog w = .ok (.agg #[.string ⟨(opAtN 17).1.toArray⟩, .int .i64 ((opAtN 17).2.1 : Int), .int .u8 ((opAtN 17).2.2.1 : Int), .int .u8 ((opAtN 17).2.2.2 : Int)]) w := by kernel_rfl
theorem ops_index {k : Nat} (hk : k < 18) (w : World) : (Instr.index 268 (.agg opArr) (.int .i64 (k : Int))).run Tryz.prog w = .ok (.agg #[.string ⟨(opAtN k).1.toArray⟩, .int .i64 ((opAtN k).2.1 : Int), .int .u8 ((opAtN k).2.2.1 : Int), .int .u8 ((opAtN k).2.2.2 : Int)]) w := by
  have h18' : k = 0 ∨ k = 1 ∨ k = 2 ∨ k = 3 ∨ k = 4 ∨ k = 5 ∨ k = 6 ∨ k = 7 ∨ k = 8 ∨ k = 9 ∨ k = 10 ∨ k = 11 ∨ k = 12 ∨ k = 13 ∨ k = 14 ∨ k = 15 ∨ k = 16 ∨ k = 17 := by omega
  rcases h18' with rfl | rfl | rfl | rfl | rfl | rfl | rfl | rfl | rfl | rfl | rfl | rfl | rfl | rfl | rfl | rfl | rfl | rfl
  · exact ops_index0 w
  · exact ops_index1 w
  · exact ops_index2 w
  · exact ops_index3 w
  · exact ops_index4 w
  · exact ops_index5 w
  · exact ops_index6 w
  · exact ops_index7 w
  · exact ops_index8 w
  · exact ops_index9 w
  · exact ops_index10 w
  · exact ops_index11 w
  · exact ops_index12 w
  · exact ops_index13 w
  · exact ops_index14 w
  · exact ops_index15 w
  · exact ops_index16 w
  · exact ops_index17 w
theorem find_none {α : Type} {p : α → Bool} : ∀ {l : List α}, (∀ x ∈ l, p x = false) → l.find? p = none
  | [], _ => rfl
  | x :: l, h => by
    rw [List.find?_cons, h x (by simp)]
    exact find_none fun y hy => h y (by simp [hy])
theorem find_at {α : Type} {p : α → Bool} : ∀ {l : List α} {k : Nat} {x : α}, l[k]? = some x → p x = true → (∀ j y, j < k → l[j]? = some y → p y = false) → l.find? p = some x
  | y :: l, 0, x, hx, hp, _ => by
    simp at hx
    subst hx
    rw [List.find?_cons, hp]
  | y :: l, k + 1, x, hx, hp, hn => by
    rw [List.find?_cons, hn 0 y (by omega) rfl]
    exact find_at (k := k) (by simpa using hx) hp fun j z hj hz => hn (j + 1) z (by omega) (by simpa using hz)
/-- None of the operators ahead of k fits. -/
def NoOp (x : List UInt8) (r k : Nat) : Prop := ∀ j o, j < k → opsL[j]? = some o → (decide (o.2.1 = r) && (x == o.1)) = false
theorem noop_all {x : List UInt8} {r : Nat} (h : NoOp x r 18) : opAt x r = none := by
  unfold opAt
  rw [find_none]
  · rfl
  · intro o ho
    obtain ⟨j, hj, he⟩ := List.mem_iff_getElem.1 ho
    exact h j o (by simpa [opsL] using hj) (by rw [List.getElem?_eq_getElem hj, he])
theorem opN_at {k : Nat} (hk : k < 18) : opsL[k]? = some (opAtN k) := (by decide : ∀ i, i < 18 → opsL[i]? = some (opAtN i)) k hk
theorem noop_here {x : List UInt8} {r k : Nat} (h : NoOp x r k) (hk : k < 18) (h1 : (opAtN k).2.1 = r) (h2 : (x == (opAtN k).1) = true) : opAt x r = some (opAtN k).2.2 := by
  unfold opAt
  rw [find_at (opN_at hk) (by rw [h1, h2]; simp) (fun j y hj hy => h j y hj hy)]
  rfl
theorem noop_next {x : List UInt8} {r k : Nat} (h : NoOp x r k) (hk : k < 18) (hn : (decide ((opAtN k).2.1 = r) && (x == (opAtN k).1)) = false) : NoOp x r (k + 1) := by
  intro j o hj ho
  by_cases e : j = k
  · subst e
    rw [opN_at hk] at ho
    cases ho
    exact hn
  · exact h j o (by omega) ho
theorem opN_ne {k : Nat} (hk : k < 18) : (opAtN k).1 ≠ [] := (by decide : ∀ i, i < 18 → (opAtN i).1 ≠ []) k hk
end Go.Proofs.YtbejgachdhfakaaGreatDoor
