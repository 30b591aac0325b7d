/- A parser's state in memory: its own block, the tokens, the nodes that have ended, each with a row of kids. -/
import Derived.Test.YtbejgachdhfakaaGreatDoorGA
import Derived.Test.YtbejgachdhfakaaGreatDoorProg
import Derived.WalkKit
import Derived.OneCell
import Derived.Lib.Bytealg
import Derived.WalkLawsBesides
import Derived.Deep.LoopGhost
import Derived.Deep.QuietTactic
import Derived.Deep.RegionWith
import Derived.BigQuiet
import Derived.WalkSpells
import Derived.Laws.Externs
import Derived.Deep.RegionLaw
import Derived.Maps.AppendAt
import Derived.Shelf.Strconv.Clone
namespace Go.Proofs.YtbejgachdhfakaaGreatDoor
open Go.RowKit

abbrev ints (ks : List Nat) : List Value := ks.map fun (k : Nat) => Value.int .i64 (k : Int)
def ndCells (n : Nd) (kv : Value) : List Value := [.int .u8 (n.kind : Int), .int .i64 (n.pl : Int), .string n.name, .int .u8 (n.typ : Int), .int .u8 (n.op : Int), .int .u64 (n.bits : Int), .int .i64 (n.size : Int), kv]
def ndsCells : List Nd → List Value → List Value
  | n :: ns, kv :: kvs => ndCells n kv ++ ndsCells ns kvs
  | _, _ => []
theorem ndsCells_snoc : ∀ (ns : List Nd) (kvs : List Value) (n : Nd) (kv : Value), kvs.length = ns.length → ndsCells (ns ++ [n]) (kvs ++ [kv]) = ndsCells ns kvs ++ ndCells n kv
  | [], [], n, kv, _ => by simp [ndsCells]
  | m :: ns, k :: kvs, n, kv, h => by
    have := ndsCells_snoc ns kvs n kv (by simpa using h)
    simp only [List.cons_append, ndsCells, this, List.append_assoc]
  | [], _ :: _, _, _, h => by simp at h
  | _ :: _, [], _, _, h => by simp at h
/-- The nodes in memory: a row of the parser's own, and for each node a row of its kids. -/
structure NodesIn (w : World) (base : Nat) (v : Value) (kvs : List Value) (ns : List Nd) : Prop where
  len : kvs.length = ns.length
  own : w.ownsRow base 46 8 v ns.length (ndsCells ns kvs)
  kid : ∀ (i : Nat) (n : Nd) (kv : Value), ns[i]? = some n → kvs[i]? = some kv → w.ownsRow base 3 1 kv n.kids.length (ints n.kids)
  apart : ∀ (i j : Nat) (a b : Value) (g : Nat), i < j → kvs[i]? = some a → kvs[j]? = some b → a.ownBlock = some g → b.ownBlock ≠ some g
/-- From w to w' blocks of w turn in the parser's own and in the nodes' row alone; kids' rows that have come are new. -/
structure Moved (p : Nat) (w : World) (v : Value) (kvs : List Value) (w' : World) (v' : Value) (kvs' : List Value) : Prop where
  os : w'.os = w.os
  tape : w'.tape = w.tape
  output : w'.output = w.output
  size : w.heap.size ≤ w'.heap.size
  block : ∀ k, k < w.heap.size → k ≠ p → v.ownBlock ≠ some k → w'.heap[k]? = w.heap[k]?
  same : v'.ownBlock = v.ownBlock ∨ ∃ g, v'.ownBlock = some g ∧ w.heap.size ≤ g
  kids : ∃ more, kvs' = kvs ++ more ∧ ∀ kv ∈ more, ∀ g, kv.ownBlock = some g → w.heap.size ≤ g
theorem Moved.refl (p : Nat) (w : World) (v : Value) (kvs : List Value) : Moved p w v kvs w v kvs := ⟨rfl, rfl, rfl, Nat.le_refl _, fun _ _ _ _ => rfl, .inl rfl, [], by simp, by simp⟩
theorem Moved.trans {p : Nat} {w w1 w2 : World} {v v1 v2 : Value} {k k1 k2 : List Value} (h : Moved p w v k w1 v1 k1) (g : Moved p w1 v1 k1 w2 v2 k2) : Moved p w v k w2 v2 k2 := by
  refine ⟨g.os.trans h.os, g.tape.trans h.tape, g.output.trans h.output, Nat.le_trans h.size g.size, ?_, ?_, ?_⟩
  · intro b hb hp hv
    have e1 := h.block b hb hp hv
    have hv1 : v1.ownBlock ≠ some b := by
      rcases h.same with e | ⟨q, e, hq⟩
      · rw [e]; exact hv
      · rw [e]; intro hc; cases hc; omega
    exact (g.block b (Nat.lt_of_lt_of_le hb h.size) hp hv1).trans e1
  · rcases g.same with e | ⟨q, e, hq⟩
    · rcases h.same with e' | ⟨q, e', hq⟩
      · exact .inl (e.trans e')
      · exact .inr ⟨q, e.trans e', hq⟩
    · exact .inr ⟨q, e, Nat.le_trans h.size hq⟩
  · obtain ⟨m1, rfl, h1⟩ := h.kids
    obtain ⟨m2, rfl, h2⟩ := g.kids
    refine ⟨m1 ++ m2, by simp, fun kv hkv q hq => ?_⟩
    rcases List.mem_append.1 hkv with hm | hm
    · exact h1 kv hm q hq
    · exact Nat.le_trans h.size (h2 kv hm q hq)
/-- The same without a word on kids. -/
structure Frame (p : Nat) (w : World) (v : Value) (w' : World) (v' : Value) : Prop where
  os : w'.os = w.os
  tape : w'.tape = w.tape
  output : w'.output = w.output
  size : w.heap.size ≤ w'.heap.size
  block : ∀ k, k < w.heap.size → k ≠ p → v.ownBlock ≠ some k → w'.heap[k]? = w.heap[k]?
  same : v'.ownBlock = v.ownBlock ∨ ∃ g, v'.ownBlock = some g ∧ w.heap.size ≤ g
theorem Moved.put {p : Nat} {w0 w w' : World} {v0 v v' : Value} {k0 kvs : List Value} (h : Moved p w0 v0 k0 w v kvs) (f : Frame p w v w' v') {kv : Value} (hkv : ∀ g, kv.ownBlock = some g → w0.heap.size ≤ g) : Moved p w0 v0 k0 w' v' (kvs ++ [kv]) := by
  have g : Moved p w v kvs w' v' kvs := ⟨f.os, f.tape, f.output, f.size, f.block, f.same, [], by simp, by simp⟩
  have m := h.trans g
  obtain ⟨more, he, hm⟩ := m.kids
  refine { m with kids := ⟨more ++ [kv], by rw [he]; simp, fun x hx q hq => ?_⟩ }
  rcases List.mem_append.1 hx with hx | hx
  · exact hm x hx q hq
  · simp at hx; subst hx; exact hkv q hq
theorem Moved.cell {p : Nat} {w w' : World} {v v' : Value} {k k' : List Value} (h : Moved p w v k w' v' k') {a : Addr} (ha : a.block < w.heap.size) (hp : a.block ≠ p) (hv : v.ownBlock ≠ some a.block) : w'.cell? a = w.cell? a :=
  World.cell?_of_block (w := w) (h.block a.block ha hp hv)
theorem Moved.frozen {p : Nat} {w w' : World} {v v' : Value} {k k' : List Value} (h : Moved p w v k w' v' k') {a : Addr} (ha : a.block < w.heap.size) (hp : a.block ≠ p) (hv : v.ownBlock ≠ some a.block) : w'.frozen? a = w.frozen? a :=
  World.frozen?_of_block (w := w) (h.block a.block ha hp hv)
/-- What leaves all old blocks as they were, but for the parser's own. -/
structure Kept (p : Nat) (w w' : World) : Prop where
  os : w'.os = w.os
  tape : w'.tape = w.tape
  output : w'.output = w.output
  size : w.heap.size ≤ w'.heap.size
  block : ∀ k, k < w.heap.size → k ≠ p → w'.heap[k]? = w.heap[k]?
theorem Kept.refl (p : Nat) (w : World) : Kept p w w := ⟨rfl, rfl, rfl, Nat.le_refl _, fun _ _ _ => rfl⟩
theorem Kept.trans {p : Nat} {a b c : World} (h : Kept p a b) (k : Kept p b c) : Kept p a c :=
  ⟨k.os.trans h.os, k.tape.trans h.tape, k.output.trans h.output, Nat.le_trans h.size k.size, fun i hi hp => (k.block i (Nat.lt_of_lt_of_le hi h.size) hp).trans (h.block i hi hp)⟩
theorem Kept.of_below {p : Nat} {w w' : World} (h : Below w.heap.size w w') : Kept p w w' := ⟨h.os, h.tape, h.output, h.size, fun k hk _ => h.block k hk⟩
theorem Kept.drew {p : Nat} {a w : World} (h : Kept p a w) : Kept p a w.drew := ⟨h.os, h.tape, h.output, h.size, h.block⟩
theorem Kept.alloc {p : Nat} {a w : World} (h : Kept p a w) (o : Obj) : Kept p a (w.alloc o) := h.trans (.of_below ((Below.refl _ _).alloc (Nat.le_refl _) o))
theorem Kept.setP {p j : Nat} {a w : World} (h : Kept p a w) (u : Value) : Kept p a (w.setCell ⟨p, j, none⟩ u) :=
  h.trans ⟨rfl, rfl, rfl, by simp [World.setCell], fun k _ hp => Below.heap_setCell _ _ _ _ hp⟩
/-- A store into a block that was not there yet. -/
theorem Kept.setNew {p : Nat} {a w : World} (h : Kept p a w) {q : Addr} (hq : a.heap.size ≤ q.block) (u : Value) : Kept p a (w.setCell q u) :=
  ⟨h.os, h.tape, h.output, by simpa [World.setCell] using h.size, fun k hk hp => (Below.heap_setCell _ _ _ _ (by omega)).trans (h.block k hk hp)⟩
theorem Kept.moved {p : Nat} {w w' : World} (h : Kept p w w') (v : Value) (kvs : List Value) : Moved p w v kvs w' v kvs :=
  ⟨h.os, h.tape, h.output, h.size, fun k hk hp _ => h.block k hk hp, .inl rfl, [], by simp, by simp⟩
theorem Kept.cell {p : Nat} {w w' : World} (h : Kept p w w') {a : Addr} (ha : a.block < w.heap.size) (hp : a.block ≠ p) : w'.cell? a = w.cell? a :=
  World.cell?_of_block (w := w) (h.block a.block ha hp)
theorem Kept.frozen {p : Nat} {w w' : World} (h : Kept p w w') {a : Addr} (ha : a.block < w.heap.size) (hp : a.block ≠ p) : w'.frozen? a = w.frozen? a :=
  World.frozen?_of_block (w := w) (h.block a.block ha hp)
theorem owns_kept {p : Nat} {w w' : World} {base : Nat} {e : TypeId} {sz : Nat} {v : Value} {n : Nat} {xs : List Value} (h : w.ownsRow base e sz v n xs) (hk : Kept p w w') (hb : p < base) : w'.ownsRow base e sz v n xs := by
  refine ⟨h.1, ?_⟩
  rcases h.2 with h0 | ⟨g, cap, cur, hv, h1, hh, h2⟩
  · exact .inl h0
  · exact .inr ⟨g, cap, cur, hv, h1, (hk.block g (Array.getElem?_eq_some_iff.1 hh).1 (by omega)).trans hh, h2⟩
theorem NodesIn.kept {p : Nat} {w w' : World} {base : Nat} {v : Value} {kvs : List Value} {ns : List Nd} (h : NodesIn w base v kvs ns) (hk : Kept p w w') (hb : p < base) : NodesIn w' base v kvs ns :=
  ⟨h.len, owns_kept h.own hk hb, fun i n kv h1 h2 => owns_kept (h.kid i n kv h1 h2) hk hb, h.apart⟩

/-- The tokens of a rest, the last one ahead of cell e of block g. -/
def TokAt (w : World) (g e : Nat) : List Tok → Prop
  | [] => True
  | t :: ts => w.cell? ⟨g, e - 3 * (ts.length + 1), none⟩ = some (.int .u8 (t.1 : Int)) ∧ w.cell? ⟨g, e - 3 * (ts.length + 1) + 1, none⟩ = some (.int .i64 (t.2.1 : Int)) ∧ w.cell? ⟨g, e - 3 * (ts.length + 1) + 2, none⟩ = some (.int .i64 (t.2.2 : Int)) ∧ TokAt w g e ts
theorem TokAt.same {w w' : World} {g e : Nat} (hc : ∀ o, w'.cell? ⟨g, o, none⟩ = w.cell? ⟨g, o, none⟩) : ∀ {ts : List Tok}, TokAt w g e ts → TokAt w' g e ts
  | [], _ => trivial
  | _ :: _, h => ⟨(hc _).trans h.1, (hc _).trans h.2.1, (hc _).trans h.2.2.1, TokAt.same hc h.2.2.2⟩
/-- The package-level variables that are read beside the tables: each holds something. -/
def IfaceV (x : Value) : Prop := x = .nilIface ∨ ∃ ty v, x = .iface ty v
def GlobsAt (w : World) : Prop := (∃ x, w.cell? ⟨4, 0, none⟩ = some x ∧ IfaceV x) ∧ ∃ x, w.cell? ⟨5, 0, none⟩ = some x ∧ IfaceV x
theorem GlobsAt.same {w w' : World} (h : GlobsAt w) (hc : ∀ g, g ≤ 5 → w'.cell? ⟨g, 0, none⟩ = w.cell? ⟨g, 0, none⟩) : GlobsAt w' := by
  obtain ⟨⟨x, hx, hi⟩, y, hy, hj⟩ := h
  exact ⟨⟨x, (hc 4 (by omega)).trans hx, hi⟩, y, (hc 5 (by omega)).trans hy, hj⟩
theorem GlobsAt.below {w w' : World} (h : GlobsAt w) {b : Nat} (h5 : 5 < b) (hb : Below b w w') : GlobsAt w' :=
  h.same fun g hg => World.cell?_of_block (w := w) (a := ⟨g, 0, none⟩) (hb.block g (by omega))
/-- A text of which floatWord tells a word, whatever the memory. -/
def FloatOk (b : ByteArray) : Prop := ∃ n : Nat, ∀ w : World, GlobsAt w → Calls Tryz.prog 190 #[.string b] w fun e w' => e = .returned (.int .u64 (n : Int)) ∧ Below w.heap.size w w'
open Classical in
/-- The word that floatWord tells. -/
noncomputable def floatW (b : ByteArray) : Nat := if h : FloatOk b then h.choose else 0
theorem float_does {b : ByteArray} (h : FloatOk b) {w : World} (hw : GlobsAt w) : Calls Tryz.prog 190 #[.string b] w fun e w' => e = .returned (.int .u64 (floatW b : Int)) ∧ Below w.heap.size w w' := by
  have := h.choose_spec w hw
  unfold floatW
  rw [dif_pos h]
  exact this
/-- A token whose text can be read as a literal, if it is one: of floats a word is told, whole numbers are ASCII. -/
def TokOk (s : ByteArray) (t : Tok) : Prop := (t.1 = 5 → FloatOk (s.extract t.2.1 t.2.2)) ∧ (t.1 = 4 → ∀ b ∈ (s.extract t.2.1 t.2.2).toList, b.toNat < 128)
/-- A rest of tokens: behind all others stands the end's, which is empty. -/
def Good (s : ByteArray) (ts : List Tok) : Prop := ∃ fr z, ts = fr ++ [(1, z, z)] ∧ z ≤ s.size ∧ ∀ t ∈ fr, t.2.1 ≤ t.2.2 ∧ t.2.2 ≤ s.size ∧ t.1 ≠ 1 ∧ TokOk s t
theorem Good.cons {s : ByteArray} {ts : List Tok} (h : Good s ts) : ∃ t r, ts = t :: r ∧ t.2.1 ≤ t.2.2 ∧ t.2.2 ≤ s.size := by
  obtain ⟨fr, z, rfl, hz, hf⟩ := h
  match fr, hf with
  | [], _ => exact ⟨_, _, rfl, Nat.le_refl _, hz⟩
  | t :: fr, hf => exact ⟨t, _, rfl, (hf t (by simp)).1, (hf t (by simp)).2.1⟩
theorem extract_empty (s : ByteArray) (z : Nat) : (s.extract z z).toList = [] := by
  rw [Lib.toList_data, Lib.extract_data]; simp
/-- Behind a token that is not the end there is another one. -/
theorem Good.tail {s : ByteArray} {t : Tok} {r : List Tok} (h : Good s (t :: r)) (hn : t.1 ≠ 1 ∨ (s.extract t.2.1 t.2.2).toList ≠ []) : Good s r := by
  obtain ⟨fr, z, he, hz, hf⟩ := h
  match fr, he, hf with
  | [], he, _ =>
    simp at he
    obtain ⟨rfl, rfl⟩ := he
    rcases hn with h | h
    · exact absurd rfl h
    · exact absurd (extract_empty s z) h
  | u :: fr, he, hf =>
    simp at he
    exact ⟨fr, z, he.2, hz, fun x hx => hf x (by simp [hx])⟩
/-- What does not turn while a parser goes: its block, from where on its rows lie, where the tokens and the operators lie, its source, its functions so far. -/
structure Env where
  p : Nat
  base : Nat
  tg : Nat
  e : Nat
  d : Nat
  og : Nat
  s : ByteArray
  fv : Value
/-- The table of operators. -/
def OpsAt (w : World) (og : Nat) : Prop := ∀ i o, opsL[i]? = some o → w.cell? ⟨og, 4 * i, none⟩ = some (.string ⟨o.1.toArray⟩) ∧ w.cell? ⟨og, 4 * i + 1, none⟩ = some (.int .i64 (o.2.1 : Int)) ∧ w.cell? ⟨og, 4 * i + 2, none⟩ = some (.int .u8 (o.2.2.1 : Int)) ∧ w.cell? ⟨og, 4 * i + 3, none⟩ = some (.int .u8 (o.2.2.2 : Int))
structure Par (E : Env) (w : World) (v : Value) (kvs : List Value) (st : St) : Prop where
  lt : E.p < w.heap.size
  pb : E.p < E.base
  bs : E.base ≤ w.heap.size
  tl1 : E.tg < E.p
  og1 : E.og < E.p
  ogv : E.og = 1
  ehi : 3 * st.toks.length ≤ E.e
  dhi : st.toks.length + E.d ≤ 9223372036854775807
  c0 : w.cell? ⟨E.p, 0, none⟩ = some (.string E.s)
  c1 : w.cell? ⟨E.p, 1, none⟩ = some (.slice (some ⟨E.tg, E.e - 3 * st.toks.length, none⟩) st.toks.length (st.toks.length + E.d))
  c2 : w.cell? ⟨E.p, 2, none⟩ = some (.int .i64 (st.opn : Int))
  c3 : w.cell? ⟨E.p, 3, none⟩ = some v
  c4 : w.cell? ⟨E.p, 4, none⟩ = some E.fv
  fz : ∀ j, w.frozen? ⟨E.p, j, none⟩ = false
  tk : TokAt w E.tg E.e st.toks
  ops : OpsAt w E.og
  good : Good E.s st.toks
  nds : NodesIn w E.base v kvs st.nodes
  sum : st.nodes.length + st.toks.length ≤ 140000
  opb : st.opn ≤ 32
  ssz : E.s.size ≤ 65536
  gl : 5 < E.p ∧ GlobsAt w
/-- Another world with the same cells of the parser's own block. -/
theorem Par.kept {E : Env} {w w' : World} {v : Value} {kvs : List Value} {st : St} (h : Par E w v kvs st) (hk : Kept E.p w w') (hp : w'.heap[E.p]? = w.heap[E.p]?) : Par E w' v kvs st := by
  have hc : ∀ j, w'.cell? ⟨E.p, j, none⟩ = w.cell? ⟨E.p, j, none⟩ := fun j => World.cell?_of_block (w := w) (a := ⟨E.p, j, none⟩) hp
  have hf : ∀ j, w'.frozen? ⟨E.p, j, none⟩ = w.frozen? ⟨E.p, j, none⟩ := fun j => World.frozen?_of_block (w := w) (a := ⟨E.p, j, none⟩) hp
  have hl := h.lt
  have ht := h.tl1
  have ho := h.og1
  exact { h with
    lt := Nat.lt_of_lt_of_le h.lt hk.size
    bs := Nat.le_trans h.bs hk.size
    c0 := (hc 0).trans h.c0, c1 := (hc 1).trans h.c1, c2 := (hc 2).trans h.c2, c3 := (hc 3).trans h.c3, c4 := (hc 4).trans h.c4
    fz := fun j => (hf j).trans (h.fz j)
    tk := h.tk.same fun o => hk.cell (a := ⟨E.tg, o, none⟩) (by show E.tg < _; omega) (by show E.tg ≠ _; omega)
    ops := fun i o ho' => by
      have hx : ∀ j, w'.cell? ⟨E.og, j, none⟩ = w.cell? ⟨E.og, j, none⟩ := fun j => hk.cell (a := ⟨E.og, j, none⟩) (by show E.og < _; omega) (by show E.og ≠ _; omega)
      rw [hx, hx, hx, hx]; exact h.ops i o ho'
    gl := ⟨h.gl.1, h.gl.2.same fun g hg => hk.cell (a := ⟨g, 0, none⟩) (by show g < _; have := h.gl.1; omega) (by show g ≠ _; have := h.gl.1; omega)⟩
    nds := h.nds.kept hk h.pb }
theorem Par.below {E : Env} {w w' : World} {v : Value} {kvs : List Value} {st : St} (h : Par E w v kvs st) (hb : Below w.heap.size w w') : Par E w' v kvs st :=
  h.kept (.of_below hb) (hb.block _ h.lt)
end Go.Proofs.YtbejgachdhfakaaGreatDoor
/- The parser's small steps: the next token, its text, whether it is a word, giving up, going behind it. -/
namespace Go.Proofs.YtbejgachdhfakaaGreatDoor
open Go.RowKit
theorem ret_int {k : IntKind} {a b : Int} (h : a = b) : Ending.returned (.int k a) = .returned (.int k b) := by rw [h]
theorem ret_bool {a b : Bool} (h : a = b) : Ending.returned (.bool a) = .returned (.bool b) := by rw [h]
theorem next_at (p tg o n cap : Nat) (k a b : Int) (w : World) (hl : p < w.heap.size) (hc : w.cell? ⟨p, 1, none⟩ = some (.slice (some ⟨tg, o, none⟩) n cap)) (hn : 0 < n) (ht : tg < w.heap.size)
    (h0 : w.cell? ⟨tg, o, none⟩ = some (.int .u8 k)) (h1 : w.cell? ⟨tg, o + 1, none⟩ = some (.int .i64 a)) (h2 : w.cell? ⟨tg, o + 2, none⟩ = some (.int .i64 b)) :
    Calls Tryz.prog 23 #[.pointer (some ⟨p, 0, none⟩)] w fun e w' => e = .returned (.agg #[.int .u8 k, .int .i64 a, .int .i64 b]) ∧ Below w.heap.size w w' := by
  have hn' : (0 : Int) < n := by omega
  go_enter Tryz.func23, Tryz.ntmps23
  go_wp2
  exact bodyPost_ret (v := .agg #[.int .u8 k, .int .i64 a, .int .i64 b]) (by simp [results, Tryz.results23, go_sem]) rfl ⟨rfl, (Below.refl _ _).alloc (Nat.le_refl _) _⟩
theorem fld0 (k a b : Value) (w : World) : (Instr.field 38 (.agg #[k, a, b]) 0).run Tryz.prog w = .ok k w := by kernel_rfl
theorem fld1 (k a b : Value) (w : World) : (Instr.field 38 (.agg #[k, a, b]) 1).run Tryz.prog w = .ok a w := by kernel_rfl
theorem fld2 (k a b : Value) (w : World) : (Instr.field 38 (.agg #[k, a, b]) 2).run Tryz.prog w = .ok b w := by kernel_rfl
set_option maxRecDepth 100000 in
set_option maxHeartbeats 1000000 in
theorem text_at (p tg o n cap : Nat) (s : ByteArray) (k : Int) (a b : Nat) (w : World) (hl : p < w.heap.size) (hs : w.cell? ⟨p, 0, none⟩ = some (.string s)) (hc : w.cell? ⟨p, 1, none⟩ = some (.slice (some ⟨tg, o, none⟩) n cap)) (hn : 0 < n) (ht : tg < w.heap.size)
    (h0 : w.cell? ⟨tg, o, none⟩ = some (.int .u8 k)) (h1 : w.cell? ⟨tg, o + 1, none⟩ = some (.int .i64 (a : Int))) (h2 : w.cell? ⟨tg, o + 2, none⟩ = some (.int .i64 (b : Int))) (hab : a ≤ b) (hbs : b ≤ s.size) :
    Calls Tryz.prog 95 #[.pointer (some ⟨p, 0, none⟩)] w fun e w' => e = .returned (.string (s.extract a b)) ∧ Below w.heap.size w w' := by
  have hN := fun w' hb => next_at p tg o n cap k a b w' (Nat.lt_of_lt_of_le hl (Below.size hb)) ((Below.cell (p := ⟨p, 1, none⟩) hb hl).trans hc) hn (Nat.lt_of_lt_of_le ht (Below.size hb)) ((Below.cell (p := ⟨tg, o, none⟩) hb ht).trans h0) ((Below.cell (p := ⟨tg, o + 1, none⟩) hb ht).trans h1) ((Below.cell (p := ⟨tg, o + 2, none⟩) hb ht).trans h2)
  have g1 := fld1
  have g2 := fld2
  go_enter Tryz.func95, Tryz.ntmps95
  go_wp2
  have hS : ∀ w', Below w.heap.size w w' → w'.cell? ⟨p, 0, none⟩ = some (.string s) := fun w' hb => (Below.cell (p := ⟨p, 0, none⟩) hb hl).trans hs
  have HS : Hid _ := hS
  have HN : Hid _ := hN
  clear hS hN hc h0 h1 h2
  go_region_with (first | (go_at_call 23; have hh := hb1; clear hh; refine (HN.out _ hb1).mono ?_; rintro e w2 ⟨rfl, hb2⟩; have hb2' := hb1.trans (hb2.mono hb1.size); have q2 := HS.out _ hb2') | (go_at_call 23; refine (HN.out _ (by exact (Below.refl _ _).drew)).mono ?_; rintro e w1 ⟨rfl, hb⟩; have hb1 : Below w.heap.size w w1 := (Below.refl _ _).drew.trans hb; have q1 := HS.out _ hb1))
  all_goals (try go_wp2)
  all_goals exact bodyPost_ret (v := .string (s.extract a b)) (by simp [results, Tryz.results95, go_sem, Act.put]) rfl ⟨rfl, hb2'⟩
end Go.Proofs.YtbejgachdhfakaaGreatDoor
/- The parser's small steps, by its state. -/
namespace Go.Proofs.YtbejgachdhfakaaGreatDoor
open Go.RowKit

abbrev ptr (b : Nat) : Value := .pointer (some ⟨b, 0, none⟩)
/-- A parser that has given up. -/
def gaveUp (c p : Nat) : Ending := .panicked [{ v := .iface 70 (.agg #[.int .i64 (c : Int), .int .i64 (p : Int)]), recovered := false }]
theorem Par.head {E : Env} {w : World} {v : Value} {kvs : List Value} {st : St} (h : Par E w v kvs st) : ∃ t r, st.toks = t :: r ∧ hd st = t ∧ t.2.1 ≤ t.2.2 ∧ t.2.2 ≤ E.s.size ∧
    w.cell? ⟨E.p, 1, none⟩ = some (.slice (some ⟨E.tg, E.e - 3 * (r.length + 1), none⟩) (r.length + 1) (r.length + 1 + E.d)) ∧
    w.cell? ⟨E.tg, E.e - 3 * (r.length + 1), none⟩ = some (.int .u8 (t.1 : Int)) ∧ w.cell? ⟨E.tg, E.e - 3 * (r.length + 1) + 1, none⟩ = some (.int .i64 (t.2.1 : Int)) ∧ w.cell? ⟨E.tg, E.e - 3 * (r.length + 1) + 2, none⟩ = some (.int .i64 (t.2.2 : Int)) := by
  obtain ⟨t, r, ht, h1, h2⟩ := h.good.cons
  have hk := h.tk
  have hc := h.c1
  rw [ht] at hk hc
  exact ⟨t, r, ht, by simp [hd, ht], h1, h2, hc, hk.1, hk.2.1, hk.2.2.1⟩
theorem Par.tgl {E : Env} {w : World} {v : Value} {kvs : List Value} {st : St} (h : Par E w v kvs st) : E.tg < w.heap.size := Nat.lt_trans h.tl1 h.lt
def tokV (t : Tok) : Value := .agg #[.int .u8 (t.1 : Int), .int .i64 (t.2.1 : Int), .int .i64 (t.2.2 : Int)]
theorem next_par {E : Env} {w : World} {v : Value} {kvs : List Value} {st : St} (h : Par E w v kvs st) :
    Calls Tryz.prog 23 #[ptr E.p] w fun e w' => e = .returned (.agg #[.int .u8 ((hd st).1 : Int), .int .i64 ((hd st).2.1 : Int), .int .i64 ((hd st).2.2 : Int)]) ∧ Below w.heap.size w w' := by
  obtain ⟨t, r, ht, hh, h1, h2, hc, k0, k1, k2⟩ := h.head
  rw [hh]
  exact next_at _ _ _ _ _ _ _ _ w h.lt hc (by omega) h.tgl k0 k1 k2
theorem text_par {E : Env} {w : World} {v : Value} {kvs : List Value} {st : St} (h : Par E w v kvs st) :
    Calls Tryz.prog 95 #[ptr E.p] w fun e w' => e = .returned (.string (txB E.s (hd st))) ∧ Below w.heap.size w w' := by
  obtain ⟨t, r, ht, hh, h1, h2, hc, k0, k1, k2⟩ := h.head
  rw [hh]
  exact text_at _ _ _ _ _ _ _ _ _ w h.lt h.c0 hc (by omega) h.tgl k0 k1 k2 h1 h2
theorem has_par {E : Env} {w : World} {v : Value} {kvs : List Value} {st : St} (h : Par E w v kvs st) (x : ByteArray) :
    Calls Tryz.prog 91 #[ptr E.p, .string x] w fun e w' => e = .returned (.bool (has E.s x.toList st)) ∧ Below w.heap.size w w' := by
  have hT := text_par h
  unfold has txs
  generalize txB E.s (hd st) = y at hT ⊢
  go_enter Tryz.func91, Tryz.ntmps91
  go_wp2_with (go_at_call 95; refine hT.mono ?_; rintro e w1 ⟨rfl, hb⟩)
  go_ret
  exact ⟨rfl, hb⟩
set_option maxRecDepth 100000 in
theorem stop_par {E : Env} {w : World} {v : Value} {kvs : List Value} {st : St} (h : Par E w v kvs st) (c : Nat) :
    Calls Tryz.prog 92 #[ptr E.p, .int .i64 (c : Int)] w fun e w' => e = gaveUp c (hd st).2.1 ∧ Below w.heap.size w w' := by
  have hN := next_par h
  unfold gaveUp
  generalize (hd st).2.1 = y at hN ⊢
  generalize (hd st).2.2 = z at hN ⊢
  generalize (hd st).1 = x at hN ⊢
  have g1 := fld1
  go_enter Tryz.func92, Tryz.ntmps92
  go_wp2_with (go_at_call 23; refine hN.mono ?_; rintro e w1 ⟨rfl, hb⟩)
  exact ⟨rfl, rfl, hb⟩
theorem bcell {W w1 : World} (hb : Below W.heap.size W w1) : (∀ b o, b < W.heap.size → w1.cell? ⟨b, o, none⟩ = W.cell? ⟨b, o, none⟩) ∧ (∀ b o, b < W.heap.size → w1.frozen? ⟨b, o, none⟩ = W.frozen? ⟨b, o, none⟩) :=
  ⟨fun b o h => hb.cell (p := ⟨b, o, none⟩) h, fun b o h => hb.frozen (p := ⟨b, o, none⟩) h⟩
set_option maxRecDepth 100000 in
theorem pass_at (p tg o n cap : Nat) (x y z : Int) (w : World) (hl : p < w.heap.size) (hc : w.cell? ⟨p, 1, none⟩ = some (.slice (some ⟨tg, o, none⟩) n cap)) (hf : w.frozen? ⟨p, 1, none⟩ = false) (hn : 1 < n) (hnc : n ≤ cap)
    (hN : Calls Tryz.prog 23 #[ptr p] w fun e w' => e = .returned (.agg #[.int .u8 x, .int .i64 y, .int .i64 z]) ∧ Below w.heap.size w w') :
    Calls Tryz.prog 93 #[ptr p] w fun e w' => e = .returned (.int .i64 y) ∧ ∃ w1, Below w.heap.size w w1 ∧ w' = w1.setCell ⟨p, 1, none⟩ (.slice (some ⟨tg, o + 3, none⟩) (n - 1) (cap - 1)) := by
  have hn' : (1 : Int) < n := by omega
  have hnc' : (n : Int) ≤ cap := by omega
  have h1 : ¬ cap = 1 := by omega
  have g1 := fld1
  go_enter Tryz.func93, Tryz.ntmps93
  go_wp2_with (go_at_call 23; refine hN.mono ?_; rintro e w1 ⟨rfl, hb⟩; have q1 := (hb.cell (p := ⟨p, 1, none⟩) hl).trans hc; have q2 := (hb.frozen (p := ⟨p, 1, none⟩) hl).trans hf)
  go_ret
  exact ⟨rfl, w1, hb, rfl⟩
end Go.Proofs.YtbejgachdhfakaaGreatDoor
/- One node more. -/
namespace Go.Proofs.YtbejgachdhfakaaGreatDoor
open Go.RowKit

/-- append onto a row of the call's own, as one step of a region that draws. -/
theorem step_append_own {P : Program} {ops : Array Oper} {o : Oper} {a : Act} {w : World} {K : Act → World → Prop} {Q : Exit → Act → World → Prop} {E : Prop}
    (hg : o.guard = none) (s x : Operand) (t : TypeId) (hop : o.op = Op.call { callee := Callee.builtin Builtin.append, args := #[s, x], argTypes := #[t, t] })
    (base : Nat) (e : TypeId) (i : TypeInfo) (z : Value) (size bytes : Nat) (h1 : P.underlying t = some (.slice e)) (h2 : P.info? e = some i) (h3 : i.zero = some z) (h4 : i.size = size) (h5 : i.bytes = bytes) (h6 : z.cells.size = size) (h7 : 0 < size)
    (v : Value) (n : Nat) (xs : List Value) (hs : a.eval s = v) (hown : w.ownsRow base e size v n xs)
    (ad : Addr) (m c : Nat) (news : List Value) (hx : a.eval x = .slice (some ad) m c) (hn : news.length = m * size) (hc : ∀ j u, news[j]? = some u → w.cell? (ad.add j) = some u) (h1c : ∀ u ∈ news, u.oneCell' = true)
    (b1 : n + m ≤ maxLen) (b2 : (n + m) * bytes ≤ 140737488355328) (hbase : base ≤ w.heap.size)
    (hK : ∀ v' w', w'.ownsRow base e size v' (n + m) (xs ++ news) → w.grownBy w' v.ownBlock → (v'.ownBlock = v.ownBlock ∨ v'.ownBlock = some w.heap.size) → K (a.put o.dst v') w') :
    if Region.wanted o (yielded ops a.tmps) = true then Oper.wp P o a w K Q else E := by
  have hw : Region.wanted o (yielded ops a.tmps) = true := by simp [Region.wanted, hg]
  rw [if_pos hw]
  obtain ⟨v', w', hrun, r1, r2, _, r3⟩ := run_append_own_at (P := P) w base t o.type e i z size bytes h1 h2 h3 h4 h5 h6 h7 v n xs hown ad m c news hn hc h1c b1 b2 hbase
  unfold Oper.wp
  simp [execOp, hop, resolve, invoke, builtin, hs, hx, hrun, Result.andThen]
  exact hK v' w' r1 r2 r3
theorem info_parts {P : Program} {t : TypeId} {z : Value} {a b : Nat} (h : (P.info? t).map (fun i => (i.zero, i.size, i.bytes)) = some (some z, a, b)) : ∃ i, P.info? t = some i ∧ i.zero = some z ∧ i.size = a ∧ i.bytes = b := by
  cases hi : P.info? t with
  | none => rw [hi] at h; cases h
  | some i => rw [hi] at h; simp at h; exact ⟨i, rfl, h⟩
abbrev zNode : Value := .agg #[.int .u8 0, .int .i64 0, .string ⟨#[]⟩, .int .u8 0, .int .u8 0, .int .u64 0, .int .i64 0, .slice none 0 0]
theorem info46 : (Tryz.prog.info? 46).map (fun i => (i.zero, i.size, i.bytes)) = some (some zNode, 8, 80) := by kernel_rfl
theorem own_form {w : World} {base : Nat} {e : TypeId} {sz : Nat} {v : Value} {n : Nat} {xs : List Value} (h : w.ownsRow base e sz v (n + 1) xs) : ∃ g cap, v = .slice (some ⟨g, 0, none⟩) (n + 1) cap ∧ base ≤ g ∧ g < w.heap.size ∧ n + 1 ≤ cap ∧ cap ≤ maxLen := by
  rcases h.2 with ⟨_, h0⟩ | ⟨g, cap, cur, hv, h1, hh, h2, h3, _⟩
  · omega
  · exact ⟨g, cap, hv, h1, (Array.getElem?_eq_some_iff.1 hh).1, h2, h3⟩
theorem put_keep {p base : Nat} {v : Value} {w W w' : World} (hW : Below w.heap.size w W) (hg : W.grownBy w' v.ownBlock) (hl : p < w.heap.size) (hp : p < base) (hlt : ∀ q, v.ownBlock = some q → base ≤ q) :
    (∀ j, w'.cell? ⟨p, j, none⟩ = w.cell? ⟨p, j, none⟩) ∧ (∀ j, w'.frozen? ⟨p, j, none⟩ = w.frozen? ⟨p, j, none⟩) := by
  have e : w'.heap[p]? = w.heap[p]? := (hg.block p (Nat.lt_of_lt_of_le hl hW.size) (fun h => by have := hlt p h.symm; omega)).trans (hW.block p hl)
  exact ⟨fun j => World.cell?_of_block (w := w) (a := ⟨p, j, none⟩) e, fun j => World.frozen?_of_block (w := w) (a := ⟨p, j, none⟩) e⟩
theorem cells8_new {W : World} {g : Nat} (hg : g = W.heap.size) (a b c d e f h i : Value) (t : TypeId) : ∀ j u, [a, b, c, d, e, f, h, i][j]? = some u → (W.alloc (.cells #[a, b, c, d, e, f, h, i] t)).cell? ((⟨g, 0, none⟩ : Addr).add j) = some u := by
  intro j u hj
  subst hg
  have ea : (⟨W.heap.size, 0, none⟩ : Addr).add j = ⟨W.heap.size, j, none⟩ := by simp [Addr.add_lit]
  rw [ea]
  have hh := heap_alloc_new W (.cells #[a, b, c, d, e, f, h, i] t)
  simp only [World.cell?, hh]
  simpa using hj
theorem frame_put {p : Nat} {v v' : Value} {w W w' : World} (hW : Below w.heap.size w W) (hg : W.grownBy w' v.ownBlock) (u : Value) (hs : v'.ownBlock = v.ownBlock ∨ ∃ g, v'.ownBlock = some g ∧ w.heap.size ≤ g) (j : Nat) : Frame p w v (w'.setCell ⟨p, j, none⟩ u) v' :=
  ⟨hg.os.trans hW.os, hg.tape.trans hW.tape, hg.output.trans hW.output, by have := hW.size; have := hg.size; simp [World.setCell]; omega,
    fun k hk hp hv => (Below.heap_setCell _ _ _ _ hp).trans ((hg.block k (Nat.lt_of_lt_of_le hk hW.size) (fun h => hv h.symm)).trans (hW.block k hk)), hs⟩
set_option maxRecDepth 100000 in
set_option maxHeartbeats 1000000 in
theorem put_at (p base n : Nat) (v : Value) (xs : List Value) (x0 x1 x3 x4 x5 x6 : Int) (x2 : ByteArray) (ka : Option Addr) (kn kc : Nat) (w : World) (hl : p < w.heap.size) (hc : w.cell? ⟨p, 3, none⟩ = some v) (hf : w.frozen? ⟨p, 3, none⟩ = false)
    (hown : w.ownsRow base 46 8 v n xs) (hb : base ≤ w.heap.size) (hp : p < base) (hn : n ≤ 140000) :
    Calls Tryz.prog 100 #[ptr p, .agg #[.int .u8 x0, .int .i64 x1, .string x2, .int .u8 x3, .int .u8 x4, .int .u64 x5, .int .i64 x6, .slice ka kn kc]] w fun e w' => e = .returned (.int .i64 (n : Int)) ∧
      ∃ v', w'.ownsRow base 46 8 v' (n + 1) (xs ++ [.int .u8 x0, .int .i64 x1, .string x2, .int .u8 x3, .int .u8 x4, .int .u64 x5, .int .i64 x6, .slice ka kn kc]) ∧ w'.cell? ⟨p, 3, none⟩ = some v' ∧
        (∀ j, j ≠ 3 → w'.cell? ⟨p, j, none⟩ = w.cell? ⟨p, j, none⟩) ∧ (∀ j, w'.frozen? ⟨p, j, none⟩ = w.frozen? ⟨p, j, none⟩) ∧ Frame p w v w' v' := by
  obtain ⟨i0, hi, hz0, hz1, hz2⟩ := info_parts info46
  have HO : Hid (w.ownsRow base 46 8 v n xs) := hown
  have hlt : Hid (∀ q, v.ownBlock = some q → base ≤ q) := fun q hq => (hown.lt q hq).1
  clear hown
  go_enter Tryz.func100, Tryz.ntmps100
  go_wp2
  have u8 : Hid (n + 1 ≤ maxLen ∧ (n + 1) * 80 ≤ 140737488355328) := ⟨by unfold maxLen; omega, by omega⟩
  have HB : Hid (base ≤ w.heap.size + 1 + 1) := by show _ ≤ _; omega
  go_region_law (refine step_append_own rfl (.tmp 10) (.tmp 12) 29 rfl base 46 i0 zNode 8 80 Tryz.underlying29 hi hz0 hz1 hz2 rfl (by decide) v n xs ?e1 ?e2 ⟨w.heap.size + 1, 0, none⟩ 1 1 [.int .u8 x0, .int .i64 x1, .string x2, .int .u8 x3, .int .u8 x4, .int .u64 x5, .int .i64 x6, .slice ka kn kc] ?e3 rfl ?e4 ?e5 u8.out.1 u8.out.2 ?e8 ?_; (case e1 => simp [Act.eval]); (case e2 => exact (HO.out.alloc _).alloc _); (case e3 => simp [Act.eval]); (case e4 => exact cells8_new (by simp) _ _ _ _ _ _ _ _ _); (case e5 => intro u hu; simp at hu; rcases hu with rfl | rfl | rfl | rfl | rfl | rfl | rfl | rfl <;> rfl); (case e8 => simp; exact HB.out); intro v' w' ho hg hsm; obtain ⟨g, cap, rfl, hg1, hg2, hg3, hg4⟩ := own_form ho; have hW := ((Below.refl w.heap.size w).alloc (Nat.le_refl _) (.cells #[.int .u8 x0, .int .i64 x1, .string x2, .int .u8 x3, .int .u8 x4, .int .u64 x5, .int .i64 x6, .slice ka kn kc] 46)).alloc (by simp) (.cells #[.int .u8 x0, .int .i64 x1, .string x2, .int .u8 x3, .int .u8 x4, .int .u64 x5, .int .i64 x6, .slice ka kn kc] 46) |>.drew; have HK := put_keep hW hg hl hp hlt.out; have q3 := (HK.1 3).trans hc; have q4 := (HK.2 3).trans hf)
  all_goals (try go_wp2)
  all_goals
    go_ret
    refine ⟨ret_int (by omega), .slice (some ⟨g, 0, none⟩) (n + 1) cap, ownsRow_setCell_below ho hp _, ?_, ?_, ?_, frame_put hW hg _ ?_ 3⟩
    · simp [go_sem, q3]
    · intro j hj; rw [← HK.1 j]; exact World.cell?_setCell_other _ _ _ _ (by intro h; simp at h <;> omega)
    · intro j; rw [← HK.2 j]; simp [go_sem]
    · rcases hsm with h | h
      · exact .inl h
      · exact .inr ⟨_, h, by simp; omega⟩
end Go.Proofs.YtbejgachdhfakaaGreatDoor
/-
  DERIVED: THE SHELF's CONTRACTS AT THIS DUMP, IN PLAIN WORDS (tools/lay-plain.mjs out of 'YtbejgachdhfakaaGreatDoorShelf.lean', which tools/lay-shelf.mjs wrote): THE SAME DECLARATIONS UNDER THE SAME NAMES: 'import', 'namespace', 'open', 'def', 'theorem' AND NOTHING ELSE: no command of the shelf's: FOR A HAND-IN. Each laying: the table of numbers ('.._ren') and one theorem, a field a fact of the dump's own or the kernel's comparison; each contract: ONE APPLICATION.
-/
namespace Go.Proofs
open Go.Shelf
def Tryz.laysM316_ren : Go.Shelf.Ren := ⟨fun | 316 => 137 | n => n, fun | 9 => 9 | 3 => 3 | 4 => 4 | 37 => 80 | 0 => 0 | 127 => 281 | 5 => 5 | n => n, fun | n => n⟩
theorem Tryz.laysM316 : Go.Proofs.LaysM.n316 Tryz.prog Tryz.laysM316_ren := {
  mixed := by kernel_rfl
  f316 := Tryz.func137.trans (congrArg some (by kernel_rfl))
  t0 := Tryz.underlying0
  a0 := Tryz.isAgg0
  z0 := Tryz.sizeOf0
  v0 := Tryz.zeroValue0
  t3 := Tryz.underlying3
  a3 := Tryz.isAgg3
  z3 := Tryz.sizeOf3
  v3 := Tryz.zeroValue3
  t4 := Tryz.underlying4
  a4 := Tryz.isAgg4
  z4 := Tryz.sizeOf4
  v4 := Tryz.zeroValue4
  t9 := Tryz.underlying9
  a9 := Tryz.isAgg9
  z9 := Tryz.sizeOf9
  v9 := Tryz.zeroValue9
  t37 := Tryz.underlying80
  a37 := Tryz.isAgg80
  z37 := Tryz.sizeOf80
  v37 := Tryz.zeroValue80
  t127 := Tryz.underlying281
  a127 := Tryz.isAgg281
  z127 := Tryz.sizeOf281
  v127 := Tryz.zeroValue281
  t5 := Tryz.underlying5
  a5 := Tryz.isAgg5
  z5 := Tryz.sizeOf5
  v5 := Tryz.zeroValue5
  i0 := by kernel_rfl
  i3 := by kernel_rfl
  i4 := by kernel_rfl
  i5 := by kernel_rfl
  i9 := by kernel_rfl
  i37 := by kernel_rfl
  i127 := by kernel_rfl }
open Go.RowKit in
/-- Clone: the same bytes. -/
theorem Tryz.stringslite_Clone (s : ByteArray) (w : World) (hlim : s.size ≤ 281474976710656) :
    Calls Tryz.prog 137 #[.string s] w fun e w' => e = .returned (.string s) ∧ Below w.heap.size w w' := Any.stringslite_Clone Tryz.laysM316 s w hlim
end Go.Proofs
/- strings.Clone: the same bytes. -/
namespace Go.Proofs.YtbejgachdhfakaaGreatDoor
open Go.RowKit
theorem clone_any (s : ByteArray) (w : World) (hs : s.size ≤ 65536) : Calls Tryz.prog 94 #[.string s] w fun e w' => e = .returned (.string s) ∧ Below w.heap.size w w' := by
  have hc := Tryz.stringslite_Clone s w (by omega)
  go_enter Tryz.func94, Tryz.ntmps94
  go_wp2_with (go_at_call 137; refine hc.mono ?_; rintro e w1 ⟨rfl, hb⟩)
  go_ret
  exact ⟨rfl, hb⟩
end Go.Proofs.YtbejgachdhfakaaGreatDoor
/- The parser's steps that go behind a token: pass, take, name, typeName; and put. -/
namespace Go.Proofs.YtbejgachdhfakaaGreatDoor
open Go.RowKit

theorem Par.pass {E : Env} {w w1 : World} {v : Value} {kvs : List Value} {st : St} (h : Par E w v kvs st) (hg : Good E.s (tl st).toks) (hb : Below w.heap.size w w1) {t : Tok} {r : List Tok} (ht : st.toks = t :: r) :
    Par E (w1.setCell ⟨E.p, 1, none⟩ (.slice (some ⟨E.tg, E.e - 3 * (r.length + 1) + 3, none⟩) (r.length + 1 - 1) (r.length + 1 + E.d - 1))) v kvs (tl st) ∧ Kept E.p w (w1.setCell ⟨E.p, 1, none⟩ (.slice (some ⟨E.tg, E.e - 3 * (r.length + 1) + 3, none⟩) (r.length + 1 - 1) (r.length + 1 + E.d - 1))) := by
  have hk : Kept E.p w (w1.setCell ⟨E.p, 1, none⟩ (.slice (some ⟨E.tg, E.e - 3 * (r.length + 1) + 3, none⟩) (r.length + 1 - 1) (r.length + 1 + E.d - 1))) := (Kept.of_below hb).setP _
  refine ⟨?_, hk⟩
  have h1 := h.below hb
  have et : (tl st).toks = r := by simp [tl, ht]
  have hne : ∀ j, j ≠ 1 → (w1.setCell ⟨E.p, 1, none⟩ (.slice (some ⟨E.tg, E.e - 3 * (r.length + 1) + 3, none⟩) (r.length + 1 - 1) (r.length + 1 + E.d - 1))).cell? ⟨E.p, j, none⟩ = w1.cell? ⟨E.p, j, none⟩ := fun j hj => World.cell?_setCell_other _ _ _ _ (by intro hh; simp at hh <;> omega)
  have hl := h1.lt
  have ht1 := h.tl1
  have ho := h.og1
  have hlen : st.toks.length = r.length + 1 := by rw [ht]; rfl
  have hehi := h.ehi
  have hdhi := h.dhi
  have hsum := h.sum
  have htk := h.tk
  rw [ht] at htk
  refine { lt := Nat.lt_of_lt_of_le h.lt hk.size, pb := h.pb, bs := Nat.le_trans h.bs hk.size, tl1 := ht1, og1 := ho, ogv := h.ogv, ehi := ?_, dhi := ?_, c0 := (hne 0 (by omega)).trans h1.c0, c1 := ?_, c2 := (hne 2 (by omega)).trans h1.c2, c3 := (hne 3 (by omega)).trans h1.c3, c4 := (hne 4 (by omega)).trans h1.c4, fz := fun j => ?_, tk := ?_, ops := ?_, good := hg, nds := h.nds.kept hk h.pb, sum := ?_, opb := h.opb, ssz := h.ssz, gl := ⟨h.gl.1, h.gl.2.same fun g hg => hk.cell (a := ⟨g, 0, none⟩) (by show g < _; have := h.gl.1; have := h.lt; omega) (by show g ≠ _; have := h.gl.1; omega)⟩ }
  · rw [et]; omega
  · rw [et]; omega
  · rw [World.cell?_setCell_same _ _ _ h1.c1, et]
    congr 1
    congr 1
    · congr 1
      congr 1
      omega
    all_goals omega
  · rw [World.frozen?_setCell]; exact h1.fz j
  · rw [et]
    exact TokAt.same (fun o => hk.cell (a := ⟨E.tg, o, none⟩) (by show E.tg < _; exact h.tgl) (by show E.tg ≠ _; omega)) htk.2.2.2
  · intro i o hi
    have hx : ∀ j, (w1.setCell ⟨E.p, 1, none⟩ (.slice (some ⟨E.tg, E.e - 3 * (r.length + 1) + 3, none⟩) (r.length + 1 - 1) (r.length + 1 + E.d - 1))).cell? ⟨E.og, j, none⟩ = w.cell? ⟨E.og, j, none⟩ := fun j => hk.cell (a := ⟨E.og, j, none⟩) (by show E.og < _; have := h.lt; omega) (by show E.og ≠ _; omega)
    rw [hx, hx, hx, hx]; exact h.ops i o hi
  · show st.nodes.length + (tl st).toks.length ≤ _
    rw [et]; omega
theorem pass_par {E : Env} {w : World} {v : Value} {kvs : List Value} {st : St} (h : Par E w v kvs st) (hg : Good E.s (tl st).toks) :
    Calls Tryz.prog 93 #[ptr E.p] w fun e w' => e = .returned (.int .i64 ((hd st).2.1 : Int)) ∧ Kept E.p w w' ∧ Par E w' v kvs (tl st) := by
  obtain ⟨t, r, ht, hh, h1, h2, hc, k0, k1, k2⟩ := h.head
  have et : (tl st).toks = r := by simp [tl, ht]
  obtain ⟨t2, r2, ht2, _⟩ := hg.cons
  rw [et] at ht2
  refine (pass_at E.p E.tg (E.e - 3 * (r.length + 1)) (r.length + 1) (r.length + 1 + E.d) _ _ _ w h.lt hc (h.fz 1) (by rw [ht2]; simp) (by omega) (next_par h)).mono ?_
  rintro e w' ⟨rfl, w1, hb, rfl⟩
  have := h.pass hg hb ht
  exact ⟨rfl, this.2, this.1⟩
theorem good_has {s x : ByteArray} {st : St} (hg : Good s st.toks) (h : has s x.toList st = true) (hx : x.toList ≠ []) : Good s (tl st).toks := by
  obtain ⟨t, r, ht, _⟩ := hg.cons
  have e1 : (tl st).toks = r := by simp [tl, ht]
  have e2 : hd st = t := by simp [hd, ht]
  rw [e1]
  rw [ht] at hg
  refine hg.tail (.inr ?_)
  unfold has txs at h
  rw [e2] at h
  rw [show (s.extract t.2.1 t.2.2).toList = x.toList from eq_of_beq h]
  exact hx
theorem good_kind {s : ByteArray} {st : St} (hg : Good s st.toks) (h : (hd st).1 ≠ 1) : Good s (tl st).toks := by
  obtain ⟨t, r, ht, _⟩ := hg.cons
  have e1 : (tl st).toks = r := by simp [tl, ht]
  have e2 : hd st = t := by simp [hd, ht]
  rw [e1]
  rw [ht] at hg
  exact hg.tail (.inl (by rw [← e2]; exact h))
theorem good_txs {s : ByteArray} {st : St} (hg : Good s st.toks) (h : txs s st ≠ []) : Good s (tl st).toks := by
  obtain ⟨t, r, ht, _⟩ := hg.cons
  have e1 : (tl st).toks = r := by simp [tl, ht]
  have e2 : hd st = t := by simp [hd, ht]
  rw [e1]
  rw [ht] at hg
  refine hg.tail (.inr ?_)
  unfold txs at h
  rw [e2] at h
  exact h
/-- How a step of the parser that hands back a number ends. -/
def PostK {α : Type} (val : α → Value) (E : Env) (w : World) (v : Value) (kvs : List Value) (r : Res α) (e : Ending) (w' : World) : Prop :=
  match r with
  | .ok a st' => e = .returned (val a) ∧ Kept E.p w w' ∧ Par E w' v kvs st'
  | .err c p => e = gaveUp c p ∧ Kept E.p w w'
  | .out => True
abbrev natV (n : Nat) : Value := .int .i64 (n : Int)
abbrev typV (n : Nat) : Value := .int .u8 (n : Int)
theorem take_par {E : Env} {w : World} {v : Value} {kvs : List Value} {st : St} (h : Par E w v kvs st) (x : ByteArray) (hx : x.toList ≠ []) :
    Calls Tryz.prog 43 #[ptr E.p, .string x] w (PostK natV E w v kvs (take E.s x.toList st)) := by
  have hH := has_par h x
  unfold take
  cases hb : has E.s x.toList st
  · rw [hb] at hH
    have hS := fun w1 (hw : Below w.heap.size w w1) => stop_par (h.below hw) 130
    simp only [Bool.false_eq_true, if_false]
    unfold stop PostK
    dsimp only
    generalize (hd st).2.1 = y at hS ⊢
    go_enter Tryz.func43, Tryz.ntmps43
    go_wp2_with (first | (go_at_call 91; refine hH.mono ?_; rintro e w1 ⟨rfl, hb1⟩) | (go_at_call 92; refine (hS _ hb1).mono ?_; rintro e w2 ⟨rfl, hb2⟩; unfold gaveUp))
    exact ⟨rfl, rfl, Kept.of_below (hb1.trans (hb2.mono hb1.size))⟩
  · have hg := good_has h.good hb hx
    rw [hb] at hH
    have hS := fun w1 (hw : Below w.heap.size w w1) => pass_par (h.below hw) hg
    simp only [if_true]
    unfold PostK
    dsimp only
    generalize (hd st).2.1 = y at hS ⊢
    go_enter Tryz.func43, Tryz.ntmps43
    go_wp2_with (first | (go_at_call 91; refine hH.mono ?_; rintro e w1 ⟨rfl, hb1⟩) | (go_at_call 93; refine (hS _ hb1).mono ?_; rintro e w2 ⟨rfl, hb2, hp2⟩))
    go_ret
    exact ⟨rfl, (Kept.of_below hb1).trans hb2, hp2⟩
end Go.Proofs.YtbejgachdhfakaaGreatDoor
/- The parser's name, typeName and put, by its state. -/
namespace Go.Proofs.YtbejgachdhfakaaGreatDoor
open Go.RowKit

abbrev nameV (a : ByteArray × Nat) : Value := .tuple #[.string a.1, .int .i64 (a.2 : Int)]
theorem txB_size {E : Env} {w : World} {v : Value} {kvs : List Value} {st : St} (h : Par E w v kvs st) : (txB E.s (hd st)).size ≤ 65536 := by
  have := h.ssz
  unfold txB
  rw [ByteArray.size_extract]
  omega
theorem name_par {E : Env} {w : World} {v : Value} {kvs : List Value} {st : St} (h : Par E w v kvs st) :
    Calls Tryz.prog 44 #[ptr E.p] w (PostK nameV E w v kvs (nameP E.s st)) := by
  have hN := next_par h
  have g0 := fld0
  unfold nameP
  by_cases hk : (hd st).1 = 2
  · have hT := fun w1 (hw : Below w.heap.size w w1) => text_par (h.below hw)
    have hC := fun w => clone_any (txB E.s (hd st)) w (txB_size h)
    have hP := fun w1 (hw : Below w.heap.size w w1) => pass_par (h.below hw) (good_kind h.good (by omega))
    rw [if_pos hk]
    unfold PostK
    dsimp only
    rw [hk] at hN
    generalize (hd st).2.1 = y at hN hP ⊢
    generalize (hd st).2.2 = z at hN ⊢
    generalize txB E.s (hd st) = x at hT hC ⊢
    clear hk
    go_enter Tryz.func44, Tryz.ntmps44
    go_wp2_with (first | (go_at_call 23; refine hN.mono ?_; rintro e w1 ⟨rfl, hb1⟩) | (go_at_call 95; refine (hT _ hb1).mono ?_; rintro e w2 ⟨rfl, hb2⟩; have hb2' := hb1.trans (hb2.mono hb1.size)) | (go_at_call 94; refine (hC _).mono ?_; rintro e w3 ⟨rfl, hb3⟩; have hb3' := hb2'.trans (hb3.mono hb2'.size)) | (go_at_call 93; refine (hP _ hb3').mono ?_; rintro e w4 ⟨rfl, hb4, hp4⟩))
    go_ret2
    exact ⟨rfl, (Kept.of_below hb3').trans hb4, hp4⟩
  · have hS := fun w1 (hw : Below w.heap.size w w1) => stop_par (h.below hw) 130
    rw [if_neg hk]
    unfold stop PostK
    dsimp only
    have hk' : (((hd st).1 : Int) != 2) = true := by simp; omega
    generalize (hd st).1 = k at hN hk'
    generalize (hd st).2.1 = y at hN hS ⊢
    generalize (hd st).2.2 = z at hN ⊢
    clear hk
    go_enter Tryz.func44, Tryz.ntmps44
    go_wp2_with (first | (go_at_call 23; refine hN.mono ?_; rintro e w1 ⟨rfl, hb1⟩) | (go_at_call 92; refine (hS _ hb1).mono ?_; rintro e w2 ⟨rfl, hb2⟩; unfold gaveUp))
    exact ⟨rfl, rfl, Kept.of_below (hb1.trans (hb2.mono hb1.size))⟩
theorem typeOf_any (x : ByteArray) (w : World) : Calls Tryz.prog 96 #[.string x] w fun e w' => e = .returned (typV (typN x.toList)) ∧ w' = w := by
  unfold typN
  go_enter Tryz.func96, Tryz.ntmps96
  go_wp2
  all_goals go_ret
  all_goals refine ⟨ret_int ?_, rfl⟩
  all_goals simp_all
theorem type_par {E : Env} {w : World} {v : Value} {kvs : List Value} {st : St} (h : Par E w v kvs st) :
    Calls Tryz.prog 47 #[ptr E.p] w (PostK typV E w v kvs (typeP E.s st)) := by
  have hT := text_par h
  have hO := typeOf_any (txB E.s (hd st))
  unfold typeP
  by_cases hk : typN (txs E.s st) = 0
  · have hS := fun w1 (hw : Below w.heap.size w w1) => stop_par (h.below hw) 130
    rw [if_pos hk]
    unfold txs at hk
    rw [hk] at hO
    unfold stop PostK
    dsimp only
    generalize txB E.s (hd st) = x at hT hO ⊢
    generalize (hd st).2.1 = y at hS ⊢
    clear hk
    go_enter Tryz.func47, Tryz.ntmps47
    go_wp2_with (first | (go_at_call 95; refine hT.mono ?_; rintro e w1 ⟨rfl, hb1⟩) | (go_at_call 96; refine (hO _).mono ?_; rintro e w2 ⟨rfl, rfl⟩) | (go_at_call 92; refine (hS _ hb1).mono ?_; rintro e w3 ⟨rfl, hb2⟩; unfold gaveUp))
    exact ⟨rfl, rfl, Kept.of_below (hb1.trans (hb2.mono hb1.size))⟩
  · have hP := fun w1 (hw : Below w.heap.size w w1) => pass_par (h.below hw) (good_txs h.good (typN_ne hk))
    rw [if_neg hk]
    unfold txs at hk ⊢
    unfold PostK
    dsimp only
    have hk' : (((typN (txB E.s (hd st)).toList : Nat) : Int) == 0) = false := by simp; omega
    generalize typN (txB E.s (hd st)).toList = t at hO hk' ⊢
    generalize txB E.s (hd st) = x at hT hO ⊢
    generalize (hd st).2.1 = y at hP ⊢
    clear hk
    go_enter Tryz.func47, Tryz.ntmps47
    go_wp2_with (first | (go_at_call 95; refine hT.mono ?_; rintro e w1 ⟨rfl, hb1⟩) | (go_at_call 96; refine (hO _).mono ?_; rintro e w2 ⟨rfl, rfl⟩) | (go_at_call 93; refine (hP _ hb1).mono ?_; rintro e w3 ⟨rfl, hb2, hp⟩))
    go_ret
    exact ⟨rfl, (Kept.of_below hb1).trans hb2, hp⟩
end Go.Proofs.YtbejgachdhfakaaGreatDoor
