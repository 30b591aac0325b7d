/- A word is shown. -/
import Derived.Test.YtdgpdmohfnealaaGreatDoorUShow3
import Derived.Test.YtdgpdmohfnealaaGreatDoorUForg2M
import Derived.Test.YtdgpdmohfnealaaGreatDoorUEnd2M
import Derived.Test.YtdgpdmohfnealaaGreatDoorUTell2M
import Derived.Test.YtdgpdmohfnealaaGreatDoorUBeg2M
namespace Go.Proofs.YtdgpdmohfnealaaGreatDoor
open Go.RowKit

theorem do_show {E : Env} {w : World} {V : Vals} {ss : List Slot} {S : St} (h : Rn E w V ss S) {m : Nat} {l : List Int} (ha : Asks E S m l) (hg : S.top.g < E.P.length) {g o : Nat} {av : Value} {x : In} (hx : InAt E.w0 g o av x) (hk : x.kind = 10) {v : Nat} (hn : x.args.length = 1) (hv : x.args.getD 0 0 = (v : Int)) (hvl : v < l.length) (hvv : v < (E.P.getD S.top.g default).vars.length) (hsl : S.shows.length ≤ 1000000000) :
    Calls Tryz.prog 18 #[ptr E.B, .pointer (some ⟨g, o, none⟩)] w fun e w' => e = .returned (.tuple #[]) ∧ ∃ sv' ss', Rn E w' { V with sv := sv' } ss' { S with shows := S.shows ++ [((E.P.getD S.top.g default).vars.getD v 0, S.get v)] } := by
  have hx' := hx.below h.low
  obtain ⟨ag, ao, c, rfl, ca⟩ := hx'.arg0 (by omega)
  have c3 := hx'.c3
  rw [hn] at c3
  refine do_show_walk (bs := E.w0.heap.size) (sl := S.shows.length) (fl := flat shCells S.shows) (sv := V.sv) (by rw [hx'.c0, hk]) c3 (by rw [ca, hv]) h.box.2.2.2.2.2.2.2.2.1 (fun k ob => ((h.drewN k).alloc ob).box.2.2.2.2.2.2.2.2.1) (fun W k hW => by subst hW; exact get_any (h.drewN k) ha v hvl) (fun W k hW => by subst hW; exact typeOf_any (h.drewN k) ha.hm ha.hmb hg v hvv) (fun k => (h.drewN k).heap.own 6 _ h.s6) hsl h.low.size (fun k ob w2 sv' ho hgr hat => ?_)
  have hRA := (h.drewN k).alloc ob
  have hBW : w2.heap[E.B]? = ((w.drewN k).alloc ob).heap[E.B]? := hgr.block E.B (hRA.heap.lt hRA.s0).2 (fun e => h.heap.apart 6 0 _ _ E.B (by omega) h.s6 h.s0 e.symm rfl)
  exact ⟨(World.cell?_of_block (w := (w.drewN k).alloc ob) (a := ⟨E.B, 8, none⟩) hBW).trans hRA.box.2.2.2.2.2.2.2.2.1, (World.frozen?_of_block (w := (w.drewN k).alloc ob) (a := ⟨E.B, 8, none⟩) hBW).trans (hRA.fz 8), sv', hRA.show ho hgr hat⟩
end Go.Proofs.YtdgpdmohfnealaaGreatDoor
/- A run as the document sees it: calls with words and elements; how what is kept says them. -/
namespace Go.Proofs.YtdgpdmohfnealaaGreatDoor

/-- A call: its graph, its place, its words, its elements. -/
structure Fr where
  g : Nat
  b : Nat
  nx : Nat
  ev : Nat → Int
  ar : Nat → Nat → Int
def updE (e : Nat → Int) (v : Nat) (x : Int) : Nat → Int := fun u => if u = v then x else e u
def szOf (G : Gr) (q : Nat) : Nat := (G.arrs.getD q default).2.toNat
/-- What the last call has set: its settings and elements, ahead of them k and r others; F0 and F are the newest settings ahead of it and now. -/
structure Seg (G : Gr) (F0 F : Nat → Nat) (k r : Nat) (sg : List Sg) (rs : List Int) (f : Fr) : Prop where
  uniq : ∀ (i j : Nat) (a b : Sg), sg[i]? = some a → sg[j]? = some b → a.cell = b.cell → i = j
  cell : ∀ (i : Nat) (a : Sg), sg[i]? = some a → a.cell < cellsOf G
  old : ∀ (i : Nat) (a : Sg), sg[i]? = some a → a.old = F0 a.cell
  hit : ∀ (i : Nat) (a : Sg), sg[i]? = some a → F a.cell = k + i + 1
  miss : ∀ c, (∀ (i : Nat) (a : Sg), sg[i]? = some a → a.cell ≠ c) → F c = F0 c
  ev1 : ∀ (i : Nat) (a : Sg), sg[i]? = some a → a.cell < G.vars.length → f.ev a.cell = a.word
  ev0 : ∀ v, v < G.vars.length → (∀ (i : Nat) (a : Sg), sg[i]? = some a → a.cell ≠ v) → f.ev v = 0
  ar1 : ∀ (i : Nat) (a : Sg), sg[i]? = some a → ∀ q, a.cell = G.vars.length + q → ∃ p : Nat, a.word = ((r + p : Nat) : Int) ∧ p + szOf G q ≤ rs.length ∧ ∀ j, j < szOf G q → f.ar q j = rs.getD (p + j) 0
  ar0 : ∀ q, (∀ (i : Nat) (a : Sg), sg[i]? = some a → a.cell ≠ G.vars.length + q) → ∀ j, f.ar q j = 0
  rl : rs.length ≤ 256 * sg.length
  apart : ∀ (i j : Nat) (a b : Sg) (q q' p p' : Nat), sg[i]? = some a → sg[j]? = some b → a.cell = G.vars.length + q → b.cell = G.vars.length + q' → q ≠ q' → a.word = ((r + p : Nat) : Int) → b.word = ((r + p' : Nat) : Int) → p + szOf G q ≤ p' ∨ p' + szOf G q' ≤ p
/-- What is kept of all calls that live, the last one first. -/
def Lay (P : List Gr) : List Fr → List Cl → List Sg → List Int → (Nat → Nat → Nat) → Prop
  | [], [], kept, rows, F => kept = [] ∧ rows = [] ∧ ∀ g c, F g c = 0
  | f :: fs, c :: cs, kept, rows, F => c.g = f.g ∧ c.b = f.b ∧ c.nx = f.nx ∧ c.k ≤ kept.length ∧ c.r ≤ rows.length ∧ f.g < P.length ∧
      ∃ F0, Lay P fs cs (kept.take c.k) (rows.take c.r) F0 ∧ (∀ g, g ≠ f.g → F g = F0 g) ∧ Seg (P.getD f.g default) (F0 f.g) (F f.g) c.k c.r (kept.drop c.k) (rows.drop c.r) f
  | _, _, _, _, _ => False
theorem Seg.bound {G : Gr} {F0 F : Nat → Nat} {k r : Nat} {sg : List Sg} {rs : List Int} {f : Fr} (h : Seg G F0 F k r sg rs f) (h0 : ∀ c, F0 c ≤ k) (c : Nat) : F c ≤ k + sg.length := by
  by_cases hc : ∃ (i : Nat) (a : Sg), sg[i]? = some a ∧ a.cell = c
  · obtain ⟨i, a, hi, rfl⟩ := hc
    rw [h.hit i a hi]
    have := (List.getElem?_eq_some_iff.1 hi).1
    omega
  · rw [h.miss c fun i a hi e => hc ⟨i, a, hi, e⟩]
    have := h0 c
    omega
theorem Lay.bound {P : List Gr} : ∀ {fs : List Fr} {cs : List Cl} {kept : List Sg} {rows : List Int} {F : Nat → Nat → Nat}, Lay P fs cs kept rows F → ∀ g c, F g c ≤ kept.length
  | [], [], _, _, _, h, g, c => by rw [h.2.2]; exact Nat.zero_le _
  | f :: fs, cl :: cs, kept, rows, F, h, g, c => by
    obtain ⟨_, _, _, hk, _, _, F0, hL, hne, hS⟩ := h
    have ih := Lay.bound hL
    have hkl : (kept.take cl.k).length = cl.k := by rw [List.length_take]; omega
    by_cases e : g = f.g
    · subst e
      have := hS.bound (fun c => by have := ih f.g c; omega) c
      rw [List.length_drop] at this
      omega
    · rw [hne g e]
      have := ih g c
      omega
  | [], _ :: _, _, _, _, h, _, _ => h.elim
  | _ :: _, [], _, _, _, h, _, _ => h.elim
theorem Lay.len {P : List Gr} : ∀ {fs : List Fr} {cs : List Cl} {kept : List Sg} {rows : List Int} {F : Nat → Nat → Nat}, Lay P fs cs kept rows F → cs.length = fs.length
  | [], [], _, _, _, _ => rfl
  | f :: fs, cl :: cs, kept, rows, F, h => by
    obtain ⟨_, _, _, hk, _, _, F0, hL, hne, hS⟩ := h
    have := Lay.len hL
    simp [this]
  | [], _ :: _, _, _, _, h => h.elim
  | _ :: _, [], _, _, _, h => h.elim
/-- The newest settings, as they are kept. -/
structure NwOk (P : List Gr) (nw : List (Option (List Int))) (F : Nat → Nat → Nat) : Prop where
  len : nw.length = P.length
  here : ∀ g l, nw[g]? = some (some l) → l.length = cellsOf (P.getD g default) ∧ ∀ c, l.getD c 0 = (F g c : Int)
  nil : ∀ g, nw[g]? = some none → ∀ c, F g c = 0
theorem Seg.find {G : Gr} {F0 F : Nat → Nat} {k r : Nat} {sg : List Sg} {rs : List Int} {f : Fr} (h : Seg G F0 F k r sg rs f) (h0 : ∀ c, F0 c ≤ k) (c : Nat) :
    (∃ (i : Nat) (a : Sg), sg[i]? = some a ∧ a.cell = c ∧ F c = k + i + 1) ∨ ((∀ (i : Nat) (a : Sg), sg[i]? = some a → a.cell ≠ c) ∧ F c = F0 c ∧ F c ≤ k) := by
  by_cases hc : ∃ (i : Nat) (a : Sg), sg[i]? = some a ∧ a.cell = c
  · obtain ⟨i, a, hi, rfl⟩ := hc
    exact .inl ⟨i, a, hi, rfl, h.hit i a hi⟩
  · have hm : ∀ (i : Nat) (a : Sg), sg[i]? = some a → a.cell ≠ c := fun i a hi e => hc ⟨i, a, hi, e⟩
    exact .inr ⟨hm, h.miss c hm, by rw [h.miss c hm]; exact h0 c⟩
/-- A setting's word is another one: a variable's. -/
theorem Seg.word {G : Gr} {F0 F : Nat → Nat} {k r : Nat} {sg : List Sg} {rs : List Int} {f : Fr} (h : Seg G F0 F k r sg rs f) {i : Nat} {a : Sg} (hi : sg[i]? = some a) (hv : a.cell < G.vars.length) (x : Int) :
    Seg G F0 F k r (sg.set i { a with word := x }) rs { f with ev := updE f.ev a.cell x } := by
  have hil := (List.getElem?_eq_some_iff.1 hi).1
  have key : ∀ (j : Nat) (b : Sg), (sg.set i { a with word := x })[j]? = some b → (j = i ∧ b = { a with word := x }) ∨ (j ≠ i ∧ sg[j]? = some b) := fun j b hj => by
    rw [List.getElem?_set] at hj
    by_cases e : i = j
    · rw [if_pos e, if_pos hil] at hj
      cases hj
      exact .inl ⟨e.symm, rfl⟩
    · rw [if_neg e] at hj
      exact .inr ⟨Ne.symm e, hj⟩
  have back : ∀ (j : Nat) (b : Sg), (sg.set i { a with word := x })[j]? = some b → ∃ b0, sg[j]? = some b0 ∧ b0.cell = b.cell ∧ b0.old = b.old ∧ (j ≠ i → b0 = b) := fun j b hj => by
    rcases key j b hj with ⟨rfl, rfl⟩ | ⟨hne, hj'⟩
    · exact ⟨a, hi, rfl, rfl, fun hne => (hne rfl).elim⟩
    · exact ⟨b, hj', rfl, rfl, fun _ => rfl⟩
  have none : ∀ c, (∀ (j : Nat) (b : Sg), (sg.set i { a with word := x })[j]? = some b → b.cell ≠ c) → ∀ (j : Nat) (b : Sg), sg[j]? = some b → b.cell ≠ c := fun c hc j b hj e => by
    by_cases ej : j = i
    · subst ej
      rw [hi] at hj
      cases hj
      exact hc j { a with word := x } (by rw [List.getElem?_set, if_pos rfl, if_pos hil]) e
    · exact hc j b (by rw [List.getElem?_set, if_neg (Ne.symm ej)]; exact hj) e
  refine ⟨fun p q b c hp hq e => ?_, fun j b hj => ?_, fun j b hj => ?_, fun j b hj => ?_, fun c hc => h.miss c (none c hc), fun j b hj hb => ?_, fun v hvv hc => ?_, fun j b hj q hq => ?_, fun q hc j => h.ar0 q (none _ hc) j, (by rw [List.length_set]; exact h.rl), fun p q b c u u' y y' hp hq h1 h2 hne hw1 hw2 => ?_⟩
  · obtain ⟨b0, hb0, e1, _⟩ := back p b hp
    obtain ⟨c0, hc0, e2, _⟩ := back q c hq
    exact h.uniq p q b0 c0 hb0 hc0 (by rw [e1, e2, e])
  · obtain ⟨b0, hb0, e1, _⟩ := back j b hj
    rw [← e1]; exact h.cell j b0 hb0
  · obtain ⟨b0, hb0, e1, e2, _⟩ := back j b hj
    rw [← e1, ← e2]; exact h.old j b0 hb0
  · obtain ⟨b0, hb0, e1, _⟩ := back j b hj
    rw [← e1]; exact h.hit j b0 hb0
  · rcases key j b hj with ⟨rfl, rfl⟩ | ⟨hne, hj'⟩
    · show updE f.ev a.cell x a.cell = x
      unfold updE; rw [if_pos rfl]
    · show updE f.ev a.cell x b.cell = b.word
      have : b.cell ≠ a.cell := fun e => hne (h.uniq j i b a hj' hi e)
      unfold updE; rw [if_neg this]; exact h.ev1 j b hj' hb
  · show updE f.ev a.cell x v = 0
    have : v ≠ a.cell := fun e => none v hc i a hi e.symm
    unfold updE; rw [if_neg this]
    exact h.ev0 v hvv (none v hc)
  · rcases key j b hj with ⟨rfl, rfl⟩ | ⟨hne, hj'⟩
    · exfalso
      have : a.cell = G.vars.length + q := hq
      omega
    · exact h.ar1 j b hj' q hq
  · obtain ⟨b0, hb0, e1, _, e3⟩ := back p b hp
    obtain ⟨c0, hc0, e2, _, e4⟩ := back q c hq
    have hpi : p ≠ i := fun e => by
      subst e
      rw [hi] at hb0
      cases hb0
      omega
    have hqi : q ≠ i := fun e => by
      subst e
      rw [hi] at hc0
      cases hc0
      omega
    rw [e3 hpi] at hb0
    rw [e4 hqi] at hc0
    exact h.apart p q b c u u' y y' hb0 hc0 h1 h2 hne hw1 hw2
/-- A setting more: a variable's. -/
theorem Seg.more {G : Gr} {F0 F : Nat → Nat} {k r : Nat} {sg : List Sg} {rs : List Int} {f : Fr} (h : Seg G F0 F k r sg rs f) {c : Nat} (hc : c < G.vars.length) (hn : ∀ (i : Nat) (a : Sg), sg[i]? = some a → a.cell ≠ c) (x : Int) :
    Seg G F0 (fun d => if d = c then k + sg.length + 1 else F d) k r (sg ++ [⟨c, F c, x⟩]) rs { f with ev := updE f.ev c x } := by
  have key : ∀ (j : Nat) (b : Sg), (sg ++ [⟨c, F c, x⟩])[j]? = some b → (j = sg.length ∧ b = ⟨c, F c, x⟩) ∨ sg[j]? = some b := fun j b hj => by
    rw [List.getElem?_append] at hj
    split at hj
    · exact .inr hj
    · rename_i hl
      have hl2 := (List.getElem?_eq_some_iff.1 hj).1
      have : j - sg.length = 0 := by simp at hl2; omega
      rw [this] at hj
      refine .inl ⟨by omega, by simpa using hj.symm⟩
  have old : ∀ (j : Nat) (b : Sg), sg[j]? = some b → (sg ++ [⟨c, F c, x⟩])[j]? = some b := fun j b hj => by
    rw [List.getElem?_append_left (List.getElem?_eq_some_iff.1 hj).1]; exact hj
  have last : (sg ++ [⟨c, F c, x⟩])[sg.length]? = some ⟨c, F c, x⟩ := by simp
  have none : ∀ d, (∀ (j : Nat) (b : Sg), (sg ++ [⟨c, F c, x⟩])[j]? = some b → b.cell ≠ d) → d ≠ c ∧ ∀ (j : Nat) (b : Sg), sg[j]? = some b → b.cell ≠ d := fun d hd =>
    ⟨fun e => hd _ _ last e.symm, fun j b hj => hd j b (old j b hj)⟩
  refine ⟨fun p q b d hp hq e => ?_, fun j b hj => ?_, fun j b hj => ?_, fun j b hj => ?_, fun d hd => ?_, fun j b hj hb => ?_, fun v hvv hd => ?_, fun j b hj q hq => ?_, fun q hd j => h.ar0 q (none _ hd).2 j, (by have := h.rl; rw [List.length_append, List.length_singleton]; omega), fun p q b d u u' y y' hp hq h1 h2 hne hw1 hw2 => ?_⟩
  · rcases key p b hp with ⟨rfl, rfl⟩ | hp' <;> rcases key q d hq with ⟨rfl, rfl⟩ | hq'
    · rfl
    · exact (hn q d hq' e.symm).elim
    · exact (hn p b hp' e).elim
    · exact h.uniq p q b d hp' hq' e
  · rcases key j b hj with ⟨rfl, rfl⟩ | hj'
    · show c < _; unfold cellsOf; omega
    · exact h.cell j b hj'
  · rcases key j b hj with ⟨rfl, rfl⟩ | hj'
    · exact h.miss c hn
    · exact h.old j b hj'
  · rcases key j b hj with ⟨rfl, rfl⟩ | hj'
    · show (if c = c then _ else _) = _; rw [if_pos rfl]
    · show (if b.cell = c then _ else _) = _; rw [if_neg (hn j b hj')]; exact h.hit j b hj'
  · obtain ⟨h1, h2⟩ := none d hd
    show (if d = c then _ else _) = _; rw [if_neg h1]; exact h.miss d h2
  · show updE f.ev c x b.cell = b.word
    rcases key j b hj with ⟨rfl, rfl⟩ | hj'
    · unfold updE; rw [if_pos rfl]
    · unfold updE; rw [if_neg (hn j b hj')]; exact h.ev1 j b hj' hb
  · obtain ⟨h1, h2⟩ := none v hd
    show updE f.ev c x v = 0
    unfold updE; rw [if_neg h1]; exact h.ev0 v hvv h2
  · rcases key j b hj with ⟨rfl, rfl⟩ | hj'
    · have : c = G.vars.length + q := hq
      omega
    · exact h.ar1 j b hj' q hq
  · rcases key p b hp with ⟨rfl, rfl⟩ | hp'
    · have : c = G.vars.length + u := h1
      omega
    · rcases key q d hq with ⟨rfl, rfl⟩ | hq'
      · have : c = G.vars.length + u' := h2
        omega
      · exact h.apart p q b d u u' y y' hp' hq' h1 h2 hne hw1 hw2
/-- A setting more: an array's, with room for its elements. -/
theorem Seg.room {G : Gr} {F0 F : Nat → Nat} {k r : Nat} {sg : List Sg} {rs : List Int} {f : Fr} (h : Seg G F0 F k r sg rs f) {u : Nat} (hu : G.vars.length + u < cellsOf G) (hz : szOf G u ≤ 256) (hn : ∀ (i : Nat) (a : Sg), sg[i]? = some a → a.cell ≠ G.vars.length + u) :
    Seg G F0 (fun d => if d = G.vars.length + u then k + sg.length + 1 else F d) k r (sg ++ [⟨G.vars.length + u, F (G.vars.length + u), ((r + rs.length : Nat) : Int)⟩]) (rs ++ List.replicate (szOf G u) 0) f := by
  obtain ⟨c, hcd⟩ : ∃ c, c = G.vars.length + u := ⟨_, rfl⟩
  rw [← hcd] at hu hn ⊢
  obtain ⟨s, hs⟩ : ∃ s : Sg, s = ⟨c, F c, ((r + rs.length : Nat) : Int)⟩ := ⟨_, rfl⟩
  rw [← hs]
  have key : ∀ (j : Nat) (b : Sg), (sg ++ [s])[j]? = some b → (j = sg.length ∧ b = s) ∨ sg[j]? = some b := fun j b hj => by
    rw [List.getElem?_append] at hj
    split at hj
    · exact .inr hj
    · rename_i hl
      have hl2 := (List.getElem?_eq_some_iff.1 hj).1
      have : j - sg.length = 0 := by simp at hl2; omega
      rw [this] at hj
      refine .inl ⟨by omega, by simpa using hj.symm⟩
  have old : ∀ (j : Nat) (b : Sg), sg[j]? = some b → (sg ++ [s])[j]? = some b := fun j b hj => by
    rw [List.getElem?_append_left (List.getElem?_eq_some_iff.1 hj).1]; exact hj
  have last : (sg ++ [s])[sg.length]? = some s := by simp
  have hsc : s.cell = c := by rw [hs]
  have none : ∀ d, (∀ (j : Nat) (b : Sg), (sg ++ [s])[j]? = some b → b.cell ≠ d) → d ≠ c ∧ ∀ (j : Nat) (b : Sg), sg[j]? = some b → b.cell ≠ d := fun d hd =>
    ⟨fun e => hd _ _ last (by rw [hsc]; exact e.symm), fun j b hj => hd j b (old j b hj)⟩
  refine ⟨fun p q b d hp hq e => ?_, fun j b hj => ?_, fun j b hj => ?_, fun j b hj => ?_, fun d hd => ?_, fun j b hj hb => ?_, fun v hvv hd => ?_, fun j b hj q hq => ?_, fun q hd j => ?_, (by have := h.rl; rw [List.length_append, List.length_append, List.length_replicate, List.length_singleton]; omega), fun p q b d y y' z z' hp hq h1 h2 hne hw1 hw2 => ?_⟩
  · rcases key p b hp with ⟨rfl, rfl⟩ | hp' <;> rcases key q d hq with ⟨rfl, rfl⟩ | hq'
    · rfl
    · exact (hn q d hq' (by rw [← e, hsc])).elim
    · exact (hn p b hp' (by rw [e, hsc])).elim
    · exact h.uniq p q b d hp' hq' e
  · rcases key j b hj with ⟨rfl, rfl⟩ | hj'
    · rw [hsc]; exact hu
    · exact h.cell j b hj'
  · rcases key j b hj with ⟨rfl, rfl⟩ | hj'
    · rw [hs]; exact h.miss c hn
    · exact h.old j b hj'
  · rcases key j b hj with ⟨rfl, rfl⟩ | hj'
    · show (if b.cell = c then _ else _) = _; rw [if_pos hsc]
    · show (if b.cell = c then _ else _) = _; rw [if_neg (hn j b hj')]; exact h.hit j b hj'
  · obtain ⟨h1, h2⟩ := none d hd
    show (if d = c then _ else _) = _; rw [if_neg h1]; exact h.miss d h2
  · rcases key j b hj with ⟨rfl, rfl⟩ | hj'
    · exfalso; rw [hsc, hcd] at hb; omega
    · exact h.ev1 j b hj' hb
  · exact h.ev0 v hvv (none v hd).2
  · rcases key j b hj with ⟨rfl, rfl⟩ | hj'
    · have : q = u := by rw [hsc] at hq; omega
      subst this
      refine ⟨rs.length, by rw [hs], by simp, fun j' hj' => ?_⟩
      rw [h.ar0 q (by rw [← hcd]; exact hn) j']
      simp [List.getD, hj']
    · obtain ⟨p, e1, e2, e3⟩ := h.ar1 j b hj' q hq
      refine ⟨p, e1, by rw [List.length_append]; omega, fun j' hj' => ?_⟩
      rw [e3 j' hj']
      simp only [List.getD]
      rw [List.getElem?_append_left (by omega)]
  · exact h.ar0 q (none _ hd).2 j
  · rcases key p b hp with ⟨rfl, rfl⟩ | hp'
    · rcases key q d hq with ⟨rfl, rfl⟩ | hq'
      · exact (hne (by rw [hsc] at h1 h2; omega)).elim
      · obtain ⟨p2, e1, e2, _⟩ := h.ar1 q d hq' y' h2
        have ez : z = rs.length := by rw [hs] at hw1; dsimp only at hw1; omega
        have : p2 = z' := by omega
        omega
    · rcases key q d hq with ⟨rfl, rfl⟩ | hq'
      · obtain ⟨p2, e1, e2, _⟩ := h.ar1 p b hp' y h1
        have ez : z' = rs.length := by rw [hs] at hw2; dsimp only at hw2; omega
        have : p2 = z := by omega
        omega
      · exact h.apart p q b d y y' z z' hp' hq' h1 h2 hne hw1 hw2
/-- Elements are others: those of one array, or none of any. -/
theorem Seg.poke {G : Gr} {F0 F : Nat → Nat} {k r : Nat} {sg : List Sg} {rs rs' : List Int} {f : Fr} (h : Seg G F0 F k r sg rs f) {i : Nat} {a : Sg} (hi : sg[i]? = some a) {u p : Nat} (hu : a.cell = G.vars.length + u) (hw : a.word = ((r + p : Nat) : Int)) (hl : rs'.length = rs.length)
    {e : Nat → Int} (hin : ∀ j, j < szOf G u → e j = rs'.getD (p + j) 0) (hout : ∀ j, (j < p ∨ p + szOf G u ≤ j) → rs'.getD j 0 = rs.getD j 0) :
    Seg G F0 F k r sg rs' { f with ar := fun q j => if q = u then e j else f.ar q j } := by
  refine ⟨h.uniq, h.cell, h.old, h.hit, h.miss, h.ev1, h.ev0, fun j b hj q hq => ?_, fun q hd j => ?_, (by rw [hl]; exact h.rl), h.apart⟩
  · obtain ⟨p2, e1, e2, e3⟩ := h.ar1 j b hj q hq
    by_cases e0 : q = u
    · subst e0
      have : j = i := h.uniq j i b a hj hi (by rw [hq, hu])
      subst this
      rw [hi] at hj
      cases hj
      have : p2 = p := by omega
      subst this
      exact ⟨p2, e1, by omega, fun j' hj' => by show (if q = q then _ else _) = _; rw [if_pos rfl]; exact hin j' hj'⟩
    · refine ⟨p2, e1, by omega, fun j' hj' => ?_⟩
      show (if q = u then _ else _) = _
      rw [if_neg e0, e3 j' hj']
      have := h.apart j i b a q u p2 p hj hi hq hu e0 e1 hw
      rw [hout _ (by omega)]
  · show (if q = u then _ else _) = _
    have : q ≠ u := fun e0 => hd i a hi (by rw [hu, e0])
    rw [if_neg this]
    exact h.ar0 q hd j
end Go.Proofs.YtdgpdmohfnealaaGreatDoor
