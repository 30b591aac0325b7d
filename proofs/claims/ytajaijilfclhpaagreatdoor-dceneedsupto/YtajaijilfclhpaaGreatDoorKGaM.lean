/- Lists lent, with marks behind them: what lies in memory. -/
import Derived.Test.YtajaijilfclhpaaGreatDoorGCp0M
import Derived.Laws.BytesArg
import Derived.Deep.Upon
import Derived.ArgAppend
namespace Go.Proofs.YtajaijilfclhpaaGreatDoor
open Go.RowKit

/-- Nothing has changed but these blocks, and what is new. -/
structure Only (w w' : World) (S : Nat → Prop) : Prop where
 low : Below 0 w w'
 same : ∀ k, k < w.heap.size → ¬ S k → w'.heap[k]? = w.heap[k]?
theorem Only.refl (w : World) (S : Nat → Prop) : Only w w S := ⟨Below.refl _ _, fun _ _ _ => rfl⟩
theorem Only.alloc {w w1 : World} {S : Nat → Prop} (h : Only w w1 S) (o : Obj) : Only w (w1.alloc o) S :=
 ⟨h.low.trans ((below_alloc (Below.refl w1.heap.size w1) o).mono (Nat.zero_le _)), fun k hk hn => ((below_alloc (Below.refl w1.heap.size w1) o).block k (Nat.lt_of_lt_of_le hk h.low.size)).trans (h.same k hk hn)⟩
theorem Only.set {w w1 : World} {S : Nat → Prop} {g : Nat} (h : Only w w1 S) (hS : w.heap.size ≤ g ∨ S g) (o : Nat) (u : Value) : Only w (w1.setCell ⟨g, o, none⟩ u) S :=
 ⟨h.low.setCell (p := ⟨g, o, none⟩) (Nat.zero_le _) _, fun k hk hn => (Below.heap_setCell w1 ⟨g, o, none⟩ u k (fun e => by
  have e' : k = g := e
  subst e'
  rcases hS with h1 | h1
  ·omega
  ·exact hn h1)).trans (h.same k hk hn)⟩
theorem Only.below {w w' : World} {S : Nat → Prop} {b : Nat} (h : Only w w' S) (hb : b ≤ w.heap.size) (hS : ∀ k, S k → b ≤ k) : Below b w w' :=
 ⟨h.low.os, h.low.tape, h.low.output, h.low.size, fun k hk => h.same k (by omega) (fun hs => by have := hS k hs; omega)⟩
theorem Only.after {w w1 w2 : World} {S : Nat → Prop} (h : Only w w1 S) (hb : Below w1.heap.size w1 w2) : Only w w2 S :=
 ⟨h.low.trans (hb.mono (Nat.zero_le _)), fun k hk hn => (hb.block k (Nat.lt_of_lt_of_le hk h.low.size)).trans (h.same k hk hn)⟩
theorem Only.trans {w w1 w2 : World} {S : Nat → Prop} (h : Only w w1 S) (h2 : Only w1 w2 S) : Only w w2 S :=
 ⟨h.low.trans h2.low, fun k hk hn => (h2.same k (Nat.lt_of_lt_of_le hk h.low.size) hn).trans (h.same k hk hn)⟩
theorem Only.mono {w w1 : World} {S S' : Nat → Prop} (h : Only w w1 S) (hs : ∀ k, k < w.heap.size → S k → S' k) : Only w w1 S' := ⟨h.low, fun k hk hn => h.same k hk (fun e => hn (hs k hk e))⟩
abbrev Btw (lo hi k : Nat) : Prop := lo ≤ k ∧ k < hi
def markI (k i : Int) : Int := 1000003 * (k + 7) + i
/-- Elements 0 to n - 1 by f, cell by cell. -/
def mksL (f : Int → List Value) (n : Nat) : List Value := (List.range n).flatMap fun (i : Nat) => f (i : Int)
theorem mksL_succ (f : Int → List Value) (n : Nat) : mksL f (n + 1) = mksL f n ++ f (n : Int) := by simp [mksL, List.range_succ]
theorem mksL_len {f : Int → List Value} {s : Nat} (h : ∀ i, (f i).length = s) : ∀ n, (mksL f n).length = n * s
 | 0 => by simp [mksL]
 | n + 1 => by rw [mksL_succ, List.length_append, mksL_len h n, h, Nat.succ_mul]
theorem mksL_get {f : Int → List Value} {s : Nat} (h : ∀ i, (f i).length = s) {i j : Nat} (hj : j < s) : ∀ n, i < n → (mksL f n)[i * s + j]? = (f (i : Int))[j]?
 | 0, hi => by omega
 | n + 1, hi => by
  have hl := mksL_len h n
  rw [mksL_succ]
  by_cases e : i = n
  ·subst e
   rw [List.getElem?_append_right (by omega), hl, Nat.add_sub_cancel_left]
  ·have : (i + 1) * s ≤ n * s := Nat.mul_le_mul_right s (by omega)
   rw [Nat.succ_mul] at this
   rw [List.getElem?_append_left (by omega)]
   exact mksL_get h hj n (by omega)
/-- A list lent: a row of its own, twelve marks behind it. -/
structure RowL (w : World) (lo hi : Nat) (ty : TypeId) (sz : Nat) (f : Int → List Value) (v : Value) (n : Nat) (cs : List Value) (g cap : Nat) : Prop where
 eq : v = .slice (some ⟨g, 0, none⟩) n cap
 own : w.ownsRow lo ty sz (.slice (some ⟨g, 0, none⟩) (n + 12) cap) (n + 12) (cs ++ mksL f 12)
 len : cs.length = n * sz
 up : g < hi
theorem RowL.room {w : World} {lo hi : Nat} {ty : TypeId} {sz : Nat} {f : Int → List Value} {v : Value} {n : Nat} {cs : List Value} {g cap : Nat} (h : RowL w lo hi ty sz f v n cs g cap) : n + 12 ≤ cap ∧ cap ≤ maxLen ∧ lo ≤ g ∧ g < w.heap.size := by
 obtain ⟨g', cap', hv, h1, h2, h3, h4⟩ := own_form (n := n + 11) h.own
 cases hv
 exact ⟨h3, h4, h1, h2⟩
theorem RowL.same {w w' : World} {lo hi : Nat} {ty : TypeId} {sz : Nat} {f : Int → List Value} {v : Value} {n : Nat} {cs : List Value} {g cap : Nat} (h : RowL w lo hi ty sz f v n cs g cap) (hk : w'.heap[g]? = w.heap[g]?) : RowL w' lo hi ty sz f v n cs g cap :=
 ⟨h.eq, owns_same h.own fun k e => by cases e; exact hk, h.len, h.up⟩
theorem RowL.mono {w : World} {lo hi lo' hi' : Nat} {ty : TypeId} {sz : Nat} {f : Int → List Value} {v : Value} {n : Nat} {cs : List Value} {g cap : Nat} (h : RowL w lo hi ty sz f v n cs g cap) (h1 : lo' ≤ lo) (h2 : hi ≤ hi') : RowL w lo' hi' ty sz f v n cs g cap :=
 ⟨h.eq, own_mono h.own h1, h.len, Nat.lt_of_lt_of_le h.up h2⟩
theorem RowL.row {w : World} {lo hi : Nat} {ty : TypeId} {sz : Nat} {f : Int → List Value} {v : Value} {n : Nat} {cs : List Value} {g cap : Nat} (h : RowL w lo hi ty sz f v n cs g cap) (hn : n ≤ 2000000) : RowAt w v n cs := by
 have hr := h.room
 refine ⟨_, _, h.eq, ⟨by omega, by omega⟩, .inr ⟨g, 0, rfl, hr.2.2.2, fun j u hj => ?_⟩⟩
 have hl : j < cs.length := (List.getElem?_eq_some_iff.1 hj).1
 rw [Nat.zero_add, h.own.cellAt j (by have := h.len; rw [Nat.add_mul]; omega), List.getElem?_append_left hl]
 exact hj
theorem RowL.cell {w : World} {lo hi : Nat} {ty : TypeId} {sz : Nat} {f : Int → List Value} {v : Value} {n : Nat} {cs : List Value} {g cap : Nat} (h : RowL w lo hi ty sz f v n cs g cap) {i j : Nat} (hi : i < n) (hj : j < sz) : w.cell? ⟨g, i * sz + j, none⟩ = cs[i * sz + j]? := by
 have e : (i + 1) * sz ≤ n * sz := Nat.mul_le_mul_right sz (by omega)
 rw [Nat.succ_mul] at e
 rw [h.own.cellAt _ (by rw [Nat.add_mul]; omega), List.getElem?_append_left (by have := h.len; omega)]
theorem RowL.mark {w : World} {lo hi : Nat} {ty : TypeId} {sz : Nat} {f : Int → List Value} {v : Value} {n : Nat} {cs : List Value} {g cap : Nat} (h : RowL w lo hi ty sz f v n cs g cap) (hf : ∀ i, (f i).length = sz) {i j : Nat} (h1 : n ≤ i) (h2 : i < n + 12) (hj : j < sz) : w.cell? ⟨g, i * sz + j, none⟩ = (f ((i : Int) - n))[j]? := by
 obtain ⟨d, rfl⟩ := Nat.exists_eq_add_of_le h1
 have e : (d + 1) * sz ≤ 12 * sz := Nat.mul_le_mul_right sz (by omega)
 rw [Nat.succ_mul] at e
 have e2 : ((n + d : Nat) : Int) - n = (d : Int) := by omega
 rw [h.own.cellAt _ (by rw [Nat.add_mul, Nat.add_mul]; omega), List.getElem?_append_right (by rw [h.len, Nat.add_mul]; omega), h.len, e2, show (n + d) * sz + j - n * sz = d * sz + j by rw [Nat.add_mul]; omega]
 exact mksL_get hf hj 12 (by omega)
/-- Lists within the elements: each in a stretch of blocks of its own, the row's block in none. -/
def KidsL {α κ : Type} (K : Nat → Nat → κ → α → Prop) (lo hi g : Nat) (avs : List κ) (l : List α) : Prop :=
 avs.length = l.length ∧ ∃ a b : Nat → Nat, ∀ (i : Nat) (x : α) (q : κ), l[i]? = some x → avs[i]? = some q → lo ≤ a i ∧ b i ≤ hi ∧ K (a i) (b i) q x ∧ ¬ Btw (a i) (b i) g ∧ ∀ j, j < i → b j ≤ a i
theorem KidsL.imp {α κ : Type} {K K' : Nat → Nat → κ → α → Prop} {lo hi lo' hi' g : Nat} {avs : List κ} {l : List α} (h : KidsL K lo hi g avs l) (h1 : lo' ≤ lo) (h2 : hi ≤ hi') (hk : ∀ (a b : Nat) (q : κ) (x : α), lo ≤ a → b ≤ hi → K a b q x → K' a b q x) : KidsL K' lo' hi' g avs l := by
 obtain ⟨hl, a, b, h⟩ := h
 refine ⟨hl, a, b, fun i x q hx hq => ?_⟩
 obtain ⟨q1, q2, q3, q4, q5⟩ := h i x q hx hq
 exact ⟨Nat.le_trans h1 q1, Nat.le_trans q2 h2, hk _ _ _ _ q1 q2 q3, q4, q5⟩
theorem KidsL.nil {α κ : Type} (K : Nat → Nat → κ → α → Prop) (lo hi g : Nat) : KidsL K lo hi g [] [] := ⟨rfl, fun _ => 0, fun _ => 0, fun i x q h => by simp at h⟩
/-- One more: it lies behind all that were. -/
theorem KidsL.push {α κ : Type} {K : Nat → Nat → κ → α → Prop} {lo hi g g2 lo2 hi2 : Nat} {avs : List κ} {l : List α} {q : κ} {x : α} (h : KidsL K lo hi g avs l) (hk : K lo2 hi2 q x) (h1 : lo ≤ lo2) (h2 : hi ≤ lo2) (h3 : hi ≤ hi2) (hg : ¬ Btw lo2 hi2 g2) (hg2 : g2 = g ∨ hi ≤ g2) : KidsL K lo hi2 g2 (avs ++ [q]) (l ++ [x]) := by
 obtain ⟨hl, a, b, h⟩ := h
 refine ⟨by simp [hl], fun j => if j < l.length then a j else lo2, fun j => if j < l.length then b j else hi2, fun i y p hy hp => ?_⟩
 by_cases e : i < l.length
 ·rw [List.getElem?_append_left e] at hy
  rw [List.getElem?_append_left (by omega)] at hp
  obtain ⟨q1, q2, q3, q4, q5⟩ := h i y p hy hp
  simp only [if_pos e]
  refine ⟨q1, by omega, q3, fun hc => ?_, fun j hj => ?_⟩
  ·rcases hg2 with rfl | hg2
   ·exact q4 hc
   ·have := hc.2; omega
  ·rw [if_pos (by omega)]
   exact q5 j hj
 ·have hi' : i < l.length + 1 := by simpa using (List.getElem?_eq_some_iff.1 hy).1
  obtain rfl : i = l.length := by omega
  rw [List.getElem?_append_right (Nat.le_refl _), Nat.sub_self] at hy
  rw [List.getElem?_append_right (by omega), hl, Nat.sub_self] at hp
  cases hy
  cases hp
  simp only [Nat.lt_irrefl, if_false]
  refine ⟨h1, Nat.le_refl _, hk, hg, fun j hj => ?_⟩
  rw [if_pos hj]
  obtain ⟨q1, q2, q3, q4, q5⟩ := h j l[j] (avs[j]'(by omega)) (List.getElem?_eq_getElem hj) (List.getElem?_eq_getElem (by omega))
  omega
/-- Lists of numbers, of types, of arrays, of instructions, of blocks, of graphs, lent. -/
abbrev mkI (k i : Int) : List Value := [intV (markI k i)]
abbrev mkT (k i : Int) : List Value := [bytV (markI k i % 256)]
abbrev mkA (k i : Int) : List Value := [bytV 0, intV (markI k i)]
abbrev mkN (k i : Int) : List Value := [bytV 0, bytV 0, intV (markI k i), .slice none 0 0, .int .u64 0, intV 0]
abbrev mkB (k i : Int) : List Value := [.slice none 0 0, bytV 0, intV (markI k i), intV 0, intV 0, bytV 0]
def textM (k i : Int) : ByteArray := strOfNums [35, k % 256, k / 256 % 256, k / 65536, 47, i % 256, i / 256 % 256, i / 65536 % 256]
abbrev mkG (k i : Int) : List Value := [.string (textM k i), .slice none 0 0, bytV 0, .slice none 0 0, .slice none 0 0, .slice none 0 0]
structure LentI (w : World) (lo hi : Nat) (v : Value) (l : List Int) : Prop where
 ex : ∃ g cap, RowL w lo hi 3 1 (mkI 1) v l.length (l.map intV) g cap
structure LentT (w : World) (lo hi : Nat) (v : Value) (l : List Int) : Prop where
 ex : ∃ g cap, RowL w lo hi 23 1 (mkT 1) v l.length (l.map bytV) g cap
structure LentA (w : World) (lo hi : Nat) (v : Value) (l : List (Int × Int)) : Prop where
 ex : ∃ g cap, RowL w lo hi 50 2 (mkA 1) v l.length (arrCells l) g cap
structure LentN (w : World) (lo hi : Nat) (v : Value) (l : List In) : Prop where
 wf : ∀ x ∈ l, 0 ≤ x.bits ∧ x.bits < 18446744073709551616
 row : ∃ g cap avs, RowL w lo hi 55 6 (mkN 1) v l.length (insCells l avs) g cap ∧ KidsL (fun a b q (x : In) => LentI w a b q x.args) lo hi g avs l
structure LentB (w : World) (lo hi : Nat) (v : Value) (l : List Bl) : Prop where
 row : ∃ g cap avs, RowL w lo hi 63 6 (mkB 1) v l.length (blsCells l avs) g cap ∧ KidsL (fun a b q (x : Bl) => LentN w a b q x.ins) lo hi g avs l
abbrev V4 := Value × Value × Value × Value
/-- A graph lent: its four lists one behind the other. -/
structure LentG1 (w : World) (lo hi : Nat) (q : V4) (x : Gr) : Prop where
 ex : ∃ m1 m2 m3, LentI w lo m1 q.1 x.params ∧ LentT w m1 m2 q.2.1 x.vars ∧ LentA w m2 m3 q.2.2.1 x.arrs ∧ LentB w m3 hi q.2.2.2 x.blocks ∧ lo ≤ m1 ∧ m1 ≤ m2 ∧ m2 ≤ m3 ∧ m3 ≤ hi
structure LentG (w : World) (lo hi : Nat) (v : Value) (l : List Gr) : Prop where
 row : ∃ g cap qs, RowL w lo hi 28 6 (mkG 1) v l.length (grsCells l qs) g cap ∧ KidsL (fun a b q (x : Gr) => LentG1 w a b q x) lo hi g qs l
/-- What stands in a stretch of blocks stands as long as they do. -/
abbrev Stands (lo hi : Nat) (w w' : World) : Prop := ∀ k, lo ≤ k → k < hi → k < w.heap.size → w'.heap[k]? = w.heap[k]?
theorem Stands.of {lo hi : Nat} {w w' : World} (h : Below w.heap.size w w') : Stands lo hi w w' := fun k _ _ hk => h.block k hk
theorem Stands.only {lo hi : Nat} {w w' : World} {S : Nat → Prop} (h : Only w w' S) (hS : ∀ k, lo ≤ k → k < hi → ¬ S k) : Stands lo hi w w' := fun k h1 h2 hk => h.same k hk (hS k h1 h2)
theorem Stands.sub {lo hi lo' hi' : Nat} {w w' : World} (h : Stands lo hi w w') (h1 : lo ≤ lo') (h2 : hi' ≤ hi) : Stands lo' hi' w w' := fun k q1 q2 hk => h k (Nat.le_trans h1 q1) (Nat.lt_of_lt_of_le q2 h2) hk
theorem RowL.stands {w w' : World} {lo hi : Nat} {ty : TypeId} {sz : Nat} {f : Int → List Value} {v : Value} {n : Nat} {cs : List Value} {g cap : Nat} (h : RowL w lo hi ty sz f v n cs g cap) (hs : Stands lo hi w w') : RowL w' lo hi ty sz f v n cs g cap :=
 h.same (hs g h.room.2.2.1 h.up h.room.2.2.2)
theorem LentI.stands {w w' : World} {lo hi : Nat} {v : Value} {l : List Int} (h : LentI w lo hi v l) (hs : Stands lo hi w w') : LentI w' lo hi v l := by
 obtain ⟨g, cap, h⟩ := h
 exact ⟨g, cap, h.stands hs⟩
theorem LentT.stands {w w' : World} {lo hi : Nat} {v : Value} {l : List Int} (h : LentT w lo hi v l) (hs : Stands lo hi w w') : LentT w' lo hi v l := by
 obtain ⟨g, cap, h⟩ := h
 exact ⟨g, cap, h.stands hs⟩
theorem LentA.stands {w w' : World} {lo hi : Nat} {v : Value} {l : List (Int × Int)} (h : LentA w lo hi v l) (hs : Stands lo hi w w') : LentA w' lo hi v l := by
 obtain ⟨g, cap, h⟩ := h
 exact ⟨g, cap, h.stands hs⟩
theorem LentN.stands {w w' : World} {lo hi : Nat} {v : Value} {l : List In} (h : LentN w lo hi v l) (hs : Stands lo hi w w') : LentN w' lo hi v l := by
 obtain ⟨g, cap, avs, h1, h2⟩ := h.row
 exact ⟨h.wf, g, cap, avs, h1.stands hs, h2.imp (Nat.le_refl _) (Nat.le_refl _) fun a b q x ha hb hk => hk.stands (hs.sub ha hb)⟩
theorem LentB.stands {w w' : World} {lo hi : Nat} {v : Value} {l : List Bl} (h : LentB w lo hi v l) (hs : Stands lo hi w w') : LentB w' lo hi v l := by
 obtain ⟨g, cap, avs, h1, h2⟩ := h.row
 exact ⟨g, cap, avs, h1.stands hs, h2.imp (Nat.le_refl _) (Nat.le_refl _) fun a b q x ha hb hk => hk.stands (hs.sub ha hb)⟩
theorem LentG1.stands {w w' : World} {lo hi : Nat} {q : V4} {x : Gr} (h : LentG1 w lo hi q x) (hs : Stands lo hi w w') : LentG1 w' lo hi q x := by
 obtain ⟨m1, m2, m3, h1, h2, h3, h4, l1, l2, l3, l4⟩ := h.ex
 exact ⟨m1, m2, m3, h1.stands (hs.sub (by omega) (by omega)), h2.stands (hs.sub (by omega) (by omega)), h3.stands (hs.sub (by omega) (by omega)), h4.stands (hs.sub (by omega) (by omega)), l1, l2, l3, l4⟩
theorem LentG.stands {w w' : World} {lo hi : Nat} {v : Value} {l : List Gr} (h : LentG w lo hi v l) (hs : Stands lo hi w w') : LentG w' lo hi v l := by
 obtain ⟨g, cap, avs, h1, h2⟩ := h.row
 exact ⟨g, cap, avs, h1.stands hs, h2.imp (Nat.le_refl _) (Nat.le_refl _) fun a b q x ha hb hk => hk.stands (hs.sub ha hb)⟩
theorem LentI.at' {w : World} {lo hi : Nat} {v : Value} {l : List Int} (h : LentI w lo hi v l) (hn : l.length ≤ 2000000) : IntsAt w v l := by
 obtain ⟨g, cap, h⟩ := h
 exact h.row hn
theorem LentT.at' {w : World} {lo hi : Nat} {v : Value} {l : List Int} (h : LentT w lo hi v l) (hn : l.length ≤ 2000000) : TysAt w v l := by
 obtain ⟨g, cap, h⟩ := h
 exact h.row hn
theorem LentA.at' {w : World} {lo hi : Nat} {v : Value} {l : List (Int × Int)} (h : LentA w lo hi v l) (hn : l.length ≤ 2000000) : ArrsAt w v l := by
 obtain ⟨g, cap, h⟩ := h
 exact h.row hn
/-- How long the lists are. -/
def SzN (l : List In) : Prop := l.length ≤ 1100000 ∧ ∀ x ∈ l, x.args.length ≤ 1100000
def SzB (l : List Bl) : Prop := l.length ≤ 1100000 ∧ ∀ x ∈ l, SzN x.ins
structure SzG (x : Gr) : Prop where
 ps : x.params.length ≤ 1100000
 vs : x.vars.length ≤ 1100000
 ars : x.arrs.length ≤ 1100000
 bs : SzB x.blocks
theorem LentN.at' {w : World} {lo hi : Nat} {v : Value} {l : List In} (h : LentN w lo hi v l) (hn : SzN l) : InsAt w v l := by
 obtain ⟨g, cap, avs, h1, hl, a, b, h2⟩ := h.row
 exact ⟨h.wf, avs, hl, h1.row (by have := hn.1; omega), fun i x q hx hq => ((h2 i x q hx hq).2.2.1).at' (by have := hn.2 x (List.mem_of_getElem? hx); omega)⟩
theorem LentB.at' {w : World} {lo hi : Nat} {v : Value} {l : List Bl} (h : LentB w lo hi v l) (hn : SzB l) : BlsAt w v l := by
 obtain ⟨g, cap, avs, h1, hl, a, b, h2⟩ := h.row
 exact ⟨avs, hl, h1.row (by have := hn.1; omega), fun i x q hx hq => ((h2 i x q hx hq).2.2.1).at' (hn.2 x (List.mem_of_getElem? hx))⟩
theorem LentG1.at' {w : World} {lo hi : Nat} {q : V4} {x : Gr} (h : LentG1 w lo hi q x) (hn : SzG x) : GrAt w q.1 q.2.1 q.2.2.1 q.2.2.2 x := by
 obtain ⟨m1, m2, m3, h1, h2, h3, h4, _⟩ := h.ex
 exact ⟨h1.at' (by have := hn.ps; omega), h2.at' (by have := hn.vs; omega), h3.at' (by have := hn.ars; omega), h4.at' hn.bs⟩
theorem LentG.at' {w : World} {lo hi : Nat} {v : Value} {l : List Gr} (h : LentG w lo hi v l) (hl : l.length ≤ 1100000) (hn : ∀ x ∈ l, SzG x) : GrsAt w v l := by
 obtain ⟨g, cap, avs, h1, hl', a, b, h2⟩ := h.row
 exact ⟨avs, hl', h1.row (by omega), fun i x q hx hq => ((h2 i x q hx hq).2.2.1).at' (hn x (List.mem_of_getElem? hx))⟩
end Go.Proofs.YtajaijilfclhpaaGreatDoor
/- Lists copied: numbers, types, arrays. -/
namespace Go.Proofs.YtajaijilfclhpaaGreatDoor
open Go.RowKit

theorem wpList_append_none {P : Program} (w : World) {ops : Array Oper} {rest : List Oper} {o : Oper} {a : Act} {Q : Exit → Act → World → Prop}
  (hg : o.guard = none) (s x : Operand) (t : TypeId) (hop : o.op = Op.call { callee := Callee.builtin Builtin.append, args := #[s, x], argTypes := #[t, t] }) (v y : Value) (hs : a.eval s = v) (hx : a.eval x = y)
  (hrun : (Builtin.append_ #[t, t] o.type #[v, y]).run P w = .ok v w) (hK : wpList P ops Q rest (a.put o.dst v) w) : wpList P ops Q (o :: rest) a w := by
 refine wpList_plain hg fun K hK' => ?_
 unfold Oper.wp
 simp [execOp, hop, resolve, invoke, builtin, hs, hx, hrun, Result.andThen]
 exact hK' _ _ hK
theorem info_copyT : (Tryz.prog.info? 23).map (fun i => (i.zero, i.size, i.bytes)) = some (some (.int .u8 0), 1, 1) := by kernel_rfl
theorem info_copyA : (Tryz.prog.info? 50).map (fun i => (i.zero, i.size, i.bytes)) = some (some (.agg #[.int .u8 0, .int .i64 0]), 2, 16) := by kernel_rfl
end Go.Proofs.YtajaijilfclhpaaGreatDoor
/- Rows made with room; what is put behind; marks. -/
namespace Go.Proofs.YtajaijilfclhpaaGreatDoor
open Go.RowKit

theorem append_nothing {t e : TypeId} {i : TypeInfo} (ht : Tryz.prog.underlying t = some (.slice e)) (hi : Tryz.prog.info? e = some i) (va : Option Addr) (n vc : Nat) (hc : n ≤ vc) (a : Option Addr) (c2 : Nat) (W : World) : (Builtin.append_ #[t, t] t #[.slice va n vc, .slice a 0 c2]).run Tryz.prog W = .ok (.slice va n vc) W := by
 refine run_append_nothing W t t t e i ht hi va n vc hc _ ?_
 refine ⟨.inl ⟨_, ht⟩, fun w' => by simp [Builtin.lenOf], ?_, ?_, by simp, by simp⟩
 ·cases a with
  | none => simp [Builtin.firstCells]
  | some a => simp [Builtin.firstCells]; first | rfl | simp [loadCells]
 ·cases a with
  | none => simp [Builtin.firstCells]
  | some a => simp [Builtin.firstCells]; first | rfl | simp [loadCells]
/-- A row, wherever it lies, put behind a row of one's own. -/
theorem wpList_appendC (w : World) {ops : Array Oper} {rest : List Oper} {o : Oper} {a : Act} {Q : Exit → Act → World → Prop} (hg : o.guard = none) (s x : Operand) (t : TypeId) (hop : o.op = Op.call { callee := Callee.builtin Builtin.append, args := #[s, x], argTypes := #[t, t] }) (hty : o.type = t)
  (base : Nat) (e : TypeId) (i : TypeInfo) (z : Value) (size bytes : Nat) (ht : Tryz.prog.underlying t = some (.slice e)) (hi : Tryz.prog.info? e = some i) (hz : i.zero = some z) (hsize : i.size = size) (hby : i.bytes = bytes) (hzs : z.cells.size = size) (hsz : 0 < size)
  (v : Value) (n : Nat) (xs : List Value) (hs : a.eval s = v) (hown : w.ownsRow base e size v n xs) (ya : Option Addr) (m c : Nat) (cs : List Value) (hx : a.eval x = .slice ya m c) (hy : RowAt w (.slice ya m c) m cs) (hl : cs.length = m * size) (h1 : ∀ u ∈ cs, u.oneCell' = true)
  (h63 : n + m ≤ maxLen) (hbytes : (n + m) * bytes ≤ 140737488355328) (hbase : base ≤ w.heap.size)
  (hK : ∀ v' w', w'.ownsRow base e size v' (n + m) (xs ++ cs) → w.grownBy w' v.ownBlock → wpList Tryz.prog ops Q rest (a.put o.dst v') w') : wpList Tryz.prog ops Q (o :: rest) a w := by
 by_cases h0 : m = 0
 ·subst h0
  have e0 : cs = [] := List.eq_nil_of_length_eq_zero (by simpa using hl)
  subst e0
  have hk := hK v w (by simpa using hown) ⟨rfl, rfl, rfl, Nat.le_refl _, fun _ _ _ => rfl⟩
  rcases own_shape hown with ⟨e1, e2⟩ | ⟨g, cc, e1, e2, _⟩
  ·subst e1
   subst e2
   exact wpList_append_none w hg s x t hop _ _ hs hx (by rw [hty]; exact append_nothing ht hi none 0 0 (Nat.le_refl _) ya c w) hk
  ·subst e1
   exact wpList_append_none w hg s x t hop _ _ hs hx (by rw [hty]; exact append_nothing ht hi _ n cc e2 ya c w) hk
 ·obtain ⟨a', c', hv, _, hc⟩ := hy
  injection hv with e1 e2 e3
  subst e1
  rcases hc with h0' | ⟨g, o, ea, hgl, hc⟩
  ·exact absurd h0' h0
  ·subst ea
   exact wpList_append_own_at w hg s x t hop base e i z size bytes ht hi hz hsize hby hzs hsz v n xs hs hown ⟨g, o, none⟩ m c cs hx hl (fun j u hj => by rw [Addr.add_lit]; exact hc j u hj) h1 h63 hbytes hbase (fun v' w' q1 q2 _ _ => hK v' w' q1 q2)
theorem tys_oneK (l : List Int) : ∀ u ∈ l.map bytV, u.oneCell' = true := fun u hu => by obtain ⟨x, _, rfl⟩ := List.mem_map.1 hu; rfl
theorem arrs_oneK : ∀ (l : List (Int × Int)), ∀ u ∈ arrCells l, u.oneCell' = true
 | [], u, hu => by simp [arrCells] at hu
 | x :: l, u, hu => by
  simp [arrCells] at hu
  rcases hu with rfl | rfl | hu
  ·rfl
  ·rfl
  ·exact arrs_oneK l u hu
theorem arrs_lenK : ∀ (l : List (Int × Int)), (arrCells l).length = l.length * 2
 | [] => rfl
 | x :: l => by rw [arrCells, List.length_cons, List.length_cons, arrs_lenK l, List.length_cons]; omega
theorem mark_any (k i : Int) (h1 : 0 ≤ k) (h2 : k ≤ 2000000) (h3 : 0 ≤ i) (h4 : i ≤ 1000000000) (w : World) : Calls Tryz.prog 49 #[.int .i64 k, .int .i64 i] w fun e w' => e = .returned (.int .i64 (markI k i)) ∧ w = w' := by
 go_enter Tryz.func49, Tryz.ntmps49
 go_wp2
 go_ret
 exact ⟨rfl, rfl⟩
theorem infoKI : (Tryz.prog.info? 3).map (fun i => (i.zero, i.size, i.bytes)) = some (some (.int .i64 0), 1, 8) := by kernel_rfl
theorem roomKI (n : Nat) (hn : n ≤ 2000000) : ∃ O : Obj, (∀ W : World, (Instr.makeSlice 22 (.int .i64 0) (.int .i64 ((n : Int) + 12))).run Tryz.prog W = .ok (.slice (some ⟨W.heap.size, 0, none⟩) 0 (n + 12)) (W.alloc O)) ∧ ∀ W : World, (W.alloc O).ownsRow W.heap.size 3 1 (.slice (some ⟨W.heap.size, 0, none⟩) 0 (n + 12)) 0 [] := by
 obtain ⟨i0, hi0, hz0, hz1, hz2⟩ := info_parts infoKI
 refine ⟨.cells (madeCells #[.int .i64 0] ((n + 12) * 1)) 3, fun W => ?_, fun W => World.ownsRow_made W _ (n + 12) (Nat.le_refl _) (by unfold maxLen; omega) (by simp [size_madeCells])⟩
 have hr := run_make (P := Tryz.prog) W 22 3 i0 (.int .i64 0) Tryz.underlying22 hi0 hz0 .i64 .i64 0 ((n : Int) + 12) (Int.le_refl _) (by omega) (by rw [hz2]; omega) (by omega)
 have e1 : ((n : Int) + 12).toNat = n + 12 := by omega
 rw [e1, hz1] at hr
 exact hr
theorem cutKI {g m c f : Nat} (hf : f ≤ c) : ∀ W, (Instr.slice 22 (.slice (some ⟨g, 0, none⟩) m c) none (some (.int .i64 (f : Int))) none).run Tryz.prog W = .ok (.slice (some ⟨g, 0, none⟩) f c) W := fun W => by
 have hs : ∀ W : World, (sizeOf (Tryz.prog.elem 22)).run Tryz.prog W = .ok 1 W := fun W => by kernel_rfl
 have hu : Tryz.prog.underlying 22 = some (.slice (Tryz.prog.elem 22)) := by kernel_rfl
 rw [run_slice_h W 22 _ m c hu .i64 f (by omega) (by omega), hs]
 simp [Result.andThen, sliced, Addr.add]
theorem infoKT : (Tryz.prog.info? 23).map (fun i => (i.zero, i.size, i.bytes)) = some (some (.int .u8 0), 1, 1) := by kernel_rfl
theorem roomKT (n : Nat) (hn : n ≤ 2000000) : ∃ O : Obj, (∀ W : World, (Instr.makeSlice 24 (.int .i64 0) (.int .i64 ((n : Int) + 12))).run Tryz.prog W = .ok (.slice (some ⟨W.heap.size, 0, none⟩) 0 (n + 12)) (W.alloc O)) ∧ ∀ W : World, (W.alloc O).ownsRow W.heap.size 23 1 (.slice (some ⟨W.heap.size, 0, none⟩) 0 (n + 12)) 0 [] := by
 obtain ⟨i0, hi0, hz0, hz1, hz2⟩ := info_parts infoKT
 refine ⟨.cells (madeCells #[.int .u8 0] ((n + 12) * 1)) 23, fun W => ?_, fun W => World.ownsRow_made W _ (n + 12) (Nat.le_refl _) (by unfold maxLen; omega) (by simp [size_madeCells])⟩
 have hr := run_make (P := Tryz.prog) W 24 23 i0 (.int .u8 0) Tryz.underlying24 hi0 hz0 .i64 .i64 0 ((n : Int) + 12) (Int.le_refl _) (by omega) (by rw [hz2]; omega) (by omega)
 have e1 : ((n : Int) + 12).toNat = n + 12 := by omega
 rw [e1, hz1] at hr
 exact hr
theorem cutKT {g m c f : Nat} (hf : f ≤ c) : ∀ W, (Instr.slice 24 (.slice (some ⟨g, 0, none⟩) m c) none (some (.int .i64 (f : Int))) none).run Tryz.prog W = .ok (.slice (some ⟨g, 0, none⟩) f c) W := fun W => by
 have hs : ∀ W : World, (sizeOf (Tryz.prog.elem 24)).run Tryz.prog W = .ok 1 W := fun W => by kernel_rfl
 have hu : Tryz.prog.underlying 24 = some (.slice (Tryz.prog.elem 24)) := by kernel_rfl
 rw [run_slice_h W 24 _ m c hu .i64 f (by omega) (by omega), hs]
 simp [Result.andThen, sliced, Addr.add]
theorem infoKA : (Tryz.prog.info? 50).map (fun i => (i.zero, i.size, i.bytes)) = some (some (.agg #[.int .u8 0, .int .i64 0]), 2, 16) := by kernel_rfl
theorem roomKA (n : Nat) (hn : n ≤ 2000000) : ∃ O : Obj, (∀ W : World, (Instr.makeSlice 25 (.int .i64 0) (.int .i64 ((n : Int) + 12))).run Tryz.prog W = .ok (.slice (some ⟨W.heap.size, 0, none⟩) 0 (n + 12)) (W.alloc O)) ∧ ∀ W : World, (W.alloc O).ownsRow W.heap.size 50 2 (.slice (some ⟨W.heap.size, 0, none⟩) 0 (n + 12)) 0 [] := by
 obtain ⟨i0, hi0, hz0, hz1, hz2⟩ := info_parts infoKA
 refine ⟨.cells (madeCells #[.int .u8 0, .int .i64 0] ((n + 12) * 2)) 50, fun W => ?_, fun W => World.ownsRow_made W _ (n + 12) (Nat.le_refl _) (by unfold maxLen; omega) (by simp [size_madeCells])⟩
 have hr := run_make (P := Tryz.prog) W 25 50 i0 (.agg #[.int .u8 0, .int .i64 0]) Tryz.underlying25 hi0 hz0 .i64 .i64 0 ((n : Int) + 12) (Int.le_refl _) (by omega) (by rw [hz2]; omega) (by omega)
 have e1 : ((n : Int) + 12).toNat = n + 12 := by omega
 rw [e1, hz1] at hr
 exact hr
theorem cutKA {g m c f : Nat} (hf : f ≤ c) : ∀ W, (Instr.slice 25 (.slice (some ⟨g, 0, none⟩) m c) none (some (.int .i64 (f : Int))) none).run Tryz.prog W = .ok (.slice (some ⟨g, 0, none⟩) f c) W := fun W => by
 have hs : ∀ W : World, (sizeOf (Tryz.prog.elem 25)).run Tryz.prog W = .ok 2 W := fun W => by kernel_rfl
 have hu : Tryz.prog.underlying 25 = some (.slice (Tryz.prog.elem 25)) := by kernel_rfl
 rw [run_slice_h W 25 _ m c hu .i64 f (by omega) (by omega), hs]
 simp [Result.andThen, sliced, Addr.add]
theorem infoKN : (Tryz.prog.info? 55).map (fun i => (i.zero, i.size, i.bytes)) = some (some (.agg #[.int .u8 0, .int .u8 0, .int .i64 0, .slice none 0 0, .int .u64 0, .int .i64 0]), 6, 56) := by kernel_rfl
theorem roomKN (n : Nat) (hn : n ≤ 2000000) : ∃ O : Obj, (∀ W : World, (Instr.makeSlice 56 (.int .i64 0) (.int .i64 ((n : Int) + 12))).run Tryz.prog W = .ok (.slice (some ⟨W.heap.size, 0, none⟩) 0 (n + 12)) (W.alloc O)) ∧ ∀ W : World, (W.alloc O).ownsRow W.heap.size 55 6 (.slice (some ⟨W.heap.size, 0, none⟩) 0 (n + 12)) 0 [] := by
 obtain ⟨i0, hi0, hz0, hz1, hz2⟩ := info_parts infoKN
 refine ⟨.cells (madeCells #[.int .u8 0, .int .u8 0, .int .i64 0, .slice none 0 0, .int .u64 0, .int .i64 0] ((n + 12) * 6)) 55, fun W => ?_, fun W => World.ownsRow_made W _ (n + 12) (Nat.le_refl _) (by unfold maxLen; omega) (by simp [size_madeCells])⟩
 have hr := run_make (P := Tryz.prog) W 56 55 i0 (.agg #[.int .u8 0, .int .u8 0, .int .i64 0, .slice none 0 0, .int .u64 0, .int .i64 0]) Tryz.underlying56 hi0 hz0 .i64 .i64 0 ((n : Int) + 12) (Int.le_refl _) (by omega) (by rw [hz2]; omega) (by omega)
 have e1 : ((n : Int) + 12).toNat = n + 12 := by omega
 rw [e1, hz1] at hr
 exact hr
theorem cutKN {g m c f : Nat} (hf : f ≤ c) : ∀ W, (Instr.slice 56 (.slice (some ⟨g, 0, none⟩) m c) none (some (.int .i64 (f : Int))) none).run Tryz.prog W = .ok (.slice (some ⟨g, 0, none⟩) f c) W := fun W => by
 have hs : ∀ W : World, (sizeOf (Tryz.prog.elem 56)).run Tryz.prog W = .ok 6 W := fun W => by kernel_rfl
 have hu : Tryz.prog.underlying 56 = some (.slice (Tryz.prog.elem 56)) := by kernel_rfl
 rw [run_slice_h W 56 _ m c hu .i64 f (by omega) (by omega), hs]
 simp [Result.andThen, sliced, Addr.add]
theorem infoKB : (Tryz.prog.info? 63).map (fun i => (i.zero, i.size, i.bytes)) = some (some (.agg #[.slice none 0 0, .int .u8 0, .int .i64 0, .int .i64 0, .int .i64 0, .int .u8 0]), 6, 64) := by kernel_rfl
theorem roomKB (n : Nat) (hn : n ≤ 2000000) : ∃ O : Obj, (∀ W : World, (Instr.makeSlice 26 (.int .i64 0) (.int .i64 ((n : Int) + 12))).run Tryz.prog W = .ok (.slice (some ⟨W.heap.size, 0, none⟩) 0 (n + 12)) (W.alloc O)) ∧ ∀ W : World, (W.alloc O).ownsRow W.heap.size 63 6 (.slice (some ⟨W.heap.size, 0, none⟩) 0 (n + 12)) 0 [] := by
 obtain ⟨i0, hi0, hz0, hz1, hz2⟩ := info_parts infoKB
 refine ⟨.cells (madeCells #[.slice none 0 0, .int .u8 0, .int .i64 0, .int .i64 0, .int .i64 0, .int .u8 0] ((n + 12) * 6)) 63, fun W => ?_, fun W => World.ownsRow_made W _ (n + 12) (Nat.le_refl _) (by unfold maxLen; omega) (by simp [size_madeCells])⟩
 have hr := run_make (P := Tryz.prog) W 26 63 i0 (.agg #[.slice none 0 0, .int .u8 0, .int .i64 0, .int .i64 0, .int .i64 0, .int .u8 0]) Tryz.underlying26 hi0 hz0 .i64 .i64 0 ((n : Int) + 12) (Int.le_refl _) (by omega) (by rw [hz2]; omega) (by omega)
 have e1 : ((n : Int) + 12).toNat = n + 12 := by omega
 rw [e1, hz1] at hr
 exact hr
theorem cutKB {g m c f : Nat} (hf : f ≤ c) : ∀ W, (Instr.slice 26 (.slice (some ⟨g, 0, none⟩) m c) none (some (.int .i64 (f : Int))) none).run Tryz.prog W = .ok (.slice (some ⟨g, 0, none⟩) f c) W := fun W => by
 have hs : ∀ W : World, (sizeOf (Tryz.prog.elem 26)).run Tryz.prog W = .ok 6 W := fun W => by kernel_rfl
 have hu : Tryz.prog.underlying 26 = some (.slice (Tryz.prog.elem 26)) := by kernel_rfl
 rw [run_slice_h W 26 _ m c hu .i64 f (by omega) (by omega), hs]
 simp [Result.andThen, sliced, Addr.add]
end Go.Proofs.YtajaijilfclhpaaGreatDoor
