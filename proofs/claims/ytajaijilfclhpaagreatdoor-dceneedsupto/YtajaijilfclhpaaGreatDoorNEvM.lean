/- An instruction copied. -/
import Derived.Test.YtajaijilfclhpaaGreatDoorKGaM
import Derived.Test.YtajaijilfclhpaaGreatDoorGOpUM
namespace Go.Proofs.YtajaijilfclhpaaGreatDoor
open Go.RowKit

theorem ints_one (l : List Int) : ∀ u ∈ l.map intV, u.oneCell' = true := fun u hu => by obtain ⟨x, _, rfl⟩ := List.mem_map.1 hu; rfl
/-- six cells of a block are told -/
abbrev setSix (W : World) (r : Nat) (u0 u1 u2 u3 u4 u5 : Value) : World := (((((W.setCell ⟨r, 0, none⟩ u0).setCell ⟨r, 1, none⟩ u1).setCell ⟨r, 2, none⟩ u2).setCell ⟨r, 3, none⟩ u3).setCell ⟨r, 4, none⟩ u4).setCell ⟨r, 5, none⟩ u5
theorem six_end {w W : World} {r : Nat} {t : TypeId} {z0 z1 z2 z3 z4 z5 : Value} (hb : Below w.heap.size w W) (hr : w.heap.size ≤ r) (ho : W.heap[r]? = some (.cells #[z0, z1, z2, z3, z4, z5] t (0, 0))) (u0 u1 u2 u3 u4 u5 : Value) :
  Below w.heap.size w (setSix W r u0 u1 u2 u3 u4 u5) ∧ (setSix W r u0 u1 u2 u3 u4 u5).heap[r]? = some (.cells #[u0, u1, u2, u3, u4, u5] t (0, 0)) ∧ ∀ k, k ≠ r → (setSix W r u0 u1 u2 u3 u4 u5).heap[k]? = W.heap[k]? := by
 refine ⟨((((((hb.setCell (p := ⟨r, 0, none⟩) hr _).setCell (p := ⟨r, 1, none⟩) hr _).setCell (p := ⟨r, 2, none⟩) hr _).setCell (p := ⟨r, 3, none⟩) hr _).setCell (p := ⟨r, 4, none⟩) hr _).setCell (p := ⟨r, 5, none⟩) hr _), ?_, fun k hk => ?_⟩
 ·exact hsc (i := 5) (hsc (i := 4) (hsc (i := 3) (hsc (i := 2) (hsc (i := 1) (hsc (i := 0) ho u0) u1) u2) u3) u4) u5
 ·have st : ∀ (V : World) (j : Nat) (u : Value), (V.setCell ⟨r, j, none⟩ u).heap[k]? = V.heap[k]? := fun V j u => Below.heap_setCell V ⟨r, j, none⟩ u k (by show k ≠ r; exact hk)
  unfold setSix
  rw [st, st, st, st, st, st]
end Go.Proofs.YtajaijilfclhpaaGreatDoor
/- Instructions copied. -/
namespace Go.Proofs.YtajaijilfclhpaaGreatDoor
open Go.RowKit

theorem insCells_snoc : ∀ {l : List In} {avs : List Value} (x : In) (a : Value), avs.length = l.length → insCells (l ++ [x]) (avs ++ [a]) = insCells l avs ++ inCells x a
 | [], [], x, a, _ => by simp [insCells]
 | y :: l, b :: avs, x, a, h => by
  have := insCells_snoc (l := l) (avs := avs) x a (by simpa using h)
  rw [List.cons_append, List.cons_append, insCells_cons, insCells_cons, this, List.append_assoc]
 | [], b :: avs, _, _, h => by simp at h
 | y :: l, [], _, _, h => by simp at h
/-- instructions in memory of their own: the row, and each one's arguments, apart from it -/
structure CI (w : World) (base : Nat) (v : Value) (l : List In) (avs : List Value) : Prop where
 row : w.ownsRow base 55 6 v l.length (insCells l avs)
 al : avs.length = l.length
 kid : ∀ (i : Nat) (x : In) (a : Value), l[i]? = some x → avs[i]? = some a → OwnI w base a x.args
 ap : ∀ (i : Nat) (a : Value) (g : Nat), avs[i]? = some a → a.ownBlock = some g → v.ownBlock ≠ some g
theorem CI.nil (w : World) (base : Nat) : CI w base (.slice none 0 0) [] [] := ⟨World.ownsRow_nil _ _ _ _, rfl, fun i x a h => by simp at h, fun i a g h => by simp at h⟩
theorem CI.below {w w' : World} {base : Nat} {v : Value} {l : List In} {avs : List Value} (h : CI w base v l avs) (hb : Below w.heap.size w w') : CI w' base v l avs :=
 ⟨owns_below h.row hb, h.al, fun i x a hx ha => owns_below (h.kid i x a hx ha) hb, h.ap⟩
theorem CI.push {w w1 w2 : World} {base : Nat} {v v2 av : Value} {l : List In} {avs : List Value} {x : In} (h : CI w base v l avs) (hb : Below w.heap.size w w1) (ha : OwnI w1 w.heap.size av x.args) (hsz : base ≤ w.heap.size)
  (ho : w2.ownsRow base 55 6 v2 (l.length + 1) (insCells l avs ++ inCells x av)) (hg : w1.grownBy w2 v.ownBlock) (hat : v2.ownBlock = v.ownBlock ∨ v2.ownBlock = some w1.heap.size) : CI w2 base v2 (l ++ [x]) (avs ++ [av]) := by
 have hvb : ∀ g, v.ownBlock = some g → g < w.heap.size := fun g hg => (h.row.lt g hg).2
 have hne : ∀ g, av.ownBlock = some g → v.ownBlock ≠ some g := fun g hg hc => by have := hvb g hc; have := (ha.lt g hg).1; omega
 have keep : ∀ {a : Value} {r : List Int}, OwnI w1 base a r → (∀ g, a.ownBlock = some g → v.ownBlock ≠ some g) → OwnI w2 base a r := fun ho hn => owns_same ho fun g hg' => hg.block g (ho.lt g hg').2 (fun e => hn g hg' e.symm)
 have hn2 : ∀ {a : Value} {g : Nat}, a.ownBlock = some g → g < w1.heap.size → v.ownBlock ≠ some g → v2.ownBlock ≠ some g := fun hag hlt hn hc => by
  rcases hat with e | e
  ·rw [e] at hc; exact hn hc
  ·rw [e] at hc; cases hc; omega
 refine ⟨?_, by simp [h.al], fun i y a hy ha' => ?_, fun i a g ha' hag => ?_⟩
 ·rw [insCells_snoc x av h.al, List.length_append]; exact ho
 ·rcases Nat.lt_or_ge i l.length with hi | hi
  ·rw [List.getElem?_append_left hi] at hy
   rw [List.getElem?_append_left (by rw [h.al]; exact hi)] at ha'
   exact keep (owns_below (h.kid i y a hy ha') hb) (fun g hg => h.ap i a g ha' hg)
  ·rw [List.getElem?_append_right hi] at hy
   rw [List.getElem?_append_right (by rw [h.al]; exact hi), h.al] at ha'
   rcases hd : i - l.length with _ | k
   ·rw [hd] at hy ha'; cases hy; cases ha'
    exact keep (own_mono ha hsz) hne
   ·rw [hd] at hy; simp at hy
 ·rcases Nat.lt_or_ge i avs.length with hi | hi
  ·rw [List.getElem?_append_left hi] at ha'
   have hi' : i < l.length := by rw [← h.al]; exact hi
   have hk := h.kid i l[i] a (List.getElem?_eq_getElem hi') ha'
   exact hn2 hag (Nat.lt_of_lt_of_le (hk.lt g hag).2 hb.size) (h.ap i a g ha' hag)
  ·rw [List.getElem?_append_right hi] at ha'
   rcases hd : i - avs.length with _ | k
   ·rw [hd] at ha'; cases ha'
    exact hn2 hag (ha.lt g hag).2 (hne g hag)
   ·rw [hd] at ha'; simp at ha'
theorem in_cells_one {x : In} {a : Value} (ha : a.oneCell' = true) : ∀ u ∈ inCells x a, u.oneCell' = true := fun u hu => by
 unfold inCells at hu
 simp only [List.mem_cons, List.not_mem_nil, or_false] at hu
 rcases hu with rfl | rfl | rfl | rfl | rfl | rfl
 ·rfl
 ·rfl
 ·rfl
 ·exact ha
 ·rfl
 ·rfl
end Go.Proofs.YtajaijilfclhpaaGreatDoor
/- Blocks copied. -/
namespace Go.Proofs.YtajaijilfclhpaaGreatDoor
open Go.RowKit

end Go.Proofs.YtajaijilfclhpaaGreatDoor
/- Rows of blocks copied. -/
namespace Go.Proofs.YtajaijilfclhpaaGreatDoor
open Go.RowKit

theorem blsCells_snoc : ∀ {l : List Bl} {avs : List Value} (x : Bl) (a : Value), avs.length = l.length → blsCells (l ++ [x]) (avs ++ [a]) = blsCells l avs ++ blCells x a
 | [], [], x, a, _ => by simp [blsCells]
 | y :: l, b :: avs, x, a, h => by
  have := blsCells_snoc (l := l) (avs := avs) x a (by simpa using h)
  rw [List.cons_append, List.cons_append, blsCells_cons, blsCells_cons, this, List.append_assoc]
 | [], b :: avs, _, _, h => by simp at h
 | y :: l, [], _, _, h => by simp at h
/-- the memory of a row of instructions -/
def KB (iv : Value) (avs : List Value) (g : Nat) : Prop := iv.ownBlock = some g ∨ ∃ (i : Nat) (a : Value), avs[i]? = some a ∧ a.ownBlock = some g
theorem CI.lt {w : World} {base : Nat} {v : Value} {l : List In} {avs : List Value} (h : CI w base v l avs) {g : Nat} (hg : KB v avs g) : base ≤ g ∧ g < w.heap.size := by
 rcases hg with hg | ⟨i, a, ha, hg⟩
 ·exact h.row.lt g hg
 ·have hi : i < l.length := by rw [← h.al]; exact (List.getElem?_eq_some_iff.1 ha).1
  exact (h.kid i l[i] a (List.getElem?_eq_getElem hi) ha).lt g hg
theorem CI.same {w w' : World} {base : Nat} {v : Value} {l : List In} {avs : List Value} (h : CI w base v l avs) (hk : ∀ g, KB v avs g → w'.heap[g]? = w.heap[g]?) : CI w' base v l avs :=
 ⟨owns_same h.row fun g hg => hk g (.inl hg), h.al, fun i x a hx ha => owns_same (h.kid i x a hx ha) fun g hg => hk g (.inr ⟨i, a, ha, hg⟩), h.ap⟩
theorem CI.low {w : World} {base base' : Nat} {v : Value} {l : List In} {avs : List Value} (h : CI w base v l avs) (hb : base' ≤ base) : CI w base' v l avs :=
 ⟨own_mono h.row hb, h.al, fun i x a hx ha => own_mono (h.kid i x a hx ha) hb, h.ap⟩
/-- blocks in memory of their own -/
structure CB (w : World) (base : Nat) (v : Value) (bs : List Bl) (ivs : List Value) (avss : List (List Value)) : Prop where
 row : w.ownsRow base 63 6 v bs.length (blsCells bs ivs)
 al : ivs.length = bs.length
 vl : avss.length = bs.length
 kid : ∀ (i : Nat) (b : Bl) (iv : Value) (avs : List Value), bs[i]? = some b → ivs[i]? = some iv → avss[i]? = some avs → CI w base iv b.ins avs
 ap : ∀ (i : Nat) (iv : Value) (avs : List Value) (g : Nat), ivs[i]? = some iv → avss[i]? = some avs → KB iv avs g → v.ownBlock ≠ some g
 pw : ∀ (i j : Nat) (iv iv' : Value) (avs' : List Value) (g : Nat), i ≠ j → ivs[i]? = some iv → ivs[j]? = some iv' → avss[j]? = some avs' → iv.ownBlock = some g → ¬ KB iv' avs' g
theorem CB.nil (w : World) (base : Nat) : CB w base (.slice none 0 0) [] [] [] := ⟨World.ownsRow_nil _ _ _ _, rfl, rfl, fun i x a _ h => by simp at h, fun i a _ g h => by simp at h, fun i j a _ _ g _ h => by simp at h⟩
theorem CB.below {w w' : World} {base : Nat} {v : Value} {bs : List Bl} {ivs : List Value} {avss : List (List Value)} (h : CB w base v bs ivs avss) (hb : Below w.heap.size w w') : CB w' base v bs ivs avss :=
 ⟨owns_below h.row hb, h.al, h.vl, fun i b iv avs h1 h2 h3 => (h.kid i b iv avs h1 h2 h3).below hb, h.ap, h.pw⟩
theorem CB.iv_kb {w : World} {base : Nat} {v : Value} {bs : List Bl} {ivs : List Value} {avss : List (List Value)} (h : CB w base v bs ivs avss) {i : Nat} {iv : Value} {avs : List Value} (hi : ivs[i]? = some iv) (ha : avss[i]? = some avs) {g : Nat} (hg : KB iv avs g) : base ≤ g ∧ g < w.heap.size := by
 have hl : i < bs.length := by rw [← h.al]; exact (List.getElem?_eq_some_iff.1 hi).1
 exact (h.kid i bs[i] iv avs (List.getElem?_eq_getElem hl) hi ha).lt hg
theorem app_cases {α : Type} {l : List α} {x y : α} {i : Nat} (h : (l ++ [x])[i]? = some y) : (i < l.length ∧ l[i]? = some y) ∨ (i = l.length ∧ y = x) := by
 rcases Nat.lt_or_ge i l.length with hi | hi
 ·rw [List.getElem?_append_left hi] at h; exact .inl ⟨hi, h⟩
 ·rw [List.getElem?_append_right hi] at h
  rcases hd : i - l.length with _ | k
  ·rw [hd] at h; cases h; exact .inr ⟨by omega, rfl⟩
  ·rw [hd] at h; simp at h
theorem CB.push {w w1 w2 : World} {base : Nat} {v v2 iv : Value} {bs : List Bl} {ivs avs : List Value} {avss : List (List Value)} {b : Bl} (h : CB w base v bs ivs avss) (hb : Below w.heap.size w w1) (hk : CI w1 w.heap.size iv b.ins avs) (hsz : base ≤ w.heap.size)
  (ho : w2.ownsRow base 63 6 v2 (bs.length + 1) (blsCells bs ivs ++ blCells b iv)) (hg : w1.grownBy w2 v.ownBlock) (hat : v2.ownBlock = v.ownBlock ∨ v2.ownBlock = some w1.heap.size) : CB w2 base v2 (bs ++ [b]) (ivs ++ [iv]) (avss ++ [avs]) := by
 have hvb : ∀ g, v.ownBlock = some g → g < w.heap.size := fun g hg => (h.row.lt g hg).2
 have hnew : ∀ g, KB iv avs g → v.ownBlock ≠ some g := fun g hg hc => by have := hvb g hc; have := (hk.lt hg).1; omega
 have hn2 : ∀ g, g < w1.heap.size → v.ownBlock ≠ some g → v2.ownBlock ≠ some g := fun g hlt hn hc => by
  rcases hat with e | e
  ·rw [e] at hc; exact hn hc
  ·rw [e] at hc; cases hc; omega
 have hkeep : ∀ g, g < w1.heap.size → v.ownBlock ≠ some g → w2.heap[g]? = w1.heap[g]? := fun g hlt hn => hg.block g hlt (fun e => hn e.symm)
 refine ⟨?_, by simp [h.al], by simp [h.vl], fun i y jv ax h1 h2 h3 => ?_, fun i jv ax g h2 h3 hkb => ?_, fun i j jv kv ax g hij h1 h2 h3 hjg hkb => ?_⟩
 ·rw [blsCells_snoc b iv h.al, List.length_append]; exact ho
 ·rcases app_cases h1 with ⟨hi, h1⟩ | ⟨hi, rfl⟩
  ·rcases app_cases h2 with ⟨_, h2⟩ | ⟨hi2, _⟩
   ·rcases app_cases h3 with ⟨_, h3⟩ | ⟨hi3, _⟩
    ·have hc := (h.kid i y jv ax h1 h2 h3).below hb
     exact hc.same fun g hg' => hkeep g (hc.lt hg').2 (h.ap i jv ax g h2 h3 hg')
    ·rw [h.vl] at hi3; omega
   ·rw [h.al] at hi2; omega
  ·rcases app_cases h2 with ⟨hi2, _⟩ | ⟨_, rfl⟩
   ·rw [h.al] at hi2; omega
   ·rcases app_cases h3 with ⟨hi3, _⟩ | ⟨_, rfl⟩
    ·rw [h.vl] at hi3; omega
    ·exact (hk.same fun g hg' => hkeep g (hk.lt hg').2 (hnew g hg')).low hsz
 ·rcases app_cases h2 with ⟨hi, h2⟩ | ⟨hi, rfl⟩
  ·rcases app_cases h3 with ⟨_, h3⟩ | ⟨hi3, _⟩
   ·exact hn2 g (Nat.lt_of_lt_of_le (h.iv_kb h2 h3 hkb).2 hb.size) (h.ap i jv ax g h2 h3 hkb)
   ·rw [h.vl] at hi3; rw [h.al] at hi; omega
  ·rcases app_cases h3 with ⟨hi3, _⟩ | ⟨_, rfl⟩
   ·rw [h.vl] at hi3; rw [h.al] at hi; omega
   ·exact hn2 g (hk.lt hkb).2 (hnew g hkb)
 ·rcases app_cases h1 with ⟨hi, h1⟩ | ⟨hi, rfl⟩
  ·have hil : i < avss.length := by rw [h.vl, ← h.al]; exact hi
   have hlo := (h.iv_kb h1 (List.getElem?_eq_getElem hil) (.inl hjg)).2
   rcases app_cases h2 with ⟨_, h2⟩ | ⟨hj, rfl⟩
   ·rcases app_cases h3 with ⟨_, h3⟩ | ⟨hj3, _⟩
    ·exact h.pw i j jv kv ax g hij h1 h2 h3 hjg hkb
    ·have := (List.getElem?_eq_some_iff.1 h2).1; rw [h.vl] at hj3; rw [h.al] at this; omega
   ·rcases app_cases h3 with ⟨hj3, _⟩ | ⟨_, rfl⟩
    ·rw [h.vl] at hj3; rw [h.al] at hj; omega
    ·have := (hk.lt hkb).1; omega
  ·have hhi := (hk.lt (.inl hjg)).1
   rcases app_cases h2 with ⟨_, h2⟩ | ⟨hj, rfl⟩
   ·rcases app_cases h3 with ⟨_, h3⟩ | ⟨hj3, _⟩
    ·have := (h.iv_kb h2 h3 hkb).2; omega
    ·have := (List.getElem?_eq_some_iff.1 h2).1; rw [h.vl] at hj3; rw [h.al] at this; omega
   ·omega
theorem bl_cells_one {x : Bl} {a : Value} (ha : a.oneCell' = true) : ∀ u ∈ blCells x a, u.oneCell' = true := fun u hu => by
 unfold blCells at hu
 simp only [List.mem_cons, List.not_mem_nil, or_false] at hu
 rcases hu with rfl | rfl | rfl | rfl | rfl | rfl
 ·exact ha
 ·rfl
 ·rfl
 ·rfl
 ·rfl
 ·rfl
theorem getD_memB {L : List Bl} {i : Nat} (h : i < L.length) : L.getD i default ∈ L := by
 have e : L.getD i default = L[i] := by simp [List.getD, List.getElem?_eq_getElem h]
 rw [e]; exact List.getElem_mem h
end Go.Proofs.YtajaijilfclhpaaGreatDoor
/- A graph copied. -/
namespace Go.Proofs.YtajaijilfclhpaaGreatDoor
open Go.RowKit

theorem arrs_one : ∀ (l : List (Int × Int)), ∀ u ∈ arrCells l, u.oneCell' = true
 | [], u, hu => by simp [arrCells] at hu
 | x :: l, u, hu => by
  unfold arrCells at hu
  simp only [List.mem_cons] at hu
  rcases hu with rfl | rfl | hu
  ·rfl
  ·rfl
  ·exact arrs_one l u hu
theorem arrs_len : ∀ (l : List (Int × Int)), (arrCells l).length = l.length * 2
 | [] => rfl
 | x :: l => by
  have := arrs_len l
  unfold arrCells
  simp [this]
  omega
/-- a copy of a graph: its blocks lie at B and above, all else below that -/
structure CG (w w' : World) (G : Gr) (B : Nat) (pv vv av bv : Value) (ivs : List Value) (avss : List (List Value)) : Prop where
 lo : w.heap.size ≤ B
 ps : w'.ownsRow w.heap.size 3 1 pv G.params.length (G.params.map intV)
 vs : w'.ownsRow w.heap.size 23 1 vv G.vars.length (G.vars.map bytV)
 ars : w'.ownsRow w.heap.size 50 2 av G.arrs.length (arrCells G.arrs)
 pb : ∀ g, pv.ownBlock = some g → g < B
 vb : ∀ g, vv.ownBlock = some g → g < B
 ab : ∀ g, av.ownBlock = some g → g < B
 bs : CB w' B bv G.blocks ivs avss
theorem CB.same {w w' : World} {base : Nat} {v : Value} {bs : List Bl} {ivs : List Value} {avss : List (List Value)} (h : CB w base v bs ivs avss) (hk : ∀ g, base ≤ g → w'.heap[g]? = w.heap[g]?) : CB w' base v bs ivs avss :=
 ⟨owns_same h.row fun g hg => hk g (h.row.lt g hg).1, h.al, h.vl, fun i b iv avs h1 h2 h3 => (h.kid i b iv avs h1 h2 h3).same fun g hg => hk g ((h.kid i b iv avs h1 h2 h3).lt hg).1, h.ap, h.pw⟩
/-- while it is copied: the box, the cell of the answer -/
structure BG (w wr : World) (cs : List Value) : Prop where
 low : Below w.heap.size w wr
 box : Box wr w.heap.size cs
 res : wr.heap[w.heap.size + 1]? = some (.cells #[.string ⟨#[]⟩, .slice none 0 0, .int .u8 0, .slice none 0 0, .slice none 0 0, .slice none 0 0] 28 (0, 0))
 rbx : Box wr (w.heap.size + 1) [.string ⟨#[]⟩, .slice none 0 0, .int .u8 0, .slice none 0 0, .slice none 0 0, .slice none 0 0]
 sz : w.heap.size + 2 ≤ wr.heap.size
theorem BG.below {w wr w2 : World} {cs : List Value} (h : BG w wr cs) (hb : Below wr.heap.size wr w2) : BG w w2 cs := ⟨below_trans h.low hb, h.box.below hb, by rw [hb.block _ (by have := h.sz; omega)]; exact h.res, h.rbx.below hb, Nat.le_trans h.sz hb.size⟩
theorem BG.set {w wr : World} {cs : List Value} (h : BG w wr cs) (j : Nat) (hj : j < cs.length) (u : Value) : BG w (wr.setCell ⟨w.heap.size, j, none⟩ u) (cs.set j u) :=
 ⟨h.low.setCell (p := ⟨w.heap.size, j, none⟩) (Nat.le_refl _) _, h.box.set hj u, (Below.heap_setCell wr ⟨w.heap.size, j, none⟩ u (w.heap.size + 1) (by show w.heap.size + 1 ≠ w.heap.size; omega)).trans h.res, h.rbx.other (by show w.heap.size + 1 ≠ w.heap.size; omega) _, by have := h.sz; simp [World.setCell]; exact this⟩
structure OW (wr : World) (base : Nat) (e : TypeId) (sz : Nat) (v : Value) (n : Nat) (xs : List Value) : Prop where
 own : wr.ownsRow base e sz v n xs
theorem OW.below {w w' : World} {base : Nat} {e : TypeId} {sz : Nat} {v : Value} {n : Nat} {xs : List Value} (h : OW w base e sz v n xs) (hb : Below w.heap.size w w') : OW w' base e sz v n xs := ⟨owns_below h.own hb⟩
theorem BG.own {w wr : World} {e : TypeId} {sz : Nat} {v : Value} {n : Nat} {xs : List Value} {base : Nat} (ho : OW wr base e sz v n xs) (hb : w.heap.size < base) (j : Nat) (u : Value) : OW (wr.setCell ⟨w.heap.size, j, none⟩ u) base e sz v n xs := ⟨owns_other ho.own (fun e => by have := (ho.own.lt _ e).1; simp at this; omega) u⟩
end Go.Proofs.YtajaijilfclhpaaGreatDoor
/- Rows cloned. -/
namespace Go.Proofs.YtajaijilfclhpaaGreatDoor
open Go.RowKit

set_option maxRecDepth 100000 in
set_option maxHeartbeats 1000000 in
theorem clone1_any {w : World} {a : Option Addr} {n c : Nat} {cs : List Value} (h : RowAt w (.slice a n c) n cs) (hl : cs.length = n * 1) (hn : n ≤ 1100000) (h1 : ∀ u ∈ cs, u.oneCell' = true) :
  Calls Tryz.prog 96 #[.slice a n c] w fun e w' => ∃ v', e = .returned v' ∧ w'.ownsRow w.heap.size 3 1 v' n cs ∧ Below w.heap.size w w' := by
 cases a with
 | none =>
  have h0 : n = 0 := by
   obtain ⟨a', c', hv, _, hc⟩ := h
   injection hv with e1 e2 e3
   subst e1
   rcases hc with h0 | ⟨g, o, e, _⟩
   ·exact h0
   ·cases e
  subst h0
  have hcs : cs = [] := List.eq_nil_of_length_eq_zero (by simpa using hl)
  subst hcs
  have hq : ∀ W, (binOp .eql 22 (.slice none 0 c) (.slice none 0 0)).run Tryz.prog W = .ok (.bool true) W := fun W => Lib.run_eql_slice_nil W _ _ none 0 c 0 0 Tryz.underlying22
  clear h hl hn h1
  go_enter Tryz.func96, Tryz.ntmps96
  go_wp2
  go_ret
  exact ⟨_, rfl, World.ownsRow_nil _ _ _ _, Below.refl _ _⟩
 | some ad =>
  obtain ⟨i0, hi0, hz0, hz1, hz2⟩ := info_parts infoI
  have HC : Hid (∀ j u, cs[j]? = some u → (w.alloc (.cells #[] 3)).cell? (ad.add j) = some u) := by
   intro j u hj
   obtain ⟨a', c', hv, _, hc⟩ := h
   injection hv with e1 e2 e3
   subst e1
   rcases hc with h0 | ⟨g, o, e, hg, hc⟩
   ·subst h0; have := (List.getElem?_eq_some_iff.1 hj).1; omega
   ·cases e
    rw [Addr.add_lit]
    exact ((below_alloc (Below.refl w.heap.size w) (.cells #[] 3)).cell (p := ⟨g, o + j, none⟩) hg).trans (hc j u hj)
  have HL : Hid (cs.length = n * 1) := hl
  have H1 : Hid (∀ u ∈ cs, u.oneCell' = true) := h1
  have HN : Hid (n ≤ 1100000) := hn
  have hq : ∀ W, (binOp .eql 22 (.slice (some ad) n c) (.slice none 0 0)).run Tryz.prog W = .ok (.bool false) W := fun W => Lib.run_eql_slice_nil W _ _ (some ad) n c 0 0 Tryz.underlying22
  clear h hl hn h1
  go_enter Tryz.func96, Tryz.ntmps96
  go_wp2_with (at_builtin; go_loud (refine wpList_append_own_at _ rfl _ _ 22 rfl w.heap.size 3 i0 (.int .i64 0) 1 8 Tryz.underlying22 hi0 hz0 hz1 hz2 rfl (by decide) _ 0 [] rfl (World.ownsRow_made w #[] 0 (Nat.le_refl _) (Nat.zero_le _) (by simp)) ad n c cs rfl HL.out HC.out H1.out ?c3 ?c4 ?c5 ?_))
  case c3 => have := HN.out; unfold maxLen; omega
  case c4 => have := HN.out; omega
  case c5 => simp
  intro v2 w2 ho hg2 _ hat
  have HQ : Hid (w2.ownsRow w.heap.size 3 1 v2 n cs ∧ Below w.heap.size w w2) := ⟨by simpa using ho, below_grown (below_alloc (Below.refl _ _) _) hg2 (fun g hg => by simp [Value.ownBlock] at hg; omega)⟩
  clear ho hg2 hat
  go_wp2
  go_ret
  exact ⟨_, rfl, HQ.out.1, HQ.out.2⟩
set_option maxRecDepth 100000 in
set_option maxHeartbeats 1000000 in
theorem cloneT_any {w : World} {a : Option Addr} {n c : Nat} {cs : List Value} (h : RowAt w (.slice a n c) n cs) (hl : cs.length = n * 1) (hn : n ≤ 1100000) (h1 : ∀ u ∈ cs, u.oneCell' = true) :
  Calls Tryz.prog 97 #[.slice a n c] w fun e w' => ∃ v', e = .returned v' ∧ w'.ownsRow w.heap.size 23 1 v' n cs ∧ Below w.heap.size w w' := by
 cases a with
 | none =>
  have h0 : n = 0 := by
   obtain ⟨a', c', hv, _, hc⟩ := h
   injection hv with e1 e2 e3
   subst e1
   rcases hc with h0 | ⟨g, o, e, _⟩
   ·exact h0
   ·cases e
  subst h0
  have hcs : cs = [] := List.eq_nil_of_length_eq_zero (by simpa using hl)
  subst hcs
  have hq : ∀ W, (binOp .eql 24 (.slice none 0 c) (.slice none 0 0)).run Tryz.prog W = .ok (.bool true) W := fun W => Lib.run_eql_slice_nil W _ _ none 0 c 0 0 Tryz.underlying24
  clear h hl hn h1
  go_enter Tryz.func97, Tryz.ntmps97
  go_wp2
  go_ret
  exact ⟨_, rfl, World.ownsRow_nil _ _ _ _, Below.refl _ _⟩
 | some ad =>
  obtain ⟨i0, hi0, hz0, hz1, hz2⟩ := info_parts info_copyT
  have HC : Hid (∀ j u, cs[j]? = some u → (w.alloc (.cells #[] 23)).cell? (ad.add j) = some u) := by
   intro j u hj
   obtain ⟨a', c', hv, _, hc⟩ := h
   injection hv with e1 e2 e3
   subst e1
   rcases hc with h0 | ⟨g, o, e, hg, hc⟩
   ·subst h0; have := (List.getElem?_eq_some_iff.1 hj).1; omega
   ·cases e
    rw [Addr.add_lit]
    exact ((below_alloc (Below.refl w.heap.size w) (.cells #[] 23)).cell (p := ⟨g, o + j, none⟩) hg).trans (hc j u hj)
  have HL : Hid (cs.length = n * 1) := hl
  have H1 : Hid (∀ u ∈ cs, u.oneCell' = true) := h1
  have HN : Hid (n ≤ 1100000) := hn
  have hq : ∀ W, (binOp .eql 24 (.slice (some ad) n c) (.slice none 0 0)).run Tryz.prog W = .ok (.bool false) W := fun W => Lib.run_eql_slice_nil W _ _ (some ad) n c 0 0 Tryz.underlying24
  clear h hl hn h1
  go_enter Tryz.func97, Tryz.ntmps97
  go_wp2_with (at_builtin; go_loud (refine wpList_append_own_at _ rfl _ _ 24 rfl w.heap.size 23 i0 (.int .u8 0) 1 1 Tryz.underlying24 hi0 hz0 hz1 hz2 rfl (by decide) _ 0 [] rfl (World.ownsRow_made w #[] 0 (Nat.le_refl _) (Nat.zero_le _) (by simp)) ad n c cs rfl HL.out HC.out H1.out ?c3 ?c4 ?c5 ?_))
  case c3 => have := HN.out; unfold maxLen; omega
  case c4 => have := HN.out; omega
  case c5 => simp
  intro v2 w2 ho hg2 _ hat
  have HQ : Hid (w2.ownsRow w.heap.size 23 1 v2 n cs ∧ Below w.heap.size w w2) := ⟨by simpa using ho, below_grown (below_alloc (Below.refl _ _) _) hg2 (fun g hg => by simp [Value.ownBlock] at hg; omega)⟩
  clear ho hg2 hat
  go_wp2
  go_ret
  exact ⟨_, rfl, HQ.out.1, HQ.out.2⟩
set_option maxRecDepth 100000 in
set_option maxHeartbeats 1000000 in
theorem cloneA_any {w : World} {a : Option Addr} {n c : Nat} {cs : List Value} (h : RowAt w (.slice a n c) n cs) (hl : cs.length = n * 2) (hn : n ≤ 1100000) (h1 : ∀ u ∈ cs, u.oneCell' = true) :
  Calls Tryz.prog 98 #[.slice a n c] w fun e w' => ∃ v', e = .returned v' ∧ w'.ownsRow w.heap.size 50 2 v' n cs ∧ Below w.heap.size w w' := by
 cases a with
 | none =>
  have h0 : n = 0 := by
   obtain ⟨a', c', hv, _, hc⟩ := h
   injection hv with e1 e2 e3
   subst e1
   rcases hc with h0 | ⟨g, o, e, _⟩
   ·exact h0
   ·cases e
  subst h0
  have hcs : cs = [] := List.eq_nil_of_length_eq_zero (by simpa using hl)
  subst hcs
  have hq : ∀ W, (binOp .eql 25 (.slice none 0 c) (.slice none 0 0)).run Tryz.prog W = .ok (.bool true) W := fun W => Lib.run_eql_slice_nil W _ _ none 0 c 0 0 Tryz.underlying25
  clear h hl hn h1
  go_enter Tryz.func98, Tryz.ntmps98
  go_wp2
  go_ret
  exact ⟨_, rfl, World.ownsRow_nil _ _ _ _, Below.refl _ _⟩
 | some ad =>
  obtain ⟨i0, hi0, hz0, hz1, hz2⟩ := info_parts info_copyA
  have HC : Hid (∀ j u, cs[j]? = some u → (w.alloc (.cells #[] 50)).cell? (ad.add j) = some u) := by
   intro j u hj
   obtain ⟨a', c', hv, _, hc⟩ := h
   injection hv with e1 e2 e3
   subst e1
   rcases hc with h0 | ⟨g, o, e, hg, hc⟩
   ·subst h0; have := (List.getElem?_eq_some_iff.1 hj).1; omega
   ·cases e
    rw [Addr.add_lit]
    exact ((below_alloc (Below.refl w.heap.size w) (.cells #[] 50)).cell (p := ⟨g, o + j, none⟩) hg).trans (hc j u hj)
  have HL : Hid (cs.length = n * 2) := hl
  have H1 : Hid (∀ u ∈ cs, u.oneCell' = true) := h1
  have HN : Hid (n ≤ 1100000) := hn
  have hq : ∀ W, (binOp .eql 25 (.slice (some ad) n c) (.slice none 0 0)).run Tryz.prog W = .ok (.bool false) W := fun W => Lib.run_eql_slice_nil W _ _ (some ad) n c 0 0 Tryz.underlying25
  clear h hl hn h1
  go_enter Tryz.func98, Tryz.ntmps98
  go_wp2_with (at_builtin; go_loud (refine wpList_append_own_at _ rfl _ _ 25 rfl w.heap.size 50 i0 (.agg #[.int .u8 0, .int .i64 0]) 2 16 Tryz.underlying25 hi0 hz0 hz1 hz2 rfl (by decide) _ 0 [] rfl (World.ownsRow_made w #[] 0 (Nat.le_refl _) (Nat.zero_le _) (by simp)) ad n c cs rfl HL.out HC.out H1.out ?c3 ?c4 ?c5 ?_))
  case c3 => have := HN.out; unfold maxLen; omega
  case c4 => have := HN.out; omega
  case c5 => simp
  intro v2 w2 ho hg2 _ hat
  have HQ : Hid (w2.ownsRow w.heap.size 50 2 v2 n cs ∧ Below w.heap.size w w2) := ⟨by simpa using ho, below_grown (below_alloc (Below.refl _ _) _) hg2 (fun g hg => by simp [Value.ownBlock] at hg; omega)⟩
  clear ho hg2 hat
  go_wp2
  go_ret
  exact ⟨_, rfl, HQ.out.1, HQ.out.2⟩
end Go.Proofs.YtajaijilfclhpaaGreatDoor
/- Rows of one's own as rows that are read. -/
namespace Go.Proofs.YtajaijilfclhpaaGreatDoor
open Go.RowKit

theorem row_own {w : World} {base : Nat} {e : TypeId} {sz : Nat} {v : Value} {n : Nat} {cs : List Value} (h : w.ownsRow base e sz v n cs) (hn : n ≤ 1000000) : RowAt w v n cs := by
 rcases own_shape h with ⟨e1, e2⟩ | ⟨g, c, e1, hc, _⟩
 ·subst e1 e2
  exact ⟨_, _, rfl, ⟨Nat.le_refl _, by omega⟩, .inl rfl⟩
 ·subst e1
  exact row_of_own h hn hc
theorem CI.at' {w : World} {base : Nat} {v : Value} {l : List In} {avs : List Value} (h : CI w base v l avs) (hn : l.length ≤ 1000000) (hla : ∀ x ∈ l, x.args.length ≤ 1000000) (hw : ∀ x ∈ l, 0 ≤ x.bits ∧ x.bits < 18446744073709551616) : InsAt w v l :=
 ⟨hw, avs, h.al, row_own h.row hn, fun i x a hx ha => OwnI.at' (h.kid i x a hx ha) (by have := hla x (List.mem_of_getElem? hx); omega)⟩
theorem CB.at' {w : World} {base : Nat} {v : Value} {bs : List Bl} {ivs : List Value} {avss : List (List Value)} (h : CB w base v bs ivs avss) (hn : bs.length ≤ 1000000) (hli : ∀ b ∈ bs, b.ins.length ≤ 1000000) (hla : ∀ b ∈ bs, ∀ x ∈ b.ins, x.args.length ≤ 1000000) (hw : ∀ b ∈ bs, ∀ x ∈ b.ins, 0 ≤ x.bits ∧ x.bits < 18446744073709551616) : BlsAt w v bs :=
 ⟨ivs, h.al, row_own h.row hn, fun i b iv hb hi => by
  have hl : i < avss.length := by rw [h.vl]; exact (List.getElem?_eq_some_iff.1 hb).1
  have hm := List.mem_of_getElem? hb
  exact (h.kid i b iv _ hb hi (List.getElem?_eq_getElem hl)).at' (hli b hm) (hla b hm) (hw b hm)⟩
end Go.Proofs.YtajaijilfclhpaaGreatDoor
/- The document's Needed. -/
namespace Go.Proofs.YtajaijilfclhpaaGreatDoor
open Go.RowKit

theorem infoBo : (Tryz.prog.info? 4).map (fun i => (i.zero, i.size, i.bytes)) = some (some (.bool false), 1, 1) := by kernel_rfl
theorem infoIk : (Tryz.prog.info? 3).map (fun i => (i.zero, i.size, i.bytes)) = some (some (.int .i64 0), 1, 8) := by kernel_rfl
abbrev boV (b : Bool) : Value := .bool b
abbrev OwnT (w : World) (base : Nat) (v : Value) (l : List Bool) : Prop := w.ownsRow base 4 1 v l.length (l.map boV)
theorem stays_any (k : Int) (w : World) : Calls Tryz.prog 29 #[.int .u8 k] w fun e w' => e = .returned (.bool (staysK k)) ∧ w' = w := by
 unfold staysK
 by_cases h1 : k = 7
 ·subst h1
  go_enter Tryz.func29, Tryz.ntmps29
  go_wp2
  go_ret
  exact ⟨rfl, rfl⟩
 by_cases h2 : k = 8
 ·subst h2
  go_enter Tryz.func29, Tryz.ntmps29
  go_wp2
  go_ret
  exact ⟨rfl, rfl⟩
 by_cases h3 : k = 9
 ·subst h3
  go_enter Tryz.func29, Tryz.ntmps29
  go_wp2
  go_ret
  exact ⟨rfl, rfl⟩
 have e1 := beq_false_of_ne h1
 have e2 := beq_false_of_ne h2
 have e3 := beq_false_of_ne h3
 rw [e1, e2, e3]
 go_enter Tryz.func29, Tryz.ntmps29
 go_wp2
 go_ret
 exact ⟨by simp, rfl⟩
theorem sets_any (k : Int) (w : World) : Calls Tryz.prog 30 #[.int .u8 k] w fun e w' => e = .returned (.bool (setsK k)) ∧ w' = w := by
 unfold setsK
 by_cases h1 : k = 7
 ·subst h1
  go_enter Tryz.func30, Tryz.ntmps30
  go_wp2
  go_ret
  exact ⟨rfl, rfl⟩
 by_cases h2 : k = 8
 ·subst h2
  go_enter Tryz.func30, Tryz.ntmps30
  go_wp2
  go_ret
  exact ⟨rfl, rfl⟩
 have e1 := beq_false_of_ne h1
 have e2 := beq_false_of_ne h2
 rw [e1, e2]
 go_enter Tryz.func30, Tryz.ntmps30
 go_wp2
 go_ret
 exact ⟨by first | (simp; done) | (simp [bne, e1, e2]; done), rfl⟩
theorem makeB (n : Nat) (hn : n ≤ 1048576) : ∃ O : Obj, (∀ W : World, (Instr.makeSlice 33 (.int .i64 n) (.int .i64 n)).run Tryz.prog W = .ok (.slice (some ⟨W.heap.size, 0, none⟩) n n) (W.alloc O)) ∧ ∀ W : World, OwnT (W.alloc O) W.heap.size (.slice (some ⟨W.heap.size, 0, none⟩) n n) (List.replicate n false) := by
 obtain ⟨i0, hi0, hz0, hz1, hz2⟩ := info_parts infoBo
 refine ⟨.cells (madeCells #[.bool false] n) 4, fun W => ?_, fun W => ?_⟩
 ·have hr := run_make (P := Tryz.prog) W 33 4 i0 (.bool false) Tryz.underlying33 hi0 hz0 .i64 .i64 (n : Int) (n : Int) (by omega) (by omega) (by rw [hz2]; omega) (by omega)
  rw [hz1] at hr
  simp at hr
  exact hr
 ·have r1 := World.ownsRow_lit (base := W.heap.size) (e := 4) (size := 1) W (madeCells #[.bool false] n) n (Nat.le_refl _) (by unfold maxLen; omega) (by simp [size_madeCells])
  rw [toList_madeCells_one] at r1
  show World.ownsRow _ _ _ _ _ _ _
  simpa using r1
end Go.Proofs.YtajaijilfclhpaaGreatDoor
/- What is marked, in memory. -/
namespace Go.Proofs.YtajaijilfclhpaaGreatDoor
open Go.RowKit

structure NEv (W wr : World) (cs : List Value) (ov : Value) (out : List Bool) : Prop where
 low : Below W.heap.size W wr
 box : Box wr W.heap.size cs
 own : OwnT wr W.heap.size ov out
 ne : ov.ownBlock ≠ some W.heap.size
theorem NEv.below {W wr w' : World} {cs : List Value} {ov : Value} {out : List Bool} (h : NEv W wr cs ov out) (hb : Below wr.heap.size wr w') : NEv W w' cs ov out :=
 ⟨below_trans h.low hb, h.box.below hb, owns_below h.own hb, h.ne⟩
theorem NEv.form {W wr : World} {cs : List Value} {ov : Value} {out : List Bool} (h : NEv W wr cs ov out) : ∃ a c, ov = .slice a out.length c := by
 rcases own_shape h.own with ⟨h1, h2⟩ | ⟨g, c, h1, _⟩
 ·exact ⟨none, 0, by rw [h1, h2]⟩
 ·exact ⟨_, _, h1⟩
/-- One is looked at, and marked. -/
theorem NEv.at' {W wr : World} {cs : List Value} {ov : Value} {out : List Bool} (h : NEv W wr cs ov out) {v : Nat} (hv : v < out.length) : ∃ g c, ov = .slice (some ⟨g, 0, none⟩) out.length c ∧ wr.cell? ⟨g, v, none⟩ = some (.bool (out.getD v false)) ∧ wr.frozen? ⟨g, v, none⟩ = false ∧ NEv W (wr.setCell ⟨g, v, none⟩ (.bool true)) cs ov (out.set v true) := by
 rcases own_shape h.own with ⟨h1, h2⟩ | ⟨g, c, h1, _, _, h2, _⟩
 ·omega
 ·have ho := h.own
  rw [h1] at ho
  have ho' : wr.ownsRow W.heap.size 4 1 (.slice (some ⟨g, 0, none⟩) out.length c) out.length (out.map boV) := ho
  refine ⟨g, c, h1, ?_, World.ownsRow.frozenAt ho' v, h.low.setCell (p := ⟨g, v, none⟩) h2 _, h.box.other (fun e => h.ne (by rw [h1]; exact congrArg some e.symm)) _, ?_, h.ne⟩
  ·rw [World.ownsRow.cellAt ho' v (by omega), List.getElem?_map, List.getElem?_eq_getElem hv]
   simp [List.getD, List.getElem?_eq_getElem hv]
  ·have h9 := (World.ownsRow.stored ho' v (.bool true)).1
   rw [h1]
   show World.ownsRow _ _ _ _ _ _ _
   rw [List.map_set, List.length_set]
   exact h9
theorem own_one {w : World} {base : Nat} {v : Value} {a b : List Bool} (ha : OwnT w base v a) (hb : OwnT w base v b) : a = b := by
 have inj : ∀ {x y : List Bool}, x.map boV = y.map boV → x = y := fun {x y} h => by
  have := congrArg (List.map fun u : Value => match u with | .bool q => q | _ => false) h
  simpa [List.map_map, Function.comp_def] using this
 rcases ha.2 with ⟨hv, h0⟩ | ⟨g, cap, cur, hv, _, hg, _, _, _, ht⟩
 ·rcases hb.2 with ⟨_, h1⟩ | ⟨g2, cap2, cur2, hv2, _⟩
  ·rw [List.eq_nil_of_length_eq_zero h0, List.eq_nil_of_length_eq_zero h1]
  ·rw [hv] at hv2; cases hv2
 ·rcases hb.2 with ⟨hv2, _⟩ | ⟨g2, cap2, cur2, hv2, _, hg2, _, _, _, ht2⟩
  ·rw [hv] at hv2; cases hv2
  ·rw [hv] at hv2
   injection hv2 with e1 e2 e3
   cases e1
   rw [hg] at hg2
   cases hg2
   rw [e2] at ht
   exact inj (ht.symm.trans ht2)
noncomputable def leastK (p : Nat → Prop) : Nat := open Classical in if h : ∃ k, p k then Classical.choose h else 0
/-- The measure: how many are not marked yet. -/
noncomputable def muN (w : World) (base : Nat) (v : Value) : Nat := leastK fun n => ∃ out, OwnT w base v out ∧ cntN out = n
theorem muN_of {w : World} {base : Nat} {v : Value} {out : List Bool} (h : OwnT w base v out) : muN w base v = cntN out := by
 have hx : ∃ k, ∃ o, OwnT w base v o ∧ cntN o = k := ⟨_, out, h, rfl⟩
 unfold muN leastK
 rw [dif_pos hx]
 obtain ⟨o, h1, h2⟩ := Classical.choose_spec hx
 rw [← h2, own_one h1 h]
/-- One is read, and marked, in a row whose place is known. -/
theorem NEv.rd {W wr : World} {cs : List Value} {g0 m : Nat} {out : List Bool} (h : NEv W wr cs (.slice (some ⟨g0, 0, none⟩) m m) out) {v : Nat} (hv : v < m) : g0 < wr.heap.size ∧ wr.cell? ⟨g0, v, none⟩ = some (.bool (out.getD v false)) ∧ wr.frozen? ⟨g0, v, none⟩ = false ∧ NEv W (wr.setCell ⟨g0, v, none⟩ (.bool true)) cs (.slice (some ⟨g0, 0, none⟩) m m) (out.set v true) := by
 obtain ⟨a, c, hf⟩ := h.form
 injection hf with _ e2 _
 obtain ⟨g, c2, h1, h2, h3, h4⟩ := h.at' (v := v) (by omega)
 injection h1 with e1 _ _
 cases e1
 exact ⟨(World.ownsRow.lt h.own g0 rfl).2, h2, h3, h4⟩
theorem ints_rd {w : World} {base lc : Nat} {la : Option Addr} {ll : List Int} (h : OwnI w base (.slice la ll.length lc) ll) {q : Nat} (hq : q < ll.length) : ∃ g, la = some ⟨g, 0, none⟩ ∧ base ≤ g ∧ w.cell? ⟨g, q, none⟩ = some (.int .i64 (ll.getD q 0)) := by
 rcases own_shape h with ⟨_, h2⟩ | ⟨g, c, h1, _, _, h2, _⟩
 ·omega
 ·injection h1 with e1 _ e3
  subst e1
  refine ⟨g, rfl, h2, ?_⟩
  have h' : w.ownsRow base 3 1 (.slice (some ⟨g, 0, none⟩) ll.length lc) ll.length (ll.map intV) := h
  rw [World.ownsRow.cellAt h' q (by omega), List.getElem?_map, List.getElem?_eq_getElem hq]
  simp [List.getD, List.getElem?_eq_getElem hq]
theorem ints_other {w : World} {base : Nat} {v : Value} {l : List Int} (h : OwnI w base v l) {p : Addr} (hp : p.block < base) (u : Value) : OwnI (w.setCell p u) base v l :=
 owns_same h fun g hg => Below.heap_setCell _ _ _ _ (by have := (World.ownsRow.lt h g hg).1; omega)
theorem getD_memZ {l : List Int} {i : Nat} (h : i < l.length) : l.getD i 0 ∈ l := by
 rw [show l.getD i 0 = l[i] from by simp [List.getD, List.getElem?_eq_getElem h]]
 exact List.getElem_mem h
def boN : Value → Bool
 | .bool b => b
 | _ => false
theorem sets_of {k : Int} (h : staysK k = false) : setsK k = true := by
 unfold staysK at h
 unfold setsK
 simp only [Bool.or_eq_false_iff] at h
 rw [h.1.1.1, h.1.1.2, h.2]
 rfl
end Go.Proofs.YtajaijilfclhpaaGreatDoor
