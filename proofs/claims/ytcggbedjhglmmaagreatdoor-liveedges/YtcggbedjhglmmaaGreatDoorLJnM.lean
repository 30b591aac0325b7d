/- From settled strips to the rows that are told, plain. -/
import Derived.Test.YtcggbedjhglmmaaGreatDoorLStw
import Derived.Test.YtcggbedjhglmmaaGreatDoorLTell
import Derived.Test.YtcggbedjhglmmaaGreatDoorLNfM
namespace Go.Proofs.YtcggbedjhglmmaaGreatDoor
open Go.RowKit

theorem StOk.inss {n i : Nat} {ah : List Int} (hi : i < n) (hah : ∀ a ∈ ah, 0 ≤ a ∧ a < (n : Int)) : ∀ (l : List In) {L : Nat} {all : List Sp}, StOk n L all → StOk n (L + szI l) (l.foldl (insS i ah) all)
  | [], _, _, h => h
  | x :: l, L, all, h => by
    have := StOk.inss hi hah l (h.insed (x := x) hi hah)
    rw [List.foldl_cons]
    unfold szI at this ⊢
    rw [List.map_cons, List.sum_cons]
    rw [show L + (x.args.length + 1 + (l.map fun x => x.args.length + 1).sum) = L + (x.args.length + 1) + (l.map fun x => x.args.length + 1).sum by omega]
    exact this
theorem stF_len {n : Nat} {ah : List (List Int)} (hah : ∀ i, ∀ a ∈ ah.getD i [], 0 ≤ a ∧ a < (n : Int)) : ∀ (l : List Bl) (i : Nat) {L : Nat} {all : List Sp}, i + l.length = n → StOk n L all → StOk n (L + szB l) (strF ah l i all)
  | [], _, _, _, _, h => h
  | b :: l, i, L, all, hi, h => by
    have hi2 : i < n := by rw [← hi]; simp
    have h1 := StOk.inss hi2 (hah i) b.ins h
    have h2 : StOk n (L + szI b.ins + 1) (blkS i (ah.getD i []) all b) := by
      unfold blkS endS
      split
      · exact h1.askOne hi2 _
      · exact h1.up (Nat.le_succ _)
    have h3 := stF_len hah l (i + 1) (by rw [List.length_cons] at hi; omega) h2
    unfold strF
    unfold szB at h3 ⊢
    rw [List.map_cons, List.sum_cons]
    rw [show L + (szI b.ins + 1 + (l.map fun b => szI b.ins + 1).sum) = L + szI b.ins + 1 + (l.map fun b => szI b.ins + 1).sum by omega]
    exact h3
theorem strips_len {bs : List Bl} {ah : List (List Int)} {nv : Nat} (h : GrOk bs ah nv) : StOk bs.length (szB bs) (stripsP bs ah nv) := by
  have := stF_len h.ah bs 0 (by omega) (stOk_new bs.length ((nv + 63) / 64))
  rw [Nat.zero_add] at this
  exact this
theorem strips_sp {bs : List Bl} {ah : List (List Int)} {nv : Nat} (h : GrOk bs ah nv) (k : Nat) : SpOk bs.length ((stripsP bs ah nv).getD k default) := by
  have hs := strips_ok h
  exact ⟨hs.okS k, hs.okA k, hs.okH k, _, hs.ris k⟩
theorem lin_map {nx : Nat → List Nat} {A T P A' T' P' : Nat → Prop} {n : Nat} (hnx : ∀ i, i < n → ∀ j ∈ nx i, j < n) (hA : ∀ i, i < n → A i → A' i) (hT : ∀ i, i < n → ¬ A i → T i → T' i) (hP : ∀ i, i < n → P i → P' i) {i : Nat} (h : Lin nx A T P i) : i < n → Lin nx A' T' P' i := by
  induction h with
  | ask a => intro hi; exact .ask (hA _ hi a)
  | @phi i t p =>
    intro hi
    by_cases a : A i
    · exact .ask (hA _ hi a)
    · exact .phi (hT _ hi a t) (hP _ hi p)
  | @on i j t m _ ih =>
    intro hi
    by_cases a : A i
    · exact .ask (hA _ hi a)
    · exact .on (hT _ hi a t) m (ih (hnx _ hi _ m))
/-- a settled strip tells what is live -/
theorem strip_live {bs : List Bl} {ah : List (List Int)} {nv : Nat} (h : GrOk bs ah nv) (he : ∀ i j : Nat, (i : Int) ∈ ah.getD j [] ↔ j ∈ nxB bs i) (hl : ah.length = bs.length) (hnx : ∀ i, i < bs.length → ∀ j ∈ nxB bs i, j < bs.length) (v : Nat) {i : Nat} (hi : i < bs.length) :
    (Lin (nxB bs) (sA (strip (stripsP bs ah nv) v) (v % 64)) (fun i => ¬ sS (strip (stripsP bs ah nv) v) (v % 64) i) (sP (strip (stripsP bs ah nv) v) (v % 64)) i ↔ liveIn bs ah v i) ∧
    (Lout (nxB bs) (sA (strip (stripsP bs ah nv) v) (v % 64)) (fun i => ¬ sS (strip (stripsP bs ah nv) v) (v % 64) i) (sP (strip (stripsP bs ah nv) v) (v % 64)) i ↔ liveOut bs ah v i) := by
  have hs := strips_ok h
  have hA : ∀ k, k < bs.length → (sA (strip (stripsP bs ah nv) v) (v % 64) k ↔ firstB (blk bs k) v = 1) := fun k hk => (hs.hA v k).trans ⟨fun q => q.2, fun q => ⟨hk, q⟩⟩
  have hS : ∀ k, k < bs.length → (sS (strip (stripsP bs ah nv) v) (v % 64) k ↔ ∃ x ∈ (blk bs k).ins, setsI x = true ∧ x.dst = v) := fun k hk => (hs.hS v k).trans ⟨fun q => q.2, fun q => ⟨hk, q⟩⟩
  have hP : ∀ k, (sP (strip (stripsP bs ah nv) v) (v % 64) k ↔ phiOut bs ah v k) := fun k => (hs.hH v k).trans (hand_iff (fun i j => (he i j).1) hl)
  have hin : ∀ k, k < bs.length → (Lin (nxB bs) (sA (strip (stripsP bs ah nv) v) (v % 64)) (fun i => ¬ sS (strip (stripsP bs ah nv) v) (v % 64) i) (sP (strip (stripsP bs ah nv) v) (v % 64)) k ↔ liveIn bs ah v k) := fun k hk => by
    constructor
    · exact fun q => lin_map hnx (fun i hi a => (hA i hi).1 a) (fun i hi na t => (firstB_pass _ _ (fun c => na ((hA i hi).2 c))).2 (fun c => t ((hS i hi).2 c))) (fun i _ p => (hP i).1 p) q hk
    · exact fun q => lin_map hnx (fun i hi a => (hA i hi).2 a) (fun i hi na t c => (firstB_pass _ _ na).1 t ((hS i hi).1 c)) (fun i _ p => (hP i).2 p) q hk
  refine ⟨hin i hi, ?_⟩
  constructor
  · rintro (p | ⟨j, m, q⟩)
    · exact .inl ((hP i).1 p)
    · exact .inr ⟨j, m, (hin j (hnx i hi j m)).1 q⟩
  · rintro (p | ⟨j, m, q⟩)
    · exact .inl ((hP i).2 p)
    · exact .inr ⟨j, m, (hin j (hnx i hi j m)).2 q⟩
theorem rowV_add (p : Int → Prop) (a x : Nat) : ∀ j : Nat, (∀ b, b < j → (x.testBit b = true ↔ p ((a + b : Nat) : Int))) → rowV p (a + j) = rowV p a ++ ((List.range j).filter fun b => x.testBit b).map fun b => ((a + b : Nat) : Int)
  | 0, _ => by simp
  | j + 1, h => by
    rw [show a + (j + 1) = a + j + 1 by omega, rowV_succ, rowV_add p a x j fun b hb => h b (by omega), List.range_succ, List.filter_append, List.map_append, List.append_assoc]
    congr 2
    have hj := h j (by omega)
    by_cases hx : x.testBit j = true
    · rw [if_pos (decL_iff.2 (hj.1 hx))]
      simp [hx]
    · rw [if_neg (fun c => hx (hj.2 (decL_iff.1 c)))]
      simp [hx]
theorem rowV_told (p : Int → Prop) (k x : Nat) (h : ∀ b, b < 64 → (x.testBit b = true ↔ p ((64 * k + b : Nat) : Int))) : toldL (rowV p (64 * k)) (k * 64) x = rowV p (64 * (k + 1)) := by
  rw [show 64 * (k + 1) = 64 * k + 64 by omega, rowV_add p (64 * k) x 64 h]
  unfold toldL bitsL
  rw [Nat.mul_comm k 64]
theorem blk_out {bs : List Bl} {k : Nat} (h : bs.length ≤ k) : blk bs k = default := by
  unfold blk; rw [List.getD_eq_getElem?_getD, List.getElem?_eq_none h]; rfl
theorem ask_lt {bs : List Bl} {ah : List (List Int)} {nv : Nat} (h : GrOk bs ah nv) {k : Nat} {v : Int} (hv : (∃ x ∈ (blk bs k).ins, v ∈ x.args) ∨ asksT (blk bs k).tm v = true) : v < (nv : Int) := by
  by_cases hk : k < bs.length
  · rcases hv with ⟨x, hx, ha⟩ | ht
    · exact ((h.ins k hk x hx).args v ha).2
    · unfold asksT at ht
      simp only [Bool.and_eq_true, Bool.or_eq_true, beq_iff_eq] at ht
      have := h.tm k hk ht.1
      omega
  · rw [blk_out (by omega)] at hv
    rcases hv with ⟨x, hx, _⟩ | ht
    · cases hx
    · cases ht
theorem liveIn_lt {bs : List Bl} {ah : List (List Int)} {nv : Nat} (h : GrOk bs ah nv) {v : Int} {i : Nat} (hv : liveIn bs ah v i) : v < (nv : Int) := by
  obtain ⟨k, hk⟩ := live_asked hv
  exact ask_lt h hk
theorem liveOut_lt {bs : List Bl} {ah : List (List Int)} {nv : Nat} (h : GrOk bs ah nv) {v : Int} {i : Nat} (hv : liveOut bs ah v i) : v < (nv : Int) := by
  obtain ⟨j, _, q | ⟨k, _, x, hx, _, ha⟩⟩ := liveOut_iff.1 hv
  · exact liveIn_lt h q
  · exact ask_lt h (k := j) (.inl ⟨x, hx, List.mem_of_getElem? ha⟩)
theorem rowV_more {p : Int → Prop} {n : Nat} (h : ∀ v, p v → v < (n : Int)) : ∀ j : Nat, rowV p (n + j) = rowV p n
  | 0 => rfl
  | j + 1 => by
    rw [show n + (j + 1) = n + j + 1 by omega, rowV_succ, rowV_more h j, if_neg (fun c => by have := h _ (decL_iff.1 c); omega), List.append_nil]
theorem rowV_full {p : Int → Prop} {nv : Nat} (h : ∀ v, p v → v < (nv : Int)) : rowV p (64 * ((nv + 63) / 64)) = rowV p nv := by
  have : 64 * ((nv + 63) / 64) = nv + (64 * ((nv + 63) / 64) - nv) := by omega
  rw [this]
  exact rowV_more h _
end Go.Proofs.YtcggbedjhglmmaaGreatDoor
/- Rows of one's own laid side by side; what Live begins with. -/
namespace Go.Proofs.YtcggbedjhglmmaaGreatDoor
open Go.RowKit

theorem own_low {w : World} {base base' : Nat} {e : TypeId} {size : Nat} {v : Value} {n : Nat} {xs : List Value} (h : w.ownsRow base e size v n xs) (hb : base' ≤ base) : w.ownsRow base' e size v n xs := by
  refine ⟨h.1, ?_⟩
  rcases h.2 with h0 | ⟨g, cap, cur, hv, h1, h2⟩
  · exact .inl h0
  · exact .inr ⟨g, cap, cur, hv, Nat.le_trans hb h1, h2⟩
theorem Heap.append' {w : World} {base : Nat} {a b : List Slot} (ha : Heap w base a) (hb : Heap w base b) (hx : ∀ s ∈ a, ∀ t ∈ b, ∀ g, s.v.ownBlock = some g → t.v.ownBlock ≠ some g) : Heap w base (a ++ b) := by
  refine ⟨fun i s hs => ?_, fun i j s t g hij hs ht hg hc => ?_⟩
  · by_cases h : i < a.length
    · rw [List.getElem?_append_left h] at hs; exact ha.own i s hs
    · rw [List.getElem?_append_right (by omega)] at hs; exact hb.own _ s hs
  · by_cases h : i < a.length
    · rw [List.getElem?_append_left h] at hs
      by_cases k : j < a.length
      · rw [List.getElem?_append_left k] at ht; exact ha.apart i j s t g hij hs ht hg hc
      · rw [List.getElem?_append_right (by omega)] at ht; exact hx s (List.mem_of_getElem? hs) t (List.mem_of_getElem? ht) g hg hc
    · rw [List.getElem?_append_right (by omega)] at hs
      by_cases k : j < a.length
      · rw [List.getElem?_append_left k] at ht; exact hx t (List.mem_of_getElem? ht) s (List.mem_of_getElem? hs) g hc hg
      · rw [List.getElem?_append_right (by omega)] at ht; exact hb.apart _ _ s t g (by omega) hs ht hg hc
theorem Heap.low {w : World} {base base' : Nat} {a : List Slot} (h : Heap w base a) (hb : base' ≤ base) : Heap w base' a := ⟨fun i s hs => own_low (h.own i s hs) hb, h.apart⟩
theorem Heap.rng {w : World} {base : Nat} {a : List Slot} (h : Heap w base a) {s : Slot} (hs : s ∈ a) {g : Nat} (hg : s.v.ownBlock = some g) : base ≤ g ∧ g < w.heap.size := by
  obtain ⟨i, hi⟩ := List.getElem?_of_mem hs
  exact (h.own i s hi).lt g hg
/-- what is older and what is newer -/
theorem Heap.join {w1 w : World} {b0 : Nat} {a b : List Slot} (ha : Heap w1 b0 a) (h0 : b0 ≤ w1.heap.size) (hw : Below w1.heap.size w1 w) (hb : Heap w w1.heap.size b) : Heap w b0 (a ++ b) ∧ Heap w b0 (b ++ a) := by
  have ha' := ha.below hw
  have hb' := hb.low h0
  refine ⟨ha'.append' hb' fun s hs t ht g hg hc => ?_, hb'.append' ha' fun s hs t ht g hg hc => ?_⟩
  · have := (ha.rng hs hg).2; have := (hb.rng ht hc).1; omega
  · have := (ha.rng ht hc).2; have := (hb.rng hs hg).1; omega
def nilI : Slot := ⟨.slice none 0 0, 3, 1, 0, []⟩
theorem heap_nilI (w : World) (base n : Nat) : Heap w base (List.replicate n nilI) := by
  refine ⟨fun i s hs => ?_, fun i j a b g _ ha _ hg => ?_⟩
  · rw [List.eq_of_mem_replicate (List.mem_of_getElem? hs)]; exact World.ownsRow_nil _ _ _ _
  · rw [List.eq_of_mem_replicate (List.mem_of_getElem? ha)] at hg; simp [nilI, Value.ownBlock] at hg
theorem Heap.nils {w : World} {base : Nat} {a : List Slot} (h : Heap w base a) (n : Nat) : Heap w base (a ++ List.replicate n nilI) :=
  h.append' (heap_nilI w base n) fun s _ t ht g _ hc => by rw [List.eq_of_mem_replicate ht] at hc; simp [nilI, Value.ownBlock] at hc
theorem Heap.nil (w : World) (base : Nat) : Heap w base [] := ⟨fun i s hs => by simp at hs, fun i j a b g _ ha => by simp at ha⟩
theorem made_one (v : Value) (n : Nat) : (madeCells #[v] n).toList = List.replicate n v := by
  refine List.ext_getElem (by simp [size_madeCells]) fun k h1 h2 => ?_
  rw [List.getElem_replicate]
  simp [madeCells, Nat.mod_one]
theorem map_wd (n : Nat) : (List.replicate n 0).map wd = List.replicate n (.int .u64 0) := by simp
theorem ptr_row {w : World} {base g n c : Nat} {e : TypeId} {sz : Nat} {cs : List Value} (h : w.ownsRow base e sz (.slice (some ⟨g, 0, none⟩) n c) n cs) : (⟨.slice (some ⟨g, 0, none⟩) n c, e, sz, n, cs⟩ : Slot).At w base := h
def wordS (g n : Nat) : Slot := ⟨rowN g n, 52, 1, n, (List.replicate n 0).map wd⟩
theorem zero_row (W : World) (n base : Nat) (hn : n ≤ 1000000) (hb : base ≤ W.heap.size) : (wordS W.heap.size n).At (wZ W n) base := by
  have h := World.ownsRow_lit (base := base) (e := 52) (size := 1) W (madeCells #[.int .u64 0] n) n hb (by unfold maxLen; omega) (by simp [size_madeCells])
  rw [made_one, ← map_wd] at h
  exact h
def boxF (F : Nat) (cs : List Value) : Slot := ⟨.slice (some ⟨F, 0, none⟩) 1 1, 77, 7, 1, cs⟩
theorem flow_heap (W : World) (n : Nat) (hn : n ≤ 1000000) (av : Value) :
    Heap ((wZ (wZ (wZ (wZ W n) n) n) n).alloc (.cells #[av, rowN W.heap.size n, rowN (W.heap.size + 1) n, rowN (W.heap.size + 2) n, rowN (W.heap.size + 3) n, .slice none 0 0, .slice none 0 0] 77)) W.heap.size
      [boxF (W.heap.size + 4) [av, rowN W.heap.size n, rowN (W.heap.size + 1) n, rowN (W.heap.size + 2) n, rowN (W.heap.size + 3) n, .slice none 0 0, .slice none 0 0], wordS W.heap.size n, wordS (W.heap.size + 1) n, wordS (W.heap.size + 2) n, wordS (W.heap.size + 3) n, nilI, nilI] := by
  have e1 : (wZ W n).heap.size = W.heap.size + 1 := by simp
  have e2 : (wZ (wZ W n) n).heap.size = W.heap.size + 2 := by simp
  have e3 : (wZ (wZ (wZ W n) n) n).heap.size = W.heap.size + 3 := by simp
  have e4 : (wZ (wZ (wZ (wZ W n) n) n) n).heap.size = W.heap.size + 4 := by simp
  have ob : ∀ g, (wordS g n).v.ownBlock = some g := fun g => rfl
  have h1 := (Heap.nil W W.heap.size).more (below_alloc (Below.refl _ _) _) (zero_row W n W.heap.size hn (Nat.le_refl _)) (fun g hg => by cases hg; exact Nat.le_refl _)
  have h2 := h1.more (below_alloc (Below.refl _ _) _) (zero_row (wZ W n) n W.heap.size hn (by omega)) (fun g hg => by cases hg; exact Nat.le_refl _)
  have h3 := h2.more (below_alloc (Below.refl _ _) _) (zero_row (wZ (wZ W n) n) n W.heap.size hn (by omega)) (fun g hg => by cases hg; exact Nat.le_refl _)
  have h4 := h3.more (below_alloc (Below.refl _ _) _) (zero_row (wZ (wZ (wZ W n) n) n) n W.heap.size hn (by omega)) (fun g hg => by cases hg; exact Nat.le_refl _)
  rw [e1, e2, e3] at h4
  have hbx := World.ownsRow_lit (base := (wZ (wZ (wZ (wZ W n) n) n) n).heap.size) (e := 77) (size := 7) (wZ (wZ (wZ (wZ W n) n) n) n) #[av, rowN W.heap.size n, rowN (W.heap.size + 1) n, rowN (W.heap.size + 2) n, rowN (W.heap.size + 3) n, .slice none 0 0, .slice none 0 0] 1 (Nat.le_refl _) (by unfold maxLen; omega) (by simp)
  have h5 : Heap ((wZ (wZ (wZ (wZ W n) n) n) n).alloc (.cells #[av, rowN W.heap.size n, rowN (W.heap.size + 1) n, rowN (W.heap.size + 2) n, rowN (W.heap.size + 3) n, .slice none 0 0, .slice none 0 0] 77)) (wZ (wZ (wZ (wZ W n) n) n) n).heap.size [boxF (W.heap.size + 4) [av, rowN W.heap.size n, rowN (W.heap.size + 1) n, rowN (W.heap.size + 2) n, rowN (W.heap.size + 3) n, .slice none 0 0, .slice none 0 0]] := by
    refine ⟨fun i s hs => ?_, fun i j a b g hij ha hb => ?_⟩
    · cases i with
      | zero => cases hs; rw [e4] at hbx; rw [e4]; exact hbx
      | succ i => simp at hs
    · cases i with
      | zero => cases j with
        | zero => exact absurd rfl hij
        | succ j => simp at hb
      | succ i => simp at ha
  have h6 := (h4.join (by show W.heap.size ≤ (wZ (wZ (wZ (wZ W n) n) n) n).heap.size; omega) (below_alloc (Below.refl _ _) _) h5).2
  exact h6.nils 2
/-- two heads of rows, made in any order -/
def hdS (d : Bool) (x : Value) (n : Nat) : Slot := if d then ⟨x, 22, 1, n, List.replicate n (.slice none 0 0)⟩ else nilI
theorem infoIL : (Tryz.prog.info? 22).map (fun i => (i.zero, i.size, i.bytes)) = some (some (.slice none 0 0), 1, 24) := by kernel_rfl
abbrev wR (W : World) (n : Nat) : World := W.alloc (.cells (madeCells #[.slice none 0 0] n) 22)
theorem make_rowsL (n : Nat) (hn : n ≤ 1000000) (W : World) : (Instr.makeSlice 31 (.int .i64 (n : Int)) (.int .i64 (n : Int))).run Tryz.prog W = .ok (.slice (some ⟨W.heap.size, 0, none⟩) n n) (wR W n) := by
  obtain ⟨i, hi, hz, hs, hb⟩ := info_parts infoIL
  have hr := run_make (P := Tryz.prog) W 31 22 i _ Tryz.underlying31 hi hz .i64 .i64 n n (by omega) (Int.le_refl _) (by rw [hb]; omega) (by omega)
  simp only [Int.toNat_natCast, hs, Nat.mul_one] at hr
  exact hr
structure R2 (W wr : World) (n : Nat) (y2 y5 y6 y7 : Bool) (x18 x21 x6 x7 : Value) : Prop where
  hp : Heap wr W.heap.size [hdS y2 x18 n, hdS y5 x21 n]
  bel : Below W.heap.size W wr
  v2 : y2 = true → ∃ g, x18 = rowN g n
  v5 : y5 = true → ∃ g, x21 = rowN g n
  v6 : y6 = true → x6 = x18
  v7 : y7 = true → x7 = x21
  i6 : y6 = true → y2 = true
  i7 : y7 = true → y5 = true
theorem R2.start (W : World) (n : Nat) (x18 x21 x6 x7 : Value) : R2 W W.drew n false false false false x18 x21 x6 x7 :=
  ⟨heap_nilI _ _ 2, below_drew (Below.refl _ _), by simp, by simp, by simp, by simp, by simp, by simp⟩
theorem head_row (W : World) (n base : Nat) (hn : n ≤ 1000000) (hb : base ≤ W.heap.size) : (hdS true (rowN W.heap.size n) n).At (wR W n) base := by
  have h := World.ownsRow_lit (base := base) (e := 22) (size := 1) W (madeCells #[.slice none 0 0] n) n hb (by unfold maxLen; omega) (by simp [size_madeCells])
  rw [made_one] at h
  exact h
theorem R2.make0 {W wr : World} {n : Nat} {y5 y6 y7 : Bool} {x18 x21 x6 x7 : Value} (h : R2 W wr n false y5 y6 y7 x18 x21 x6 x7) (hn : n ≤ 1000000) : R2 W (wR wr n) n true y5 y6 y7 (rowN wr.heap.size n) x21 x6 x7 := by
  have hi : y6 = false := by
    rcases e : y6 with _ | _
    · rfl
    · have := h.i6 e; cases this
  subst hi
  have hh := h.hp.turn (i := 0) (s := nilI) (s' := hdS true (rowN wr.heap.size n) n) rfl (fun k hk _ => (below_alloc (Below.refl _ wr) _).block k hk) (head_row wr n _ hn h.bel.size) (fun g hg => .inr (by cases hg; exact Nat.le_refl _))
  exact ⟨hh, below_alloc h.bel _, fun _ => ⟨_, rfl⟩, h.v5, by simp, h.v7, by simp, h.i7⟩
theorem R2.make1 {W wr : World} {n : Nat} {y2 y6 y7 : Bool} {x18 x21 x6 x7 : Value} (h : R2 W wr n y2 false y6 y7 x18 x21 x6 x7) (hn : n ≤ 1000000) : R2 W (wR wr n) n y2 true y6 y7 x18 (rowN wr.heap.size n) x6 x7 := by
  have hi : y7 = false := by
    rcases e : y7 with _ | _
    · rfl
    · have := h.i7 e; cases this
  subst hi
  have hh := h.hp.turn (i := 1) (s := nilI) (s' := hdS true (rowN wr.heap.size n) n) rfl (fun k hk _ => (below_alloc (Below.refl _ wr) _).block k hk) (head_row wr n _ hn h.bel.size) (fun g hg => .inr (by cases hg; exact Nat.le_refl _))
  exact ⟨hh, below_alloc h.bel _, h.v2, fun _ => ⟨_, rfl⟩, h.v6, by simp, h.i6, by simp⟩
theorem R2.set0 {W wr : World} {n : Nat} {y5 y7 : Bool} {x18 x21 x6 x7 : Value} (h : R2 W wr n true y5 false y7 x18 x21 x6 x7) : R2 W wr n true y5 true y7 x18 x21 x18 x7 :=
  ⟨h.hp, h.bel, h.v2, h.v5, fun _ => rfl, h.v7, fun _ => rfl, h.i7⟩
theorem R2.set1 {W wr : World} {n : Nat} {y2 y6 : Bool} {x18 x21 x6 x7 : Value} (h : R2 W wr n y2 true y6 false x18 x21 x6 x7) : R2 W wr n y2 true y6 true x18 x21 x6 x21 :=
  ⟨h.hp, h.bel, h.v2, h.v5, h.v6, fun _ => rfl, h.i6, fun _ => rfl⟩
/-- all that Live's loop stands on -/
theorem live_heap {W wr w4 w5 : World} {n gA gB : Nat} {fl ss : List Slot} (h : R2 W wr n true true true true (rowN gA n) (rowN gB n) (rowN gA n) (rowN gB n)) (hf : Heap w4 wr.heap.size fl) (hb4 : Below wr.heap.size wr w4) (hs : Heap w5 w4.heap.size ss) (hb5 : Below w4.heap.size w4 w5) :
    Heap w5 W.heap.size ((fl ++ ((hdS true (rowN gA n) n :: List.replicate n nilI) ++ (hdS true (rowN gB n) n :: List.replicate n nilI))) ++ ss) := by
  have hA : Heap wr W.heap.size [hdS true (rowN gA n) n] := ⟨fun i s hs => h.hp.own i s (by cases i with | zero => exact hs | succ i => simp at hs), fun i j a b g hij ha hb => by
    cases i with
    | zero => cases j with
      | zero => exact absurd rfl hij
      | succ j => simp at hb
    | succ i => simp at ha⟩
  have hB : Heap wr W.heap.size [hdS true (rowN gB n) n] := ⟨fun i s hs => by
    cases i with
    | zero => exact h.hp.own 1 s hs
    | succ i => simp at hs, fun i j a b g hij ha hb => by
    cases i with
    | zero => cases j with
      | zero => exact absurd rfl hij
      | succ j => simp at hb
    | succ i => simp at ha⟩
  have hne : ∀ g, (hdS true (rowN gA n) n).v.ownBlock = some g → (hdS true (rowN gB n) n).v.ownBlock ≠ some g := fun g => h.hp.apart 0 1 _ _ g (by decide) rfl rfl
  have hAB : Heap wr W.heap.size ((hdS true (rowN gA n) n :: List.replicate n nilI) ++ (hdS true (rowN gB n) n :: List.replicate n nilI)) := by
    refine (hA.nils n).append' (hB.nils n) fun s hs t ht g hg hc => ?_
    have ns : ∀ u ∈ List.replicate n nilI, u.v.ownBlock ≠ some g := fun u hu e => by rw [List.eq_of_mem_replicate hu] at e; simp [nilI, Value.ownBlock] at e
    rcases List.mem_cons.1 hs with rfl | hs
    · rcases List.mem_cons.1 ht with rfl | ht
      · exact hne g hg hc
      · exact ns t ht hc
    · exact ns s hs hg
  have h1 := (hAB.join h.bel.size hb4 hf).2
  exact (h1.join (Nat.le_trans h.bel.size hb4.size) hb5 hs).1
end Go.Proofs.YtcggbedjhglmmaaGreatDoor
