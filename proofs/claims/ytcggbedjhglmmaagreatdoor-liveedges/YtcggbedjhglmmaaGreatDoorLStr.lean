/- Strips, plain: for each 64 variables what blocks set, ask first, and are asked for by phis. No program. -/
import Derived.Test.YtcggbedjhglmmaaGreatDoorLRfM
import Derived.Test.YtcggbedjhglmmaaGreatDoorLFlow
namespace Go.Proofs.YtcggbedjhglmmaaGreatDoor

abbrev Mk := Nat × Nat
structure Sp where
  sets : List Mk
  asks : List Mk
  hands : List Mk
  deriving Inhabited
def lastM (l : List Mk) (i : Nat) : Nat := match l.getLast? with
  | none => 0
  | some m => if m.1 = i then m.2 else 0
def laidM (l : List Mk) (i x : Nat) : List Mk := if lastM l i = 0 then l ++ [(i, x)] else l.set (l.length - 1) (i, lastM l i ||| x)
def bitW (v : Nat) : Nat := 2 ^ (v % 64)
theorem bitW_lt (v : Nat) : bitW v < 2 ^ 64 := Nat.pow_lt_pow_right (by omega) (Nat.mod_lt _ (by omega))
theorem bitW_ne (v : Nat) : bitW v ≠ 0 := Nat.ne_of_gt (Nat.two_pow_pos _)
theorem bitW_bit (v b : Nat) : (bitW v).testBit b = decide (b = v % 64) := by
  unfold bitW; rw [Nat.testBit_two_pow]; exact decide_eq_decide.2 eq_comm
def strip (all : List Sp) (v : Nat) : Sp := all.getD (v / 64) default
def spSet (s : Sp) (i v : Nat) : Sp := ⟨laidM s.sets i (bitW v), s.asks, s.hands⟩
def spAsk (s : Sp) (i v : Nat) : Sp := ⟨s.sets, laidM s.asks i (bitW v), s.hands⟩
def spHand (s : Sp) (i v : Nat) : Sp := ⟨s.sets, s.asks, laidM s.hands i (bitW v)⟩
def addSet (all : List Sp) (i v : Nat) : List Sp := all.set (v / 64) (spSet (strip all v) i v)
def addAsk (all : List Sp) (i v : Nat) : List Sp := all.set (v / 64) (spAsk (strip all v) i v)
def addHand (all : List Sp) (i v : Nat) : List Sp := all.set (v / 64) (spHand (strip all v) i v)
def askOne (i : Nat) (all : List Sp) (a : Int) : List Sp := if lastM (strip all a.toNat).sets i &&& bitW a.toNat = 0 then addAsk all i a.toNat else all
def askAll (i : Nat) (all : List Sp) (l : List Int) : List Sp := l.foldl (askOne i) all
def handOne (all : List Sp) (q : Int × Int) : List Sp := addHand all q.2.toNat q.1.toNat
def handAll (all : List Sp) (ah l : List Int) : List Sp := (l.zip ah).foldl handOne all
def insS (i : Nat) (ah : List Int) (all : List Sp) (x : In) : List Sp :=
  let a := if x.kind = 1 then handAll all ah x.args else askAll i all x.args
  if setsI x = true then addSet a i x.dst.toNat else a
def endS (i : Nat) (all : List Sp) (t : Tm) : List Sp := if t.kind = 2 ∨ t.kind = 3 then askOne i all t.arg else all
def blkS (i : Nat) (ah : List Int) (all : List Sp) (b : Bl) : List Sp := endS i (b.ins.foldl (insS i ah) all) b.tm
def strF (ah : List (List Int)) : List Bl → Nat → List Sp → List Sp
  | [], _, all => all
  | b :: bs, i, all => strF ah bs (i + 1) (blkS i (ah.getD i []) all b)
def emp : Sp := ⟨[], [], []⟩
def stripsP (bs : List Bl) (ah : List (List Int)) (nv : Nat) : List Sp := strF ah bs 0 (List.replicate ((nv + 63) / 64) emp)
theorem strF_drop {ah : List (List Int)} {bs : List Bl} {i : Nat} (h : i < bs.length) (all : List Sp) : strF ah (bs.drop i) i all = strF ah (bs.drop (i + 1)) (i + 1) (blkS i (ah.getD i []) all (blk bs i)) := by
  have e : blk bs i = bs[i] := by simp [blk, List.getD, List.getElem?_eq_getElem h]
  rw [e, List.drop_eq_getElem_cons h]
  rfl

/-- a mark of a block that has a bit -/
def HasM (l : List Mk) (i b : Nat) : Prop := ∃ x, (i, x) ∈ l ∧ x.testBit b = true
structure OkM (n : Nat) (l : List Mk) : Prop where
  lt : ∀ m ∈ l, m.1 < n
  ne : ∀ m ∈ l, m.2 ≠ 0
  w : ∀ m ∈ l, m.2 < 2 ^ 64
theorem lastM_snoc (l : List Mk) (m : Mk) (i : Nat) : lastM (l ++ [m]) i = if m.1 = i then m.2 else 0 := by
  unfold lastM; simp
theorem laidM_nil (i x : Nat) : laidM [] i x = [(i, x)] := by simp [laidM, lastM]
theorem laidM_snoc (l : List Mk) (m : Mk) (i x : Nat) : laidM (l ++ [m]) i x = if m.1 = i ∧ m.2 ≠ 0 then l ++ [(i, m.2 ||| x)] else l ++ [m] ++ [(i, x)] := by
  unfold laidM
  rw [lastM_snoc]
  by_cases h : m.1 = i
  · by_cases h2 : m.2 = 0
    · rw [if_pos h, if_pos h2, if_neg (fun hc => hc.2 h2)]
    · rw [if_pos h, if_neg h2, if_pos ⟨h, h2⟩, List.set_append_right _ _ (by simp)]
      simp
  · rw [if_neg h, if_pos rfl, if_neg (fun hc => h hc.1)]
theorem snoc_of (l : List Mk) : l = [] ∨ ∃ l' m, l = l' ++ [m] := by
  rcases List.eq_nil_or_concat l with h | ⟨l', m, h⟩
  · exact .inl h
  · exact .inr ⟨l', m, by rw [h, List.concat_eq_append]⟩
theorem laidM_has (l : List Mk) (i x j b : Nat) : HasM (laidM l i x) j b ↔ HasM l j b ∨ (j = i ∧ x.testBit b = true) := by
  unfold HasM
  rcases snoc_of l with rfl | ⟨l', m, rfl⟩
  · rw [laidM_nil]
    constructor
    · rintro ⟨y, h, hb⟩
      simp only [List.mem_singleton] at h
      cases h; exact .inr ⟨rfl, hb⟩
    · rintro (⟨y, h, hb⟩ | ⟨rfl, hb⟩)
      · simp at h
      · exact ⟨x, by simp, hb⟩
  · rw [laidM_snoc]
    by_cases hm : m.1 = i ∧ m.2 ≠ 0
    · rw [if_pos hm]
      obtain ⟨m1, m2⟩ := m
      have hm := hm.1
      simp only at hm
      subst hm
      simp only [List.mem_append, List.mem_singleton]
      constructor
      · rintro ⟨y, h | h, hb⟩
        · exact .inl ⟨y, .inl h, hb⟩
        · cases h
          rw [Nat.testBit_or, Bool.or_eq_true] at hb
          rcases hb with hb | hb
          · exact .inl ⟨m2, .inr rfl, hb⟩
          · exact .inr ⟨rfl, hb⟩
      · rintro (⟨y, h | h, hb⟩ | ⟨rfl, hb⟩)
        · exact ⟨y, .inl h, hb⟩
        · cases h
          exact ⟨_, .inr rfl, by rw [Nat.testBit_or, hb, Bool.true_or]⟩
        · exact ⟨_, .inr rfl, by rw [Nat.testBit_or, hb, Bool.or_true]⟩
    · rw [if_neg hm]
      constructor
      · rintro ⟨y, h, hb⟩
        rw [List.mem_append, List.mem_singleton] at h
        rcases h with h | h
        · exact .inl ⟨y, h, hb⟩
        · cases h; exact .inr ⟨rfl, hb⟩
      · rintro (⟨y, h, hb⟩ | ⟨rfl, hb⟩)
        · exact ⟨y, List.mem_append_left _ h, hb⟩
        · exact ⟨x, by simp, hb⟩
theorem laidM_ok {n : Nat} {l : List Mk} (h : OkM n l) {i x : Nat} (hi : i < n) (hx : x ≠ 0) (hw : x < 2 ^ 64) : OkM n (laidM l i x) := by
  rcases snoc_of l with rfl | ⟨l', m, rfl⟩
  · rw [laidM_nil]
    exact ⟨by simpa using hi, by simpa using hx, by simpa using hw⟩
  · rw [laidM_snoc]
    split
    · have hm := h.w m (by simp)
      refine ⟨fun k hk => ?_, fun k hk => ?_, fun k hk => ?_⟩ <;> (rw [List.mem_append, List.mem_singleton] at hk; rcases hk with hk | rfl)
      · exact h.lt k (by simp [hk])
      · exact hi
      · exact h.ne k (by simp [hk])
      · exact fun e => hx (or_ne.1 e).2
      · exact h.w k (by simp [hk])
      · exact or_lt64 hm hw
    · refine ⟨fun k hk => ?_, fun k hk => ?_, fun k hk => ?_⟩ <;> (rw [List.mem_append, List.mem_singleton] at hk; rcases hk with hk | rfl)
      · exact h.lt k hk
      · exact hi
      · exact h.ne k hk
      · exact hx
      · exact h.w k hk
      · exact hw
/-- rising blocks, at most c -/
structure Ris (c : Nat) (l : List Mk) : Prop where
  le : ∀ m ∈ l, m.1 ≤ c
  pw : l.Pairwise fun a b => a.1 < b.1
theorem Ris.mono {c d : Nat} {l : List Mk} (h : Ris c l) (hd : c ≤ d) : Ris d l := ⟨fun m hm => Nat.le_trans (h.le m hm) hd, h.pw⟩
theorem Ris.laid {c n : Nat} {l : List Mk} (h : Ris c l) (hok : OkM n l) (x : Nat) : Ris c (laidM l c x) := by
  rcases snoc_of l with rfl | ⟨l', m, rfl⟩
  · rw [laidM_nil]; exact ⟨by simp, by simp⟩
  · rw [laidM_snoc]
    have hp := List.pairwise_append.1 h.pw
    by_cases h0 : m.1 = c ∧ m.2 ≠ 0
    · rw [if_pos h0]
      refine ⟨fun k hk => ?_, List.pairwise_append.2 ⟨hp.1, by simp, fun a ha b hb => ?_⟩⟩
      · rw [List.mem_append, List.mem_singleton] at hk
        rcases hk with hk | rfl
        · exact h.le k (by simp [hk])
        · exact Nat.le_refl _
      · simp at hb; subst hb; have := hp.2.2 a ha m (by simp); have := h0.1; show a.1 < c; omega
    · rw [if_neg h0]
      have hm : m.1 ≠ c := fun e => h0 ⟨e, hok.ne m (by simp)⟩
      have hlt : ∀ k ∈ l' ++ [m], k.1 < c := fun k hk => by
        have hmc := h.le m (by simp)
        rw [List.mem_append, List.mem_singleton] at hk
        rcases hk with hk | rfl
        · have := hp.2.2 k hk m (by simp); omega
        · omega
      refine ⟨fun k hk => ?_, List.pairwise_append.2 ⟨h.pw, by simp, fun a ha b hb => ?_⟩⟩
      · rw [List.mem_append, List.mem_singleton] at hk
        rcases hk with hk | rfl
        · exact h.le k hk
        · exact Nat.le_refl _
      · simp at hb; subst hb; exact hlt a ha
/-- the last mark's bits are the block's -/
theorem Ris.last {c : Nat} {l : List Mk} (h : Ris c l) (b : Nat) : (lastM l c).testBit b = true ↔ HasM l c b := by
  rcases snoc_of l with rfl | ⟨l', m, rfl⟩
  · simp [lastM, HasM]
  · rw [lastM_snoc]
    have hp := List.pairwise_append.1 h.pw
    unfold HasM
    constructor
    · intro hb
      split at hb
      · rename_i e; obtain ⟨m1, m2⟩ := m; simp only at e; subst e; exact ⟨m2, by simp, hb⟩
      · simp at hb
    · rintro ⟨x, hx, hb⟩
      rw [List.mem_append, List.mem_singleton] at hx
      rcases hx with hx | rfl
      · have h1 := hp.2.2 _ hx m (by simp)
        have h2 := h.le m (by simp)
        dsimp only at h1; omega
      · simpa using hb
theorem Ris.uniq {c : Nat} {l : List Mk} (h : Ris c l) {i x y : Nat} (hx : (i, x) ∈ l) (hy : (i, y) ∈ l) : x = y := by
  have := h.pw
  clear h
  induction l with
  | nil => simp at hx
  | cons m l ih =>
    rw [List.pairwise_cons] at this
    rcases List.mem_cons.1 hx with e1 | h1 <;> rcases List.mem_cons.1 hy with e2 | h2
    · have e3 : (i, x) = (i, y) := e1.trans e2.symm
      cases e3; rfl
    · have := this.1 _ h2; rw [← e1] at this; dsimp only at this; omega
    · have := this.1 _ h1; rw [← e2] at this; dsimp only at this; omega
    · exact ih h1 h2 this.2

/-- all strips, as far as they are laid -/
structure StI (n nv c : Nat) (Sv Av Hv : Nat → Nat → Prop) (all : List Sp) : Prop where
  len : all.length = (nv + 63) / 64
  okS : ∀ k, OkM n (all.getD k default).sets
  okA : ∀ k, OkM n (all.getD k default).asks
  okH : ∀ k, OkM n (all.getD k default).hands
  ris : ∀ k, Ris c (all.getD k default).sets
  hS : ∀ v i, HasM (strip all v).sets i (v % 64) ↔ Sv v i
  hA : ∀ v i, HasM (strip all v).asks i (v % 64) ↔ Av v i
  hH : ∀ v i, HasM (strip all v).hands i (v % 64) ↔ Hv v i
theorem getD_setS {l : List Sp} {k : Nat} {s : Sp} (h : k < l.length) (z : Nat) : (l.set k s).getD z default = if z = k then s else l.getD z default := by
  rw [List.getD_eq_getElem?_getD, List.getD_eq_getElem?_getD, List.getElem?_set]
  by_cases e : k = z
  · subst e; simp [h]
  · rw [if_neg e, if_neg (fun e2 => e e2.symm)]
theorem bit_same {v u : Nat} (h : v / 64 = u / 64) : (bitW u).testBit (v % 64) = true ↔ v = u := by
  rw [bitW_bit, decide_eq_true_iff]; omega
theorem OkM.nil (n : Nat) : OkM n [] := ⟨by simp, by simp, by simp⟩
theorem StI.start (n nv : Nat) : StI n nv 0 (fun _ _ => False) (fun _ _ => False) (fun _ _ => False) (List.replicate ((nv + 63) / 64) emp) := by
  have e : ∀ k, (List.replicate ((nv + 63) / 64) emp).getD k default = ⟨[], [], []⟩ := fun k => by
    rw [List.getD_eq_getElem?_getD, List.getElem?_replicate]; split <;> rfl
  refine ⟨by simp, fun k => ?_, fun k => ?_, fun k => ?_, fun k => ?_, fun v i => ?_, fun v i => ?_, fun v i => ?_⟩
  · rw [e]; exact OkM.nil _
  · rw [e]; exact OkM.nil _
  · rw [e]; exact OkM.nil _
  · rw [e]; exact ⟨by simp, by simp⟩
  · unfold strip; rw [e]; simp [HasM]
  · unfold strip; rw [e]; simp [HasM]
  · unfold strip; rw [e]; simp [HasM]
theorem StI.mono {n nv c d : Nat} {Sv Av Hv Sv' Av' Hv' : Nat → Nat → Prop} {all : List Sp} (h : StI n nv c Sv Av Hv all) (hd : c ≤ d) (hs : ∀ v i, Sv v i ↔ Sv' v i) (ha : ∀ v i, Av v i ↔ Av' v i) (hh : ∀ v i, Hv v i ↔ Hv' v i) : StI n nv d Sv' Av' Hv' all :=
  ⟨h.len, h.okS, h.okA, h.okH, fun k => (h.ris k).mono hd, fun v i => (h.hS v i).trans (hs v i), fun v i => (h.hA v i).trans (ha v i), fun v i => (h.hH v i).trans (hh v i)⟩
theorem StI.addSet {n nv c : Nat} {Sv Av Hv : Nat → Nat → Prop} {all : List Sp} (h : StI n nv c Sv Av Hv all) (hc : c < n) {u : Nat} (hu : u < nv) : StI n nv c (fun v i => Sv v i ∨ (v = u ∧ i = c)) Av Hv (addSet all c u) := by
  have hk : u / 64 < all.length := by rw [h.len]; omega
  have g := fun z => getD_setS (s := spSet (strip all u) c u) hk z
  unfold Go.Proofs.YtcggbedjhglmmaaGreatDoor.addSet
  refine ⟨by simpa using h.len, fun k => ?_, fun k => ?_, fun k => ?_, fun k => ?_, fun v i => ?_, fun v i => ?_, fun v i => ?_⟩
  · rw [g]; split
    · exact laidM_ok (h.okS _) hc (bitW_ne u) (bitW_lt u)
    · exact h.okS k
  · rw [g]; split
    · exact h.okA _
    · exact h.okA k
  · rw [g]; split
    · exact h.okH _
    · exact h.okH k
  · rw [g]; split
    · exact (h.ris _).laid (h.okS _) _
    · exact h.ris k
  · show HasM (Sp.sets ((List.set _ _ _).getD (v / 64) default)) i (v % 64) ↔ _; rw [g]; split
    · rename_i e
      have hb := bit_same e
      unfold spSet; dsimp only; rw [laidM_has, hb, ← h.hS v i]
      have e2 : strip all u = strip all v := by unfold strip; rw [e]
      rw [e2, and_comm]
    · rename_i e
      rw [← h.hS v i]
      exact ⟨.inl, fun q => q.elim id fun q => absurd (by rw [q.1]) e⟩
  · show HasM (Sp.asks ((List.set _ _ _).getD (v / 64) default)) i (v % 64) ↔ _; rw [g]; split
    · rename_i e
      rw [← h.hA v i]; unfold strip; rw [e]; exact Iff.rfl
    · exact h.hA v i
  · show HasM (Sp.hands ((List.set _ _ _).getD (v / 64) default)) i (v % 64) ↔ _; rw [g]; split
    · rename_i e
      rw [← h.hH v i]; unfold strip; rw [e]; exact Iff.rfl
    · exact h.hH v i
theorem StI.addAsk {n nv c : Nat} {Sv Av Hv : Nat → Nat → Prop} {all : List Sp} (h : StI n nv c Sv Av Hv all) (hc : c < n) {u : Nat} (hu : u < nv) : StI n nv c Sv (fun v i => Av v i ∨ (v = u ∧ i = c)) Hv (addAsk all c u) := by
  have hk : u / 64 < all.length := by rw [h.len]; omega
  have g := fun z => getD_setS (s := spAsk (strip all u) c u) hk z
  unfold Go.Proofs.YtcggbedjhglmmaaGreatDoor.addAsk
  refine ⟨by simpa using h.len, fun k => ?_, fun k => ?_, fun k => ?_, fun k => ?_, fun v i => ?_, fun v i => ?_, fun v i => ?_⟩
  · rw [g]; split
    · exact h.okS _
    · exact h.okS k
  · rw [g]; split
    · exact laidM_ok (h.okA _) hc (bitW_ne u) (bitW_lt u)
    · exact h.okA k
  · rw [g]; split
    · exact h.okH _
    · exact h.okH k
  · rw [g]; split
    · exact h.ris _
    · exact h.ris k
  · show HasM (Sp.sets ((List.set _ _ _).getD (v / 64) default)) i (v % 64) ↔ _; rw [g]; split
    · rename_i e
      rw [← h.hS v i]; unfold strip; rw [e]; exact Iff.rfl
    · exact h.hS v i
  · show HasM (Sp.asks ((List.set _ _ _).getD (v / 64) default)) i (v % 64) ↔ _; rw [g]; split
    · rename_i e
      have hb := bit_same e
      unfold spAsk; dsimp only; rw [laidM_has, hb, ← h.hA v i]
      have e2 : strip all u = strip all v := by unfold strip; rw [e]
      rw [e2, and_comm]
    · rename_i e
      rw [← h.hA v i]
      exact ⟨.inl, fun q => q.elim id fun q => absurd (by rw [q.1]) e⟩
  · show HasM (Sp.hands ((List.set _ _ _).getD (v / 64) default)) i (v % 64) ↔ _; rw [g]; split
    · rename_i e
      rw [← h.hH v i]; unfold strip; rw [e]; exact Iff.rfl
    · exact h.hH v i
theorem StI.addHand {n nv c : Nat} {Sv Av Hv : Nat → Nat → Prop} {all : List Sp} (h : StI n nv c Sv Av Hv all) {j : Nat} (hj : j < n) {u : Nat} (hu : u < nv) : StI n nv c Sv Av (fun v i => Hv v i ∨ (v = u ∧ i = j)) (addHand all j u) := by
  have hk : u / 64 < all.length := by rw [h.len]; omega
  have g := fun z => getD_setS (s := spHand (strip all u) j u) hk z
  unfold Go.Proofs.YtcggbedjhglmmaaGreatDoor.addHand
  refine ⟨by simpa using h.len, fun k => ?_, fun k => ?_, fun k => ?_, fun k => ?_, fun v i => ?_, fun v i => ?_, fun v i => ?_⟩
  · rw [g]; split
    · exact h.okS _
    · exact h.okS k
  · rw [g]; split
    · exact h.okA _
    · exact h.okA k
  · rw [g]; split
    · exact laidM_ok (h.okH _) hj (bitW_ne u) (bitW_lt u)
    · exact h.okH k
  · rw [g]; split
    · exact h.ris _
    · exact h.ris k
  · show HasM (Sp.sets ((List.set _ _ _).getD (v / 64) default)) i (v % 64) ↔ _; rw [g]; split
    · rename_i e
      rw [← h.hS v i]; unfold strip; rw [e]; exact Iff.rfl
    · exact h.hS v i
  · show HasM (Sp.asks ((List.set _ _ _).getD (v / 64) default)) i (v % 64) ↔ _; rw [g]; split
    · rename_i e
      rw [← h.hA v i]; unfold strip; rw [e]; exact Iff.rfl
    · exact h.hA v i
  · show HasM (Sp.hands ((List.set _ _ _).getD (v / 64) default)) i (v % 64) ↔ _; rw [g]; split
    · rename_i e
      have hb := bit_same e
      unfold spHand; dsimp only; rw [laidM_has, hb, ← h.hH v i]
      have e2 : strip all u = strip all v := by unfold strip; rw [e]
      rw [e2, and_comm]
    · rename_i e
      rw [← h.hH v i]
      exact ⟨.inl, fun q => q.elim id fun q => absurd (by rw [q.1]) e⟩
/-- what is asked of a block, but for what it has set -/
theorem and_bit_zero {x v : Nat} : x &&& bitW v = 0 ↔ x.testBit (v % 64) = false := by
  constructor
  · intro h
    have := congrArg (·.testBit (v % 64)) h
    simp only [Nat.testBit_and, bitW_bit, Nat.zero_testBit, decide_true, Bool.and_true] at this
    exact this
  · intro h
    refine Nat.eq_of_testBit_eq fun b => ?_
    rw [Nat.testBit_and, bitW_bit, Nat.zero_testBit]
    by_cases e : b = v % 64
    · rw [e, h]; rfl
    · simp [e]
theorem StI.asked1 {n nv c : Nat} {Sv Av Hv : Nat → Nat → Prop} {all : List Sp} (h : StI n nv c Sv Av Hv all) (hc : c < n) {a : Int} (h0 : 0 ≤ a) (ha : a < (nv : Int)) : StI n nv c Sv (fun v i => Av v i ∨ ((v : Int) = a ∧ i = c ∧ ¬ Sv v c)) Hv (askOne c all a) := by
  have hl := (h.ris (a.toNat / 64)).last (a.toNat % 64)
  have hs := h.hS a.toNat c
  unfold Go.Proofs.YtcggbedjhglmmaaGreatDoor.askOne
  by_cases h1 : lastM (strip all a.toNat).sets c &&& bitW a.toNat = 0
  · rw [if_pos h1]
    have hn : ¬ Sv a.toNat c := fun hc => by
      have := hl.2 (hs.2 hc)
      rw [and_bit_zero] at h1
      unfold strip at h1
      rw [h1] at this
      cases this
    refine (h.addAsk hc (u := a.toNat) (by omega)).mono (Nat.le_refl _) (fun _ _ => Iff.rfl) (fun v i => ?_) (fun _ _ => Iff.rfl)
    constructor
    · rintro (q | ⟨rfl, rfl⟩)
      · exact .inl q
      · exact .inr ⟨by omega, rfl, hn⟩
    · rintro (q | ⟨q, rfl, _⟩)
      · exact .inl q
      · exact .inr ⟨by omega, rfl⟩
  · rw [if_neg h1]
    have hy : Sv a.toNat c := hs.1 (hl.1 (by
      rw [and_bit_zero, Bool.not_eq_false] at h1
      exact h1))
    refine h.mono (Nat.le_refl _) (fun _ _ => Iff.rfl) (fun v i => ?_) (fun _ _ => Iff.rfl)
    refine ⟨.inl, fun q => q.elim id fun ⟨q, e, hn⟩ => absurd ?_ hn⟩
    have : v = a.toNat := by omega
    rw [this]; exact hy
theorem StI.asked {n nv c : Nat} (hc : c < n) : ∀ {l : List Int} {Sv Av Hv : Nat → Nat → Prop} {all : List Sp}, StI n nv c Sv Av Hv all → (∀ a ∈ l, 0 ≤ a ∧ a < (nv : Int)) → StI n nv c Sv (fun v i => Av v i ∨ ((v : Int) ∈ l ∧ i = c ∧ ¬ Sv v c)) Hv (askAll c all l)
  | [], Sv, Av, Hv, all, h, _ => h.mono (Nat.le_refl _) (fun _ _ => Iff.rfl) (fun v i => by simp) (fun _ _ => Iff.rfl)
  | a :: l, Sv, Av, Hv, all, h, hl => by
    have h1 := h.asked1 hc (hl a (by simp)).1 (hl a (by simp)).2
    have h2 := StI.asked hc (l := l) h1 fun b hb => hl b (by simp [hb])
    refine h2.mono (Nat.le_refl _) (fun _ _ => Iff.rfl) (fun v i => ?_) (fun _ _ => Iff.rfl)
    simp only [List.mem_cons]
    constructor
    · rintro ((q | ⟨q, r⟩) | ⟨q, r⟩)
      · exact .inl q
      · exact .inr ⟨.inl q, r⟩
      · exact .inr ⟨.inr q, r⟩
    · rintro (q | ⟨q | q, r⟩)
      · exact .inl (.inl q)
      · exact .inl (.inr ⟨q, r⟩)
      · exact .inr ⟨q, r⟩
theorem StI.handed {n nv c : Nat} : ∀ {l : List (Int × Int)} {Sv Av Hv : Nat → Nat → Prop} {all : List Sp}, StI n nv c Sv Av Hv all → (∀ q ∈ l, (0 ≤ q.1 ∧ q.1 < (nv : Int)) ∧ (0 ≤ q.2 ∧ q.2 < (n : Int))) → StI n nv c Sv Av (fun v i => Hv v i ∨ ((v : Int), (i : Int)) ∈ l) (l.foldl handOne all)
  | [], Sv, Av, Hv, all, h, _ => h.mono (Nat.le_refl _) (fun _ _ => Iff.rfl) (fun _ _ => Iff.rfl) (fun v i => by simp)
  | q :: l, Sv, Av, Hv, all, h, hl => by
    have hq := hl q (by simp)
    have h1 := h.addHand (j := q.2.toNat) (by omega) (u := q.1.toNat) (by omega)
    have h2 := StI.handed (l := l) h1 fun b hb => hl b (by simp [hb])
    refine h2.mono (Nat.le_refl _) (fun _ _ => Iff.rfl) (fun _ _ => Iff.rfl) (fun v i => ?_)
    simp only [List.mem_cons]
    constructor
    · rintro ((r | ⟨e1, e2⟩) | r)
      · exact .inl r
      · exact .inr (.inl (Prod.ext (by show (v : Int) = q.1; omega) (by show (i : Int) = q.2; omega)))
      · exact .inr (.inr r)
    · rintro (r | r | r)
      · exact .inl (.inl r)
      · refine .inl (.inr ?_)
        have e1 : (v : Int) = q.1 := congrArg Prod.fst r
        have e2 : (i : Int) = q.2 := congrArg Prod.snd r
        omega
      · exact .inr r
theorem firstI_cons (v : Int) (x : In) (l : List In) : firstI v (x :: l) = if x.kind ≠ 1 ∧ v ∈ x.args then 1 else if setsI x = true ∧ x.dst = v then 2 else firstI v l := rfl
theorem firstI_snoc (v : Int) : ∀ (l : List In) (x : In), firstI v (l ++ [x]) = if firstI v l = 0 then (if x.kind ≠ 1 ∧ v ∈ x.args then 1 else if setsI x = true ∧ x.dst = v then 2 else 0) else firstI v l
  | [], x => by simp [firstI]
  | y :: l, x => by
    rw [List.cons_append, firstI_cons v y (l ++ [x])]
    have e := firstI_cons v y l
    by_cases h1 : y.kind ≠ 1 ∧ v ∈ y.args
    · rw [if_pos h1] at e ⊢; simp [e]
    · rw [if_neg h1] at e ⊢
      by_cases h2 : setsI y = true ∧ y.dst = v
      · rw [if_pos h2] at e ⊢; simp [e]
      · rw [if_neg h2] at e ⊢; rw [firstI_snoc v l x]; simp only [e]
def setIn (l : List In) (v : Int) : Prop := ∃ x ∈ l, setsI x = true ∧ x.dst = v
/-- instructions' fields as they must be: variables, blocks -/
structure InOk (n nv : Nat) (ah : List Int) (x : In) : Prop where
  args : ∀ a ∈ x.args, 0 ≤ a ∧ a < (nv : Int)
  dst : setsI x = true → 0 ≤ x.dst ∧ x.dst < (nv : Int)
theorem StI.ins {n nv c : Nat} (hc : c < n) {ah : List Int} (hah : ∀ a ∈ ah, 0 ≤ a ∧ a < (n : Int)) {S0 A0 H0 : Nat → Nat → Prop} (hs0 : ∀ v, ¬ S0 v c) (ha0 : ∀ v, ¬ A0 v c) : ∀ {l pre : List In} {all : List Sp}, (∀ x ∈ l, InOk n nv ah x) →
    StI n nv c (fun v i => S0 v i ∨ (i = c ∧ setIn pre v)) (fun v i => A0 v i ∨ (i = c ∧ firstI v pre = 1)) (fun v i => H0 v i ∨ ∃ x ∈ pre, x.kind = 1 ∧ ((v : Int), (i : Int)) ∈ x.args.zip ah) all →
    StI n nv c (fun v i => S0 v i ∨ (i = c ∧ setIn (pre ++ l) v)) (fun v i => A0 v i ∨ (i = c ∧ firstI v (pre ++ l) = 1)) (fun v i => H0 v i ∨ ∃ x ∈ pre ++ l, x.kind = 1 ∧ ((v : Int), (i : Int)) ∈ x.args.zip ah) (l.foldl (insS c ah) all)
  | [], pre, all, _, h => by simpa using h
  | x :: l, pre, all, hl, h => by
    have hx := hl x (by simp)
    have step : StI n nv c (fun v i => S0 v i ∨ (i = c ∧ setIn (pre ++ [x]) v)) (fun v i => A0 v i ∨ (i = c ∧ firstI v (pre ++ [x]) = 1)) (fun v i => H0 v i ∨ ∃ y ∈ pre ++ [x], y.kind = 1 ∧ ((v : Int), (i : Int)) ∈ y.args.zip ah) (insS c ah all x) := by
      have mid : StI n nv c (fun v i => S0 v i ∨ (i = c ∧ setIn pre v)) (fun v i => A0 v i ∨ (i = c ∧ firstI v (pre ++ [x]) = 1)) (fun v i => H0 v i ∨ ∃ y ∈ pre ++ [x], y.kind = 1 ∧ ((v : Int), (i : Int)) ∈ y.args.zip ah) (if x.kind = 1 then handAll all ah x.args else askAll c all x.args) := by
        by_cases hk : x.kind = 1
        · rw [if_pos hk]
          refine (StI.handed (l := x.args.zip ah) h fun q hq => ⟨hx.args _ (List.of_mem_zip hq).1, hah _ (List.of_mem_zip hq).2⟩).mono (Nat.le_refl _) (fun _ _ => Iff.rfl) (fun v i => ?_) (fun v i => ?_)
          · rw [firstI_snoc]
            refine or_congr Iff.rfl (and_congr Iff.rfl ?_)
            by_cases h0 : firstI v pre = 0
            · rw [if_pos h0, h0]
              simp only [hk]
              constructor
              · intro q; omega
              · intro q
                simp only [ne_eq, not_true_eq_false, false_and, if_false] at q
                split at q <;> omega
            · rw [if_neg h0]
          · constructor
            · rintro ((q | ⟨y, m, r⟩) | q)
              · exact .inl q
              · exact .inr ⟨y, by simp [m], r⟩
              · exact .inr ⟨x, by simp, hk, q⟩
            · rintro (q | ⟨y, m, r1, r2⟩)
              · exact .inl (.inl q)
              · rw [List.mem_append, List.mem_singleton] at m
                rcases m with m | rfl
                · exact .inl (.inr ⟨y, m, r1, r2⟩)
                · exact .inr r2
        · rw [if_neg hk]
          refine (StI.asked hc (l := x.args) h hx.args).mono (Nat.le_refl _) (fun _ _ => Iff.rfl) (fun v i => ?_) (fun v i => ?_)
          · rw [firstI_snoc]
            have hf := firstI_pass (v : Int) pre
            have hle := firstI_le (v : Int) pre
            have hst : setIn pre v ↔ ∃ y ∈ pre, setsI y = true ∧ y.dst = (v : Int) := Iff.rfl
            constructor
            · rintro ((q | ⟨e, q⟩) | ⟨q, e, hn⟩)
              · exact .inl q
              · refine .inr ⟨e, ?_⟩
                rw [if_neg (by omega), q]
              · refine .inr ⟨e, ?_⟩
                have hns : ¬ setIn pre v := fun hc => hn (.inr ⟨rfl, hc⟩)
                by_cases h1 : firstI v pre = 1
                · rw [if_neg (by omega), h1]
                · rw [if_pos ((hf h1).2 hns), if_pos ⟨hk, q⟩]
            · rintro (q | ⟨e, q⟩)
              · exact .inl (.inl q)
              · by_cases h0 : firstI v pre = 0
                · rw [if_pos h0] at q
                  by_cases hm : x.kind ≠ 1 ∧ (v : Int) ∈ x.args
                  · refine .inr ⟨hm.2, e, fun hc => ?_⟩
                    rcases hc with hc | ⟨_, hc⟩
                    · exact hs0 v hc
                    · exact (hf (by omega)).1 h0 hc
                  · rw [if_neg hm] at q
                    split at q <;> omega
                · rw [if_neg h0] at q
                  exact .inl (.inr ⟨e, q⟩)
          · constructor
            · rintro (q | ⟨y, m, r⟩)
              · exact .inl q
              · exact .inr ⟨y, by simp [m], r⟩
            · rintro (q | ⟨y, m, r1, r2⟩)
              · exact .inl q
              · rw [List.mem_append, List.mem_singleton] at m
                rcases m with m | rfl
                · exact .inr ⟨y, m, r1, r2⟩
                · exact absurd r1 hk
      unfold insS
      dsimp only
      by_cases hset : setsI x = true
      · rw [if_pos hset]
        have hd := hx.dst hset
        refine (mid.addSet hc (u := x.dst.toNat) (by omega)).mono (Nat.le_refl _) (fun v i => ?_) (fun _ _ => Iff.rfl) (fun _ _ => Iff.rfl)
        unfold setIn
        constructor
        · rintro ((q | ⟨e, y, m, r⟩) | ⟨e1, e2⟩)
          · exact .inl q
          · exact .inr ⟨e, y, by simp [m], r⟩
          · exact .inr ⟨e2, x, by simp, hset, by omega⟩
        · rintro (q | ⟨e, y, m, r1, r2⟩)
          · exact .inl (.inl q)
          · rw [List.mem_append, List.mem_singleton] at m
            rcases m with m | rfl
            · exact .inl (.inr ⟨e, y, m, r1, r2⟩)
            · exact .inr ⟨by omega, e⟩
      · rw [if_neg hset]
        refine mid.mono (Nat.le_refl _) (fun v i => ?_) (fun _ _ => Iff.rfl) (fun _ _ => Iff.rfl)
        unfold setIn
        constructor
        · rintro (q | ⟨e, y, m, r⟩)
          · exact .inl q
          · exact .inr ⟨e, y, by simp [m], r⟩
        · rintro (q | ⟨e, y, m, r1, r2⟩)
          · exact .inl q
          · rw [List.mem_append, List.mem_singleton] at m
            rcases m with m | rfl
            · exact .inr ⟨e, y, m, r1, r2⟩
            · exact absurd r1 hset
    have := StI.ins hc hah hs0 ha0 (l := l) (pre := pre ++ [x]) (all := insS c ah all x) (fun y hy => hl y (by simp [hy])) step
    rw [List.append_assoc, List.singleton_append] at this
    exact this
theorem StI.block {n nv c : Nat} (hc : c < n) {ah : List Int} (hah : ∀ a ∈ ah, 0 ≤ a ∧ a < (n : Int)) {S0 A0 H0 : Nat → Nat → Prop} (hs0 : ∀ v, ¬ S0 v c) (ha0 : ∀ v, ¬ A0 v c) {b : Bl} {all : List Sp} (hok : ∀ x ∈ b.ins, InOk n nv ah x) (htm : b.tm.kind = 2 ∨ b.tm.kind = 3 → 0 ≤ b.tm.arg ∧ b.tm.arg < (nv : Int)) (h : StI n nv c S0 A0 H0 all) :
    StI n nv c (fun v i => S0 v i ∨ (i = c ∧ setIn b.ins v)) (fun v i => A0 v i ∨ (i = c ∧ firstB b v = 1)) (fun v i => H0 v i ∨ ∃ x ∈ b.ins, x.kind = 1 ∧ ((v : Int), (i : Int)) ∈ x.args.zip ah) (blkS c ah all b) := by
  have h1 := StI.ins hc hah (H0 := H0) hs0 ha0 (l := b.ins) (pre := []) (all := all) hok (h.mono (Nat.le_refl _) (fun v i => by simp [setIn]) (fun v i => by simp [firstI]) (fun v i => by simp))
  rw [List.nil_append] at h1
  unfold blkS endS
  have fb : ∀ v : Int, firstB b v = 1 ↔ firstI v b.ins = 1 ∨ (asksT b.tm v = true ∧ ¬ setIn b.ins v) := fun v => by
    have hf := firstI_pass v b.ins
    unfold firstB
    by_cases h0 : firstI v b.ins = 0
    · rw [if_pos h0, h0]
      have hn : ¬ setIn b.ins v := (hf (by omega)).1 h0
      by_cases ht : asksT b.tm v = true
      · rw [if_pos ht]; exact ⟨fun _ => .inr ⟨ht, hn⟩, fun _ => rfl⟩
      · rw [if_neg ht]; exact ⟨fun q => by omega, fun q => q.elim (fun q => by omega) fun q => absurd q.1 ht⟩
    · rw [if_neg h0]
      refine ⟨.inl, fun q => q.elim id fun q => ?_⟩
      refine Classical.byContradiction fun h1 => h0 ((hf h1).2 q.2)
  by_cases hk : b.tm.kind = 2 ∨ b.tm.kind = 3
  · rw [if_pos hk]
    have ht := htm hk
    have at' : ∀ v : Nat, asksT b.tm (v : Int) = true ↔ (v : Int) = b.tm.arg := fun v => by
      unfold asksT
      rw [Bool.and_eq_true, Bool.or_eq_true, beq_iff_eq, beq_iff_eq, beq_iff_eq]
      exact ⟨fun q => q.2.symm, fun q => ⟨hk, q.symm⟩⟩
    refine (h1.asked1 hc ht.1 ht.2).mono (Nat.le_refl _) (fun _ _ => Iff.rfl) (fun v i => ?_) (fun _ _ => Iff.rfl)
    rw [fb, at']
    constructor
    · rintro ((q | ⟨e, q⟩) | ⟨q, e, hn⟩)
      · exact .inl q
      · exact .inr ⟨e, .inl q⟩
      · exact .inr ⟨e, .inr ⟨q, fun hc => hn (.inr ⟨rfl, hc⟩)⟩⟩
    · rintro (q | ⟨e, q | ⟨q, hn⟩⟩)
      · exact .inl (.inl q)
      · exact .inl (.inr ⟨e, q⟩)
      · exact .inr ⟨q, e, fun hc => hc.elim (hs0 v) fun hc => hn hc.2⟩
  · rw [if_neg hk]
    refine h1.mono (Nat.le_refl _) (fun _ _ => Iff.rfl) (fun v i => ?_) (fun _ _ => Iff.rfl)
    rw [fb]
    have : asksT b.tm (v : Int) = false := by
      unfold asksT
      have k1 : (b.tm.kind == 2) = false := beq_false_of_ne fun e => hk (.inl e)
      have k2 : (b.tm.kind == 3) = false := beq_false_of_ne fun e => hk (.inr e)
      rw [k1, k2]; rfl
    rw [this]; simp
def hasSet (bs : List Bl) (v i : Nat) : Prop := setIn (blk bs i).ins v
def hasAsk (bs : List Bl) (v i : Nat) : Prop := firstB (blk bs i) v = 1
def hasHand (bs : List Bl) (ah : List (List Int)) (v i : Nat) (j : Nat) : Prop := ∃ x ∈ (blk bs j).ins, x.kind = 1 ∧ ((v : Int), (i : Int)) ∈ x.args.zip (ah.getD j [])
structure GrOk (bs : List Bl) (ah : List (List Int)) (nv : Nat) : Prop where
  ins : ∀ i, i < bs.length → ∀ x ∈ (blk bs i).ins, InOk bs.length nv (ah.getD i []) x
  tm : ∀ i, i < bs.length → (blk bs i).tm.kind = 2 ∨ (blk bs i).tm.kind = 3 → 0 ≤ (blk bs i).tm.arg ∧ (blk bs i).tm.arg < (nv : Int)
  ah : ∀ i, ∀ a ∈ ah.getD i [], 0 ≤ a ∧ a < (bs.length : Int)
theorem StI.blocks {bs : List Bl} {ah : List (List Int)} {nv : Nat} (hg : GrOk bs ah nv) : ∀ (m i : Nat) (all : List Sp), bs.length - i = m → i ≤ bs.length →
    StI bs.length nv (i - 1) (fun v k => k < i ∧ hasSet bs v k) (fun v k => k < i ∧ hasAsk bs v k) (fun v k => ∃ j, j < i ∧ hasHand bs ah v k j) all →
    StI bs.length nv (bs.length - 1) (fun v k => k < bs.length ∧ hasSet bs v k) (fun v k => k < bs.length ∧ hasAsk bs v k) (fun v k => ∃ j, j < bs.length ∧ hasHand bs ah v k j) (strF ah (bs.drop i) i all)
  | 0, i, all, hm, hi, h => by
    obtain rfl : i = bs.length := by omega
    rw [List.drop_length]; exact h
  | m + 1, i, all, hm, hi, h => by
    have hil : i < bs.length := by omega
    rw [strF_drop hil]
    refine StI.blocks hg m (i + 1) _ (by omega) (by omega) ?_
    have h2 := StI.block (c := i) hil (hg.ah i) (S0 := fun v k => k < i ∧ hasSet bs v k) (A0 := fun v k => k < i ∧ hasAsk bs v k) (fun v q => by omega) (fun v q => by omega) (hg.ins i hil) (hg.tm i hil) (h.mono (by omega) (fun _ _ => Iff.rfl) (fun _ _ => Iff.rfl) (fun _ _ => Iff.rfl))
    refine h2.mono (by omega) (fun v k => ?_) (fun v k => ?_) (fun v k => ?_)
    · constructor
      · rintro (q | ⟨rfl, q⟩)
        · exact ⟨by omega, q.2⟩
        · exact ⟨by omega, q⟩
      · rintro ⟨q1, q2⟩
        by_cases e : k = i
        · subst e; exact .inr ⟨rfl, q2⟩
        · exact .inl ⟨by omega, q2⟩
    · constructor
      · rintro (q | ⟨rfl, q⟩)
        · exact ⟨by omega, q.2⟩
        · exact ⟨by omega, q⟩
      · rintro ⟨q1, q2⟩
        by_cases e : k = i
        · subst e; exact .inr ⟨rfl, q2⟩
        · exact .inl ⟨by omega, q2⟩
    · constructor
      · rintro (⟨j, q1, q2⟩ | q)
        · exact ⟨j, by omega, q2⟩
        · exact ⟨i, by omega, q⟩
      · rintro ⟨j, q1, q2⟩
        by_cases e : j = i
        · subst e; exact .inr q2
        · exact .inl ⟨j, by omega, q2⟩
/-- all strips of a graph -/
theorem strips_ok {bs : List Bl} {ah : List (List Int)} {nv : Nat} (hg : GrOk bs ah nv) :
    StI bs.length nv (bs.length - 1) (fun v k => k < bs.length ∧ hasSet bs v k) (fun v k => k < bs.length ∧ hasAsk bs v k) (fun v k => ∃ j, j < bs.length ∧ hasHand bs ah v k j) (stripsP bs ah nv) := by
  unfold stripsP
  have h := StI.blocks hg bs.length 0 (List.replicate ((nv + 63) / 64) emp) (by omega) (by omega) ((StI.start bs.length nv).mono (Nat.le_refl _) (fun v i => by simp) (fun v i => by simp) (fun v i => by simp))
  rw [List.drop_zero] at h
  exact h
/-- what phis ask at a block's end -/
theorem hand_iff {bs : List Bl} {ah : List (List Int)} (he : ∀ i j : Nat, (i : Int) ∈ ah.getD j [] → j ∈ nxB bs i) (hl : ah.length = bs.length) {v i : Nat} : (∃ j, j < bs.length ∧ hasHand bs ah v i j) ↔ phiOut bs ah v i := by
  unfold hasHand phiOut phiAsk
  constructor
  · rintro ⟨j, _, x, m, hk, hz⟩
    obtain ⟨k, hk2, e⟩ := List.mem_iff_getElem.1 hz
    have h1 : x.args[k]? = some (v : Int) := by
      rw [List.length_zip] at hk2
      rw [List.getElem_zip] at e
      rw [List.getElem?_eq_getElem (by omega)]
      exact congrArg some (congrArg Prod.fst e)
    have h2 : (ah.getD j [])[k]? = some (i : Int) := by
      rw [List.length_zip] at hk2
      rw [List.getElem_zip] at e
      rw [List.getElem?_eq_getElem (by omega)]
      exact congrArg some (congrArg Prod.snd e)
    exact ⟨j, he i j (List.mem_of_getElem? h2), k, h2, x, m, hk, h1⟩
  · rintro ⟨j, _, k, h2, x, m, hk, h1⟩
    have hj : j < bs.length := by
      refine Classical.byContradiction fun hc => ?_
      have e : ah.getD j [] = [] := by rw [List.getD_eq_getElem?_getD, List.getElem?_eq_none (by omega)]; rfl
      rw [e] at h2
      simp at h2
    refine ⟨j, hj, x, m, hk, List.mem_iff_getElem?.2 ⟨k, ?_⟩⟩
    rw [List.getElem?_zip_eq_some]
    exact ⟨h1, h2⟩
end Go.Proofs.YtcggbedjhglmmaaGreatDoor
