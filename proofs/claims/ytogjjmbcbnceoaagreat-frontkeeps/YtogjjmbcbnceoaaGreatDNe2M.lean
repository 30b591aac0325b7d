/- All that nearest holds in memory. -/
import Derived.Test.YtogjjmbcbnceoaaGreatDHsM
namespace Go.Proofs.YtogjjmbcbnceoaaGreat
open Go.RowKit Lt

abbrev outS (g m : Nat) (kvs : List Value) : Slot := ⟨slV g m, 23, 1, m, kvs⟩
structure NEnv where
  B : Nat
  ovg : Nat
  beg : Nat
  hig : Nat
  alg : Nat
  wg : Nat
  ag : Nat
  m : Nat
  akv : List Value
  ah : List (List Int)
structure NSt where
  ov : List Int
  be : List Int
  hi : List Int
  pa : List Int
  al : List Int
  pv : Value
  kvs : List Value
  wt : List (List Int)
def nsS (e : NEnv) (s : NSt) : List Slot :=
  boxS e.B [slV e.ovg e.m, slV e.beg e.m, slV e.hig e.m, s.pv] :: rowM e.ovg e.m s.ov :: rowM e.beg e.m s.be :: rowM e.hig e.m s.hi :: rowS s.pv s.pa :: rowM e.alg e.m s.al :: outS e.wg e.m s.kvs :: (List.zipWith rowS s.kvs s.wt ++ outS e.ag e.m e.akv :: List.zipWith rowS e.akv e.ah)
structure NAt (w : World) (base : Nat) (e : NEnv) (s : NSt) : Prop where
  hp : Heap w base (nsS e s)
  hb : base ≤ w.heap.size
  kl : s.kvs.length = e.m
  wl : s.wt.length = e.m
  akl : e.akv.length = e.m
  ahl : e.ah.length = e.m
theorem NAt.toF {w : World} {base : Nat} {e : NEnv} {s : NSt} (h : NAt w base e s) : FAt w base (nsS e s) e.B e.ovg e.beg e.hig e.m s.ov s.be s.hi s.pv s.pa :=
  ⟨by simp [nsS], h.hp, rfl, h.hb⟩
theorem NAt.ofF {w : World} {base : Nat} {e : NEnv} {s : NSt} {ov be pa : List Int} {pv : Value} {w0 : World} (h0 : NAt w0 base e s) (h : FAt w base (nsS e s) e.B e.ovg e.beg e.hig e.m ov be s.hi pv pa) : NAt w base e { s with ov := ov, be := be, pv := pv, pa := pa } :=
  ⟨h.hp, h.hb, h0.kl, h0.wl, h0.akl, h0.ahl⟩
theorem NAt.same {w w' : World} {base : Nat} {e : NEnv} {s : NSt} (h : NAt w base e s) (hw : w'.heap = w.heap) : NAt w' base e s := ⟨h.hp.same hw, by rw [hw]; exact h.hb, h.kl, h.wl, h.akl, h.ahl⟩
theorem NAt.below {w w' : World} {base : Nat} {e : NEnv} {s : NSt} (h : NAt w base e s) (hw : Below w.heap.size w w') : NAt w' base e s := ⟨h.hp.below hw, Nat.le_trans h.hb hw.size, h.kl, h.wl, h.akl, h.ahl⟩
theorem NAt.a {w : World} {base : Nat} {e : NEnv} {s : NSt} (h : NAt w base e s) {i : Nat} {x : Int} (hx : s.al[i]? = some x) : w.cell? ⟨e.alg, i, none⟩ = some (.int .i64 x) := h.hp.cell (i := 5) (e := 3) (sz := 1) (n := e.m) (c := e.m) (cs := s.al.map intV) rfl (map_get hx)
theorem NAt.fza {w : World} {base : Nat} {e : NEnv} {s : NSt} (h : NAt w base e s) (i : Nat) : w.frozen? ⟨e.alg, i, none⟩ = false := h.hp.fz (i := 5) (e := 3) (sz := 1) (n := e.m) (c := e.m) (cs := s.al.map intV) rfl i
theorem NAt.fzh {w : World} {base : Nat} {e : NEnv} {s : NSt} (h : NAt w base e s) (i : Nat) : w.frozen? ⟨e.hig, i, none⟩ = false := h.hp.fz (i := 3) (e := 3) (sz := 1) (n := e.m) (c := e.m) (cs := s.hi.map intV) rfl i
theorem NAt.wout {w : World} {base : Nat} {e : NEnv} {s : NSt} (h : NAt w base e s) {i : Nat} {kv : Value} (hx : s.kvs[i]? = some kv) : w.cell? ⟨e.wg, i, none⟩ = some kv := h.hp.cell (i := 6) (e := 23) (sz := 1) (n := e.m) (c := e.m) (cs := s.kvs) rfl hx
theorem NAt.fzw {w : World} {base : Nat} {e : NEnv} {s : NSt} (h : NAt w base e s) (i : Nat) : w.frozen? ⟨e.wg, i, none⟩ = false := h.hp.fz (i := 6) (e := 23) (sz := 1) (n := e.m) (c := e.m) (cs := s.kvs) rfl i
theorem zip_get {kvs : List Value} {wt : List (List Int)} {i : Nat} {kv : Value} {r : List Int} (h1 : kvs[i]? = some kv) (h2 : wt[i]? = some r) : (List.zipWith rowS kvs wt)[i]? = some (rowS kv r) := by
  rw [List.getElem?_zipWith, h1, h2]
theorem nsS_w {e : NEnv} {s : NSt} {i : Nat} {kv : Value} {r : List Int} (h1 : s.kvs[i]? = some kv) (h2 : s.wt[i]? = some r) : (nsS e s)[7 + i]? = some (rowS kv r) := by
  have hl : i < (List.zipWith rowS s.kvs s.wt).length := (List.getElem?_eq_some_iff.1 (zip_get h1 h2)).1
  rw [Nat.add_comm]
  show (List.zipWith rowS s.kvs s.wt ++ outS e.ag e.m e.akv :: List.zipWith rowS e.akv e.ah)[i]? = _
  rw [List.getElem?_append_left hl]
  exact zip_get h1 h2
theorem nsS_ao {e : NEnv} {s : NSt} (hk : s.kvs.length = e.m) (hw : s.wt.length = e.m) : (nsS e s)[7 + e.m]? = some (outS e.ag e.m e.akv) := by
  have hl : (List.zipWith rowS s.kvs s.wt).length = e.m := by rw [List.length_zipWith, hk, hw]; omega
  rw [Nat.add_comm]
  show (List.zipWith rowS s.kvs s.wt ++ outS e.ag e.m e.akv :: List.zipWith rowS e.akv e.ah)[e.m]? = _
  rw [List.getElem?_append_right (by omega), hl, Nat.sub_self]
  rfl
theorem nsS_a {e : NEnv} {s : NSt} (hk : s.kvs.length = e.m) (hw : s.wt.length = e.m) {i : Nat} {kv : Value} {r : List Int} (h1 : e.akv[i]? = some kv) (h2 : e.ah[i]? = some r) : (nsS e s)[8 + e.m + i]? = some (rowS kv r) := by
  have hl : (List.zipWith rowS s.kvs s.wt).length = e.m := by rw [List.length_zipWith, hk, hw]; omega
  rw [show 8 + e.m + i = (e.m + 1 + i) + 7 by omega]
  show (List.zipWith rowS s.kvs s.wt ++ outS e.ag e.m e.akv :: List.zipWith rowS e.akv e.ah)[e.m + 1 + i]? = _
  rw [List.getElem?_append_right (by omega), hl, show e.m + 1 + i - e.m = i + 1 by omega, List.getElem?_cons_succ]
  exact zip_get h1 h2
theorem NAt.wkid {w : World} {base : Nat} {e : NEnv} {s : NSt} (h : NAt w base e s) {i : Nat} {kv : Value} {r : List Int} (h1 : s.kvs[i]? = some kv) (h2 : s.wt[i]? = some r) : w.ownsRow base 3 1 kv r.length (r.map intV) := h.hp.own _ _ (nsS_w h1 h2)
theorem NAt.aout {w : World} {base : Nat} {e : NEnv} {s : NSt} (h : NAt w base e s) {i : Nat} {kv : Value} (hx : e.akv[i]? = some kv) : w.cell? ⟨e.ag, i, none⟩ = some kv := h.hp.cell (nsS_ao h.kl h.wl) hx
theorem NAt.akid {w : World} {base : Nat} {e : NEnv} {s : NSt} (h : NAt w base e s) {i : Nat} {kv : Value} {r : List Int} (h1 : e.akv[i]? = some kv) (h2 : e.ah[i]? = some r) : w.ownsRow base 3 1 kv r.length (r.map intV) := h.hp.own _ _ (nsS_a h.kl h.wl h1 h2)
theorem set_sz {w : World} {base : Nat} (h : base ≤ w.heap.size) (a : Addr) (u : Value) : base ≤ (w.setCell a u).heap.size := by simpa [World.setCell] using h
theorem NAt.setH {w : World} {base : Nat} {e : NEnv} {s : NSt} (h : NAt w base e s) (i : Nat) (x : Int) : NAt (w.setCell ⟨e.hig, i, none⟩ (.int .i64 x)) base e { s with hi := s.hi.set i x } := by
  refine ⟨?_, set_sz h.hb _ _, h.kl, h.wl, h.akl, h.ahl⟩
  have := h.hp.store (i := 3) (g := e.hig) (n := e.m) (c := e.m) (e := 3) (sz := 1) (cs := s.hi.map intV) rfl i (.int .i64 x)
  unfold nsS at this ⊢
  simp only [List.set_cons_succ, List.set_cons_zero] at this
  rw [show (⟨slV e.hig e.m, 3, 1, e.m, (s.hi.map intV).set i (.int .i64 x)⟩ : Slot) = rowM e.hig e.m (s.hi.set i x) by simp [rowM, List.map_set]] at this
  exact this
theorem NAt.setO {w : World} {base : Nat} {e : NEnv} {s : NSt} (h : NAt w base e s) (i : Nat) (x : Int) : NAt (w.setCell ⟨e.ovg, i, none⟩ (.int .i64 x)) base e { s with ov := s.ov.set i x } := by
  refine ⟨?_, set_sz h.hb _ _, h.kl, h.wl, h.akl, h.ahl⟩
  have := h.hp.store (i := 1) (g := e.ovg) (n := e.m) (c := e.m) (e := 3) (sz := 1) (cs := s.ov.map intV) rfl i (.int .i64 x)
  unfold nsS at this ⊢
  simp only [List.set_cons_succ, List.set_cons_zero] at this
  rw [show (⟨slV e.ovg e.m, 3, 1, e.m, (s.ov.map intV).set i (.int .i64 x)⟩ : Slot) = rowM e.ovg e.m (s.ov.set i x) by simp [rowM, List.map_set]] at this
  exact this
theorem NAt.setA {w : World} {base : Nat} {e : NEnv} {s : NSt} (h : NAt w base e s) (i : Nat) (x : Int) : NAt (w.setCell ⟨e.alg, i, none⟩ (.int .i64 x)) base e { s with al := s.al.set i x } := by
  refine ⟨?_, set_sz h.hb _ _, h.kl, h.wl, h.akl, h.ahl⟩
  have := h.hp.store (i := 5) (g := e.alg) (n := e.m) (c := e.m) (e := 3) (sz := 1) (cs := s.al.map intV) rfl i (.int .i64 x)
  unfold nsS at this ⊢
  simp only [List.set_cons_succ, List.set_cons_zero] at this
  rw [show (⟨slV e.alg e.m, 3, 1, e.m, (s.al.map intV).set i (.int .i64 x)⟩ : Slot) = rowM e.alg e.m (s.al.set i x) by simp [rowM, List.map_set]] at this
  exact this
theorem zip_set {kvs : List Value} {wt : List (List Int)} {i : Nat} {kv : Value} {r : List Int} : List.zipWith rowS (kvs.set i kv) (wt.set i r) = (List.zipWith rowS kvs wt).set i (rowS kv r) := by
  apply List.ext_getElem?
  intro j
  rw [List.getElem?_zipWith, List.getElem?_set, List.getElem?_set, List.getElem?_set, List.getElem?_zipWith, List.length_zipWith]
  by_cases e : i = j
  · subst e
    rw [if_pos rfl, if_pos rfl, if_pos rfl]
    by_cases h1 : i < kvs.length
    · by_cases h2 : i < wt.length
      · rw [if_pos h1, if_pos h2, if_pos (by omega)]
      · rw [if_pos h1, if_neg h2, if_neg (by omega)]
    · have h3 : ¬ i < min kvs.length wt.length := by omega
      rw [if_neg h1, if_neg h3]
  · rw [if_neg e, if_neg e, if_neg e]
/-- A row of waiting is another one, and lies in the outer row. -/
theorem NAt.turnW {w w' : World} {base : Nat} {e : NEnv} {s : NSt} (h : NAt w base e s) {i : Nat} {kv kv' : Value} {r r' : List Int} (h1 : s.kvs[i]? = some kv) (h2 : s.wt[i]? = some r) (ho : w'.ownsRow base 3 1 kv' r'.length (r'.map intV)) (hg : w.grownBy w' kv.ownBlock) (hat : kv'.ownBlock = kv.ownBlock ∨ kv'.ownBlock = some w.heap.size ∨ kv'.ownBlock = none) :
    NAt (w'.setCell ⟨e.wg, i, none⟩ kv') base e { s with kvs := s.kvs.set i kv', wt := s.wt.set i r' } ∧ Heap w' base ((nsS e s).set (7 + i) (rowS kv' r')) := by
  have hT : Heap w' base ((nsS e s).set (7 + i) (rowS kv' r')) := h.hp.turn (nsS_w h1 h2) (fun k hk hne => hg.block k hk (fun e => hne e.symm)) ho (fun g hg' => by
    have h9 : kv'.ownBlock = some g := hg'
    rcases hat with e | e | e
    · exact .inl (e ▸ h9)
    · rw [e] at h9; cases h9; exact .inr (Nat.le_refl _)
    · rw [e] at h9; cases h9)
  refine ⟨⟨?_, set_sz (Nat.le_trans h.hb hg.size) _ _, by simpa using h.kl, by simpa using h.wl, h.akl, h.ahl⟩, hT⟩
  have h6 : ((nsS e s).set (7 + i) (rowS kv' r'))[6]? = some (outS e.wg e.m s.kvs) := by
    rw [List.getElem?_set, if_neg (by omega)]
    rfl
  have h3 := hT.store h6 i kv'
  have hl : i < (List.zipWith rowS s.kvs s.wt).length := (List.getElem?_eq_some_iff.1 (zip_get h1 h2)).1
  have hE : ((nsS e s).set (7 + i) (rowS kv' r')).set 6 ⟨slV e.wg e.m, 23, 1, e.m, s.kvs.set i kv'⟩ = nsS e { s with kvs := s.kvs.set i kv', wt := s.wt.set i r' } := by
    unfold nsS
    rw [Nat.add_comm 7 i]
    simp only [List.set_cons_succ, List.set_cons_zero]
    rw [List.set_append_left _ _ hl, zip_set]
  rw [hE] at h3
  exact h3
/-- Cells of others stay while a row of waiting turns. -/
theorem turn_cell {w' : World} {base : Nat} {e : NEnv} {s : NSt} {i : Nat} {sl : Slot} (hT : Heap w' base ((nsS e s).set (7 + i) sl)) : (∀ j x, s.hi[j]? = some x → w'.cell? ⟨e.hig, j, none⟩ = some (.int .i64 x)) ∧ w'.cell? ⟨e.B, 2, none⟩ = some (slV e.hig e.m) ∧ (∀ j kv, s.kvs[j]? = some kv → w'.cell? ⟨e.wg, j, none⟩ = some kv) ∧ ∀ j, w'.frozen? ⟨e.wg, j, none⟩ = false := by
  have h3 : ((nsS e s).set (7 + i) sl)[3]? = some (rowM e.hig e.m s.hi) := by rw [List.getElem?_set, if_neg (by omega)]; rfl
  have h0 : ((nsS e s).set (7 + i) sl)[0]? = some (boxS e.B [slV e.ovg e.m, slV e.beg e.m, slV e.hig e.m, s.pv]) := by rw [List.getElem?_set, if_neg (by omega)]; rfl
  have h6 : ((nsS e s).set (7 + i) sl)[6]? = some (outS e.wg e.m s.kvs) := by rw [List.getElem?_set, if_neg (by omega)]; rfl
  exact ⟨fun j x hx => hT.cell h3 (map_get hx), hT.cell h0 rfl, fun j kv hx => hT.cell h6 hx, fun j => hT.fz h6 j⟩
end Go.Proofs.YtogjjmbcbnceoaaGreat
/- What nearest holds when it begins. -/
namespace Go.Proofs.YtogjjmbcbnceoaaGreat
open Go.RowKit Lt

theorem Heap.nil (w : World) (base : Nat) : Heap w base [] := ⟨fun i s h => by simp at h, fun i j a b g _ h => by simp at h⟩
theorem Heap.cons {w : World} {base : Nat} {ss : List Slot} {s : Slot} (hs : s.At w base) (hf : ∀ t ∈ ss, ∀ g, s.v.ownBlock = some g → t.v.ownBlock ≠ some g) (h : Heap w base ss) : Heap w base (s :: ss) := by
  refine ⟨fun i t ht => ?_, fun i j a b g hij ha hb hga hgb => ?_⟩
  · rcases i with _ | i
    · cases ht; exact hs
    · exact h.own i t (by simpa using ht)
  · rcases i with _ | i
    · cases ha
      rcases j with _ | j
      · exact hij rfl
      · exact hf b (List.mem_of_getElem? (by simpa using hb)) g hga hgb
    · rcases j with _ | j
      · cases hb
        exact hf a (List.mem_of_getElem? (by simpa using ha)) g hgb hga
      · exact h.apart i j a b g (by omega) (by simpa using ha) (by simpa using hb) hga hgb
theorem Heap.nils {w : World} {base : Nat} {ss : List Slot} (h : Heap w base ss) : ∀ k, Heap w base (List.replicate k (rowS nilV []) ++ ss)
  | 0 => by simpa using h
  | k + 1 => by
    rw [List.replicate_succ, List.cons_append]
    exact Heap.cons (World.ownsRow_nil _ _ _ _) (fun t _ g hg => by simp [Value.ownBlock] at hg) (Heap.nils h k)
theorem zip_mem {kvs : List Value} {rows : List (List Int)} {t : Slot} (h : t ∈ List.zipWith rowS kvs rows) : ∃ (i : Nat) (kv : Value) (r : List Int), kvs[i]? = some kv ∧ rows[i]? = some r ∧ t = rowS kv r := by
  obtain ⟨i, hi⟩ := List.getElem?_of_mem h
  rw [List.getElem?_zipWith] at hi
  rcases h1 : kvs[i]? with _ | kv
  · rw [h1] at hi; simp at hi
  · rcases h2 : rows[i]? with _ | r
    · rw [h1, h2] at hi; simp at hi
    · rw [h1, h2] at hi
      exact ⟨i, kv, r, h1, h2, by cases hi; rfl⟩
theorem RowsIn.heap {w : World} {base G n : Nat} {kvs : List Value} {rows : List (List Int)} (h : RowsIn w base G n kvs rows) : Heap w base (outS G n kvs :: List.zipWith rowS kvs rows) := by
  refine Heap.cons h.own (fun t ht g hg => ?_) ⟨fun i s hs => ?_, fun i j a b g hij ha hb hga hgb => ?_⟩
  · obtain ⟨i, kv, r, h1, h2, rfl⟩ := zip_mem ht
    have : G = g := by simpa [Value.ownBlock] using hg
    subst this
    exact (h.kid i r kv h2 h1).2
  · rw [List.getElem?_zipWith] at hs
    rcases h1 : kvs[i]? with _ | kv
    · rw [h1] at hs; simp at hs
    · rcases h2 : rows[i]? with _ | r
      · rw [h1, h2] at hs; simp at hs
      · rw [h1, h2] at hs
        cases hs
        exact (h.kid i r kv h2 h1).1
  · rw [List.getElem?_zipWith] at ha hb
    rcases h1 : kvs[i]? with _ | kv
    · rw [h1] at ha; simp at ha
    · rcases h2 : rows[i]? with _ | r
      · rw [h1, h2] at ha; simp at ha
      · rcases h3 : kvs[j]? with _ | kv2
        · rw [h3] at hb; simp at hb
        · rcases h4 : rows[j]? with _ | r2
          · rw [h3, h4] at hb; simp at hb
          · rw [h1, h2] at ha
            rw [h3, h4] at hb
            cases ha; cases hb
            exact h.apart i j kv kv2 g hij h1 h3 hga hgb
theorem Heap.mono {w : World} {b1 b2 : Nat} {ss : List Slot} (h : Heap w b2 ss) (hb : b1 ≤ b2) : Heap w b1 ss := ⟨fun i s hs => own_mono (h.own i s hs) hb, h.apart⟩
theorem Heap.mem_lt {w : World} {base : Nat} {ss : List Slot} (h : Heap w base ss) {t : Slot} (ht : t ∈ ss) {g : Nat} (hg : t.v.ownBlock = some g) : base ≤ g := by
  obtain ⟨i, hi⟩ := List.getElem?_of_mem ht
  exact ((h.own i t hi).lt g hg).1
theorem zip_rep (m : Nat) : List.zipWith rowS (List.replicate m nilV) (List.replicate m []) = List.replicate m (rowS nilV []) := by
  apply List.ext_getElem?
  intro i
  rw [List.getElem?_zipWith, List.getElem?_replicate, List.getElem?_replicate, List.getElem?_replicate]
  by_cases h : i < m
  · rw [if_pos h, if_pos h, if_pos h]
  · rw [if_neg h, if_neg h, if_neg h]
theorem nat_init {W1 w2 w3 w4 w5 w6 : World} {m g1 g2 g3 : Nat} {akv : List Value} {rows : List (List Int)} {cs : Array Value} (hm : m ≤ 2000000) (hba : BareAt W1 w2 m (slV g1 m) (slV g2 m) (slV g3 m)) (hw3 : w3 = w2.alloc (.cells #[slV g1 m, slV g2 m, slV g3 m, nilV] 94))
    (ho4 : w4.ownsRow w3.heap.size 3 1 (slV w3.heap.size m) m ((cntL m).map intV)) (hb4 : Below w3.heap.size w3 w4) (hw5 : w5 = w4.alloc (.cells (madeCells #[.slice none 0 0] m) 23)) (hr : RowsIn w6 (w5.heap.size + 1) (w5.heap.size + 1) m akv rows) (hb6 : Below (w5.heap.size + 1) (w5.alloc (.cells cs 46)) w6) :
    NAt w6 W1.heap.size ⟨w2.heap.size, g1, g2, g3, w3.heap.size, w4.heap.size, w5.heap.size + 1, m, akv, rows⟩ ⟨List.replicate m (-1), cntL m, cntL m, [], cntL m, nilV, List.replicate m nilV, List.replicate m []⟩ := by
  have s3 : w3.heap.size = w2.heap.size + 1 := by rw [hw3]; simp
  have s5 : w5.heap.size = w4.heap.size + 1 := by rw [hw5]; simp
  have hs4 := hb4.size
  have l4 : w3.heap.size < w4.heap.size := (ho4.lt _ rfl).2
  have B23 : Below w2.heap.size w2 w3 := by rw [hw3]; exact below_alloc (Below.refl _ _) _
  have B24 : Below w2.heap.size w2 w4 := below_trans B23 hb4
  have B45 : Below w4.heap.size w4 w5 := by rw [hw5]; exact below_alloc (Below.refl _ _) _
  have B56 : Below w5.heap.size w5 w6 := by
    have h1 := below_alloc (Below.refl _ w5) (.cells cs 46)
    exact h1.trans (hb6.mono (by omega))
  have B46 : Below w4.heap.size w4 w6 := below_trans B45 B56
  have B26 : Below w2.heap.size w2 w6 := below_trans B24 B46
  have B36 : Below w3.heap.size w3 w6 := below_trans hb4 B46
  have k1 := (hba.o1.lt g1 rfl)
  have k2 := (hba.o2.lt g2 rfl)
  have k3 := (hba.o3.lt g3 rfl)
  have n12 : g1 ≠ g2 := fun e => hba.a12 g1 rfl (by simp [Value.ownBlock, e])
  have n13 : g1 ≠ g3 := fun e => hba.a13 g1 rfl (by simp [Value.ownBlock, e])
  have n23 : g2 ≠ g3 := fun e => hba.a23 g2 rfl (by simp [Value.ownBlock, e])
  have hW := hba.bel.size
  have hA : Heap w6 W1.heap.size (outS (w5.heap.size + 1) m akv :: List.zipWith rowS akv rows) := (RowsIn.heap hr).mono (by omega)
  have hA0 : ∀ t ∈ (outS (w5.heap.size + 1) m akv :: List.zipWith rowS akv rows), ∀ g, t.v.ownBlock = some g → w5.heap.size + 1 ≤ g := fun t ht g hg => (RowsIn.heap hr).mem_lt ht hg
  have hK : Heap w6 W1.heap.size (List.zipWith rowS (List.replicate m nilV) (List.replicate m []) ++ (outS (w5.heap.size + 1) m akv :: List.zipWith rowS akv rows)) := by rw [zip_rep]; exact hA.nils m
  have hK0 : ∀ t ∈ (List.zipWith rowS (List.replicate m nilV) (List.replicate m []) ++ (outS (w5.heap.size + 1) m akv :: List.zipWith rowS akv rows)), ∀ g, t.v.ownBlock = some g → w5.heap.size + 1 ≤ g := fun t ht g hg => by
    rcases List.mem_append.1 ht with h | h
    · rw [zip_rep] at h
      rw [List.eq_of_mem_replicate h] at hg
      simp [Value.ownBlock] at hg
    · exact hA0 t h g hg
  have ob : ∀ {g n : Nat} {e : TypeId} {sz k : Nat} {cs : List Value} {q : Nat}, (⟨slV g n, e, sz, k, cs⟩ : Slot).v.ownBlock = some q → g = q := fun h => by simpa [Value.ownBlock] using h
  have oW : w6.ownsRow W1.heap.size 23 1 (slV w4.heap.size m) m (List.replicate m nilV) := by
    have h9 := World.ownsRow_lit (base := W1.heap.size) (e := 23) (size := 1) w4 (madeCells #[.slice none 0 0] m) m (by omega) (by unfold maxLen; omega) (by simp [size_madeCells])
    rw [toList_madeCells_one] at h9
    rw [← hw5] at h9
    exact owns_below h9 B56
  have oB : w6.ownsRow W1.heap.size 94 4 (.slice (some ⟨w2.heap.size, 0, none⟩) 1 1) 1 [slV g1 m, slV g2 m, slV g3 m, nilV] := by
    have h9 := World.ownsRow_lit (base := W1.heap.size) (e := 94) (size := 4) w2 #[slV g1 m, slV g2 m, slV g3 m, nilV] 1 (by omega) (by unfold maxLen; omega) (by simp)
    rw [← hw3] at h9
    exact owns_below h9 B36
  have H6 := Heap.cons (s := outS w4.heap.size m (List.replicate m nilV)) oW (fun t ht g hg e => by have := hK0 t ht g e; have := ob hg; omega) hK
  have H5 := Heap.cons (s := rowM w3.heap.size m (cntL m)) (own_mono (owns_below ho4 B46) (by omega)) (fun t ht g hg e => by
    have h1 := ob hg
    rcases List.mem_cons.1 ht with rfl | ht
    · have := ob e; omega
    · have := hK0 t ht g e; omega) H6
  have H4 := Heap.cons (s := rowS nilV []) (World.ownsRow_nil _ _ _ _) (fun t _ g hg => by simp [Value.ownBlock] at hg) H5
  have tail : ∀ t ∈ (rowS nilV [] :: rowM w3.heap.size m (cntL m) :: outS w4.heap.size m (List.replicate m nilV) :: (List.zipWith rowS (List.replicate m nilV) (List.replicate m []) ++ (outS (w5.heap.size + 1) m akv :: List.zipWith rowS akv rows))), ∀ g, t.v.ownBlock = some g → w3.heap.size ≤ g := fun t ht g e => by
    rcases List.mem_cons.1 ht with rfl | ht
    · simp [Value.ownBlock] at e
    · rcases List.mem_cons.1 ht with rfl | ht
      · have := ob e; omega
      · rcases List.mem_cons.1 ht with rfl | ht
        · have := ob e; omega
        · have := hK0 t ht g e; omega
  have H3 := Heap.cons (s := rowM g3 m (cntL m)) (owns_below hba.o3 B26) (fun t ht g hg e => by have := tail t ht g e; have := ob hg; omega) H4
  have H2 := Heap.cons (s := rowM g2 m (cntL m)) (owns_below hba.o2 B26) (fun t ht g hg e => by
    have h1 := ob hg
    rcases List.mem_cons.1 ht with rfl | ht
    · have := ob e; omega
    · have := tail t ht g e; omega) H3
  have H1 := Heap.cons (s := rowM g1 m (List.replicate m (-1))) (owns_below hba.o1 B26) (fun t ht g hg e => by
    have h1 := ob hg
    rcases List.mem_cons.1 ht with rfl | ht
    · have := ob e; omega
    · rcases List.mem_cons.1 ht with rfl | ht
      · have := ob e; omega
      · have := tail t ht g e; omega) H2
  have H0 := Heap.cons (s := boxS w2.heap.size [slV g1 m, slV g2 m, slV g3 m, nilV]) oB (fun t ht g hg e => by
    have h1 : w2.heap.size = g := by simpa [Value.ownBlock] using hg
    rcases List.mem_cons.1 ht with rfl | ht
    · have := ob e; omega
    · rcases List.mem_cons.1 ht with rfl | ht
      · have := ob e; omega
      · rcases List.mem_cons.1 ht with rfl | ht
        · have := ob e; omega
        · have := tail t ht g e; omega) H1
  exact ⟨H0, by have := B26.size; omega, by simp, by simp, hr.klen, hr.rlen⟩
end Go.Proofs.YtogjjmbcbnceoaaGreat
/- Small plain steps of nearest. -/
namespace Go.Proofs.YtogjjmbcbnceoaaGreat
open Go.RowKit Lt

theorem Lt.NI.nat {m : Nat} {E : Nat → Nat → Prop} {fr : Nat → Nat} {L : Nat} {ov be hi al : List Int} {wt : List (List Int)} (H : NI m E fr L ov be hi al wt) {i : Nat} (hi' : i < m) : ∃ t : Nat, hi[i]? = some (t : Int) := by
  rcases Nat.lt_or_ge i L with h | h
  · exact ⟨i, H.lowH i h hi'⟩
  · obtain ⟨t, h1, _⟩ := H.semi i h hi'
    exact ⟨t, h1⟩
theorem set_nat {hi : List Int} {m z h : Nat} (H : ∀ i, i < m → ∃ t : Nat, hi[i]? = some (t : Int)) : ∀ i, i < m → ∃ t : Nat, (hi.set z (h : Int))[i]? = some (t : Int) := fun i hi' => by
  obtain ⟨t, h1⟩ := H i hi'
  rw [List.getElem?_set]
  by_cases e : z = i
  · subst e
    exact ⟨h, by rw [if_pos rfl, if_pos (List.getElem?_eq_some_iff.1 h1).1]⟩
  · exact ⟨t, by rw [if_neg e]; exact h1⟩
theorem hst_set {fr : Nat → Nat} {z : Nat} {hi : List Int} {x : Int} {q b : Nat} (h : Hst fr (z + 1) (hi.set z x) q b) : Hst fr (z + 1) hi q b := by
  refine ⟨h.1, fun hq => ?_⟩
  obtain ⟨h1, h2, h3⟩ := h.2 hq
  refine ⟨h1, h2, fun u hu ha => ?_⟩
  have := h3 u hu ha
  rw [gN_set (by omega), gN_set (by omega)] at this
  exact this
/-- One node ahead of z is gone through. -/
theorem pi_next {m : Nat} {E : Nat → Nat → Prop} {fr : Nat → Nat} (D : Dfs m E fr) {L : Nat} {ov be hi al : List Int} {wt : List (List Int)} {z : Nat} (H : NI m E fr (z + 1) ov be hi al wt) (hL : L = z + 1) (_hz : z < m) {A : List Int} {h q b c : Nat} (P : PI E fr z hi A h) (he : E q z) (hb : Hst fr L (hi.set z (h : Int)) q b) (hc : (hi.set z (h : Int))[b]? = some (c : Int)) : PI E fr z hi (A ++ [(q : Int)]) (min h c) := by
  subst hL
  have hqm := (D.lt _ _ he).1
  have hlh := H.lh
  refine P.step D H.semi he (hst_set hb) (fun hq => ?_) (fun hq => ?_) (fun hq => ?_) (fun _ _ => rfl)
  · have := hb.1 (by omega)
    subst this
    rw [List.getElem?_set, if_neg (by omega), H.lowH b (by omega) hqm] at hc
    cases hc; rfl
  · have := hb.1 (by omega)
    subst this
    rw [List.getElem?_set, if_pos hq.symm, if_pos (by omega)] at hc
    cases hc; rfl
  · obtain ⟨h1, _, _⟩ := hb.2 (by omega)
    rw [List.getElem?_set, if_neg (by omega)] at hc
    exact (gN_at hc).symm
theorem lens_set {rows : List (List Int)} {k : Nat} : lensA (rows.set k []) ≤ lensA rows := by
  induction rows generalizing k with
  | nil => simp
  | cons r rows ih =>
    rcases k with _ | k
    · simp [lensA]
    · have := ih (k := k)
      simp [lensA] at this ⊢
      omega
theorem modify_set {rows : List (List Int)} {k : Nat} {r : List Int} {x : Int} (h : rows[k]? = some r) : rows.modify k (· ++ [x]) = rows.set k (r ++ [x]) := by
  apply List.ext_getElem?
  intro i
  rw [List.getElem?_modify, List.getElem?_set]
  by_cases e : k = i
  · subst e
    rw [if_pos rfl, if_pos (List.getElem?_eq_some_iff.1 h).1, h]
    simp
  · rw [if_neg e]
    cases rows[i]? <;> simp [e]
theorem getD_get {rows : List (List Int)} {k : Nat} {r : List Int} (h : rows[k]? = some r) : rows.getD k [] = r := by rw [List.getD_eq_getElem?_getD, h]; rfl
/-- Who waits at the place from which z was met. -/
theorem wait_in {m : Nat} {E : Nat → Nat → Prop} {fr : Nat → Nat} {ov be hi al : List Int} {wt : List (List Int)} {z h : Nat} (H : NI m E fr (z + 1) ov be hi al wt) (hz : z < m) (hh : h < m) {p : Nat} {x : Int} (hx : x ∈ (wt.modify h (· ++ [(z : Int)])).getD p []) : ∃ i : Nat, x = (i : Int) ∧ z ≤ i ∧ i < m ∧ gN (hi.set z (h : Int)) i = p := by
  have hlh := H.lh
  have hlw := H.lw
  rw [getD_modify (by omega)] at hx
  have old : x ∈ wt.getD p [] → ∃ i : Nat, x = (i : Int) ∧ z ≤ i ∧ i < m ∧ gN (hi.set z (h : Int)) i = p := fun hx => by
    obtain ⟨i, h1, h2, h3, h4⟩ := H.wts p x hx
    exact ⟨i, h1, by omega, h3, by rw [gN_set (by omega)]; exact h4⟩
  split at hx
  · rename_i e
    rcases List.mem_append.1 hx with h1 | h1
    · exact old h1
    · simp at h1
      exact ⟨z, h1, Nat.le_refl _, hz, by rw [gN_same (by omega)]; exact e⟩
  · exact old hx
theorem qi_start {m : Nat} {fr : Nat → Nat} {z : Nat} {hi al : List Int} (h : al.length = m) : QI m fr z hi al al [] := ⟨h, fun i hi' => (by cases hi'), fun _ _ => rfl⟩
theorem NAt.turnA {w w' : World} {base : Nat} {e : NEnv} {s : NSt} (h : NAt w base e s) {al' : List Int} (ho : w'.ownsRow base 3 1 (slV e.alg e.m) e.m (al'.map intV)) (hg : w.grownBy w' (some e.alg)) : NAt w' base e { s with al := al' } := by
  have h5 : (nsS e s)[5]? = some (rowM e.alg e.m s.al) := rfl
  have hT : Heap w' base ((nsS e s).set 5 (rowM e.alg e.m al')) := h.hp.turn h5 (fun k hk hne => hg.block k hk (fun e => hne (by rw [e]; rfl))) ho (fun g hg' => .inl hg')
  exact ⟨hT, Nat.le_trans h.hb hg.size, h.kl, h.wl, h.akl, h.ahl⟩
end Go.Proofs.YtogjjmbcbnceoaaGreat
