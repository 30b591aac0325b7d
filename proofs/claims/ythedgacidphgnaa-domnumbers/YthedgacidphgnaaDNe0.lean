/- All that nearest holds in memory. -/
import Derived.Test.YthedgacidphgnaaDHs
namespace Go.Proofs.Ythedgacidphgnaa
open Go.RowKit Lt

abbrev outS (g m : Nat) (kvs : List Value) : Slot := ⟨slV g m, 25, 1, m, kvs⟩
structure NEnv where
  B : Nat
  ovg : Nat
  beg : Nat
  hig : Nat
  alg : Nat
  wg : Nat
  ag : Nat
  m : Nat
  akv : List Value
  ah : List (List Int)
structure NSt where
  ov : List Int
  be : List Int
  hi : List Int
  pa : List Int
  al : List Int
  pv : Value
  kvs : List Value
  wt : List (List Int)
def nsS (e : NEnv) (s : NSt) : List Slot :=
  boxS e.B [slV e.ovg e.m, slV e.beg e.m, slV e.hig e.m, s.pv] :: rowM e.ovg e.m s.ov :: rowM e.beg e.m s.be :: rowM e.hig e.m s.hi :: rowS s.pv s.pa :: rowM e.alg e.m s.al :: outS e.wg e.m s.kvs :: (List.zipWith rowS s.kvs s.wt ++ outS e.ag e.m e.akv :: List.zipWith rowS e.akv e.ah)
structure NAt (w : World) (base : Nat) (e : NEnv) (s : NSt) : Prop where
  hp : Heap w base (nsS e s)
  hb : base ≤ w.heap.size
  kl : s.kvs.length = e.m
  wl : s.wt.length = e.m
  akl : e.akv.length = e.m
  ahl : e.ah.length = e.m
theorem NAt.toF {w : World} {base : Nat} {e : NEnv} {s : NSt} (h : NAt w base e s) : FAt w base (nsS e s) e.B e.ovg e.beg e.hig e.m s.ov s.be s.hi s.pv s.pa :=
  ⟨by simp [nsS], h.hp, rfl, h.hb⟩
theorem NAt.ofF {w : World} {base : Nat} {e : NEnv} {s : NSt} {ov be pa : List Int} {pv : Value} {w0 : World} (h0 : NAt w0 base e s) (h : FAt w base (nsS e s) e.B e.ovg e.beg e.hig e.m ov be s.hi pv pa) : NAt w base e { s with ov := ov, be := be, pv := pv, pa := pa } :=
  ⟨h.hp, h.hb, h0.kl, h0.wl, h0.akl, h0.ahl⟩
theorem NAt.same {w w' : World} {base : Nat} {e : NEnv} {s : NSt} (h : NAt w base e s) (hw : w'.heap = w.heap) : NAt w' base e s := ⟨h.hp.same hw, by rw [hw]; exact h.hb, h.kl, h.wl, h.akl, h.ahl⟩
theorem NAt.below {w w' : World} {base : Nat} {e : NEnv} {s : NSt} (h : NAt w base e s) (hw : Below w.heap.size w w') : NAt w' base e s := ⟨h.hp.below hw, Nat.le_trans h.hb hw.size, h.kl, h.wl, h.akl, h.ahl⟩
theorem NAt.a {w : World} {base : Nat} {e : NEnv} {s : NSt} (h : NAt w base e s) {i : Nat} {x : Int} (hx : s.al[i]? = some x) : w.cell? ⟨e.alg, i, none⟩ = some (.int .i64 x) := h.hp.cell (i := 5) (e := 3) (sz := 1) (n := e.m) (c := e.m) (cs := s.al.map intV) rfl (map_get hx)
theorem NAt.fza {w : World} {base : Nat} {e : NEnv} {s : NSt} (h : NAt w base e s) (i : Nat) : w.frozen? ⟨e.alg, i, none⟩ = false := h.hp.fz (i := 5) (e := 3) (sz := 1) (n := e.m) (c := e.m) (cs := s.al.map intV) rfl i
theorem NAt.fzh {w : World} {base : Nat} {e : NEnv} {s : NSt} (h : NAt w base e s) (i : Nat) : w.frozen? ⟨e.hig, i, none⟩ = false := h.hp.fz (i := 3) (e := 3) (sz := 1) (n := e.m) (c := e.m) (cs := s.hi.map intV) rfl i
theorem NAt.wout {w : World} {base : Nat} {e : NEnv} {s : NSt} (h : NAt w base e s) {i : Nat} {kv : Value} (hx : s.kvs[i]? = some kv) : w.cell? ⟨e.wg, i, none⟩ = some kv := h.hp.cell (i := 6) (e := 25) (sz := 1) (n := e.m) (c := e.m) (cs := s.kvs) rfl hx
theorem NAt.fzw {w : World} {base : Nat} {e : NEnv} {s : NSt} (h : NAt w base e s) (i : Nat) : w.frozen? ⟨e.wg, i, none⟩ = false := h.hp.fz (i := 6) (e := 25) (sz := 1) (n := e.m) (c := e.m) (cs := s.kvs) rfl i
theorem zip_get {kvs : List Value} {wt : List (List Int)} {i : Nat} {kv : Value} {r : List Int} (h1 : kvs[i]? = some kv) (h2 : wt[i]? = some r) : (List.zipWith rowS kvs wt)[i]? = some (rowS kv r) := by
  rw [List.getElem?_zipWith, h1, h2]
theorem nsS_w {e : NEnv} {s : NSt} {i : Nat} {kv : Value} {r : List Int} (h1 : s.kvs[i]? = some kv) (h2 : s.wt[i]? = some r) : (nsS e s)[7 + i]? = some (rowS kv r) := by
  have hl : i < (List.zipWith rowS s.kvs s.wt).length := (List.getElem?_eq_some_iff.1 (zip_get h1 h2)).1
  rw [Nat.add_comm]
  show (List.zipWith rowS s.kvs s.wt ++ outS e.ag e.m e.akv :: List.zipWith rowS e.akv e.ah)[i]? = _
  rw [List.getElem?_append_left hl]
  exact zip_get h1 h2
theorem nsS_ao {e : NEnv} {s : NSt} (hk : s.kvs.length = e.m) (hw : s.wt.length = e.m) : (nsS e s)[7 + e.m]? = some (outS e.ag e.m e.akv) := by
  have hl : (List.zipWith rowS s.kvs s.wt).length = e.m := by rw [List.length_zipWith, hk, hw]; omega
  rw [Nat.add_comm]
  show (List.zipWith rowS s.kvs s.wt ++ outS e.ag e.m e.akv :: List.zipWith rowS e.akv e.ah)[e.m]? = _
  rw [List.getElem?_append_right (by omega), hl, Nat.sub_self]
  rfl
theorem nsS_a {e : NEnv} {s : NSt} (hk : s.kvs.length = e.m) (hw : s.wt.length = e.m) {i : Nat} {kv : Value} {r : List Int} (h1 : e.akv[i]? = some kv) (h2 : e.ah[i]? = some r) : (nsS e s)[8 + e.m + i]? = some (rowS kv r) := by
  have hl : (List.zipWith rowS s.kvs s.wt).length = e.m := by rw [List.length_zipWith, hk, hw]; omega
  rw [show 8 + e.m + i = (e.m + 1 + i) + 7 by omega]
  show (List.zipWith rowS s.kvs s.wt ++ outS e.ag e.m e.akv :: List.zipWith rowS e.akv e.ah)[e.m + 1 + i]? = _
  rw [List.getElem?_append_right (by omega), hl, show e.m + 1 + i - e.m = i + 1 by omega, List.getElem?_cons_succ]
  exact zip_get h1 h2
theorem NAt.wkid {w : World} {base : Nat} {e : NEnv} {s : NSt} (h : NAt w base e s) {i : Nat} {kv : Value} {r : List Int} (h1 : s.kvs[i]? = some kv) (h2 : s.wt[i]? = some r) : w.ownsRow base 3 1 kv r.length (r.map intV) := h.hp.own _ _ (nsS_w h1 h2)
theorem NAt.aout {w : World} {base : Nat} {e : NEnv} {s : NSt} (h : NAt w base e s) {i : Nat} {kv : Value} (hx : e.akv[i]? = some kv) : w.cell? ⟨e.ag, i, none⟩ = some kv := h.hp.cell (nsS_ao h.kl h.wl) hx
theorem NAt.akid {w : World} {base : Nat} {e : NEnv} {s : NSt} (h : NAt w base e s) {i : Nat} {kv : Value} {r : List Int} (h1 : e.akv[i]? = some kv) (h2 : e.ah[i]? = some r) : w.ownsRow base 3 1 kv r.length (r.map intV) := h.hp.own _ _ (nsS_a h.kl h.wl h1 h2)
theorem set_sz {w : World} {base : Nat} (h : base ≤ w.heap.size) (a : Addr) (u : Value) : base ≤ (w.setCell a u).heap.size := by simpa [World.setCell] using h
theorem NAt.setH {w : World} {base : Nat} {e : NEnv} {s : NSt} (h : NAt w base e s) (i : Nat) (x : Int) : NAt (w.setCell ⟨e.hig, i, none⟩ (.int .i64 x)) base e { s with hi := s.hi.set i x } := by
  refine ⟨?_, set_sz h.hb _ _, h.kl, h.wl, h.akl, h.ahl⟩
  have := h.hp.store (i := 3) (g := e.hig) (n := e.m) (c := e.m) (e := 3) (sz := 1) (cs := s.hi.map intV) rfl i (.int .i64 x)
  unfold nsS at this ⊢
  simp only [List.set_cons_succ, List.set_cons_zero] at this
  rw [show (⟨slV e.hig e.m, 3, 1, e.m, (s.hi.map intV).set i (.int .i64 x)⟩ : Slot) = rowM e.hig e.m (s.hi.set i x) by simp [rowM, List.map_set]] at this
  exact this
theorem NAt.setO {w : World} {base : Nat} {e : NEnv} {s : NSt} (h : NAt w base e s) (i : Nat) (x : Int) : NAt (w.setCell ⟨e.ovg, i, none⟩ (.int .i64 x)) base e { s with ov := s.ov.set i x } := by
  refine ⟨?_, set_sz h.hb _ _, h.kl, h.wl, h.akl, h.ahl⟩
  have := h.hp.store (i := 1) (g := e.ovg) (n := e.m) (c := e.m) (e := 3) (sz := 1) (cs := s.ov.map intV) rfl i (.int .i64 x)
  unfold nsS at this ⊢
  simp only [List.set_cons_succ, List.set_cons_zero] at this
  rw [show (⟨slV e.ovg e.m, 3, 1, e.m, (s.ov.map intV).set i (.int .i64 x)⟩ : Slot) = rowM e.ovg e.m (s.ov.set i x) by simp [rowM, List.map_set]] at this
  exact this
theorem NAt.setA {w : World} {base : Nat} {e : NEnv} {s : NSt} (h : NAt w base e s) (i : Nat) (x : Int) : NAt (w.setCell ⟨e.alg, i, none⟩ (.int .i64 x)) base e { s with al := s.al.set i x } := by
  refine ⟨?_, set_sz h.hb _ _, h.kl, h.wl, h.akl, h.ahl⟩
  have := h.hp.store (i := 5) (g := e.alg) (n := e.m) (c := e.m) (e := 3) (sz := 1) (cs := s.al.map intV) rfl i (.int .i64 x)
  unfold nsS at this ⊢
  simp only [List.set_cons_succ, List.set_cons_zero] at this
  rw [show (⟨slV e.alg e.m, 3, 1, e.m, (s.al.map intV).set i (.int .i64 x)⟩ : Slot) = rowM e.alg e.m (s.al.set i x) by simp [rowM, List.map_set]] at this
  exact this
theorem zip_set {kvs : List Value} {wt : List (List Int)} {i : Nat} {kv : Value} {r : List Int} : List.zipWith rowS (kvs.set i kv) (wt.set i r) = (List.zipWith rowS kvs wt).set i (rowS kv r) := by
  apply List.ext_getElem?
  intro j
  rw [List.getElem?_zipWith, List.getElem?_set, List.getElem?_set, List.getElem?_set, List.getElem?_zipWith, List.length_zipWith]
  by_cases e : i = j
  · subst e
    rw [if_pos rfl, if_pos rfl, if_pos rfl]
    by_cases h1 : i < kvs.length
    · by_cases h2 : i < wt.length
      · rw [if_pos h1, if_pos h2, if_pos (by omega)]
      · rw [if_pos h1, if_neg h2, if_neg (by omega)]
    · have h3 : ¬ i < min kvs.length wt.length := by omega
      rw [if_neg h1, if_neg h3]
  · rw [if_neg e, if_neg e, if_neg e]
/-- A row of waiting is another one, and lies in the outer row. -/
theorem NAt.turnW {w w' : World} {base : Nat} {e : NEnv} {s : NSt} (h : NAt w base e s) {i : Nat} {kv kv' : Value} {r r' : List Int} (h1 : s.kvs[i]? = some kv) (h2 : s.wt[i]? = some r) (ho : w'.ownsRow base 3 1 kv' r'.length (r'.map intV)) (hg : w.grownBy w' kv.ownBlock) (hat : kv'.ownBlock = kv.ownBlock ∨ kv'.ownBlock = some w.heap.size ∨ kv'.ownBlock = none) :
    NAt (w'.setCell ⟨e.wg, i, none⟩ kv') base e { s with kvs := s.kvs.set i kv', wt := s.wt.set i r' } ∧ Heap w' base ((nsS e s).set (7 + i) (rowS kv' r')) := by
  have hT : Heap w' base ((nsS e s).set (7 + i) (rowS kv' r')) := h.hp.turn (nsS_w h1 h2) (fun k hk hne => hg.block k hk (fun e => hne e.symm)) ho (fun g hg' => by
    have h9 : kv'.ownBlock = some g := hg'
    rcases hat with e | e | e
    · exact .inl (e ▸ h9)
    · rw [e] at h9; cases h9; exact .inr (Nat.le_refl _)
    · rw [e] at h9; cases h9)
  refine ⟨⟨?_, set_sz (Nat.le_trans h.hb hg.size) _ _, by simpa using h.kl, by simpa using h.wl, h.akl, h.ahl⟩, hT⟩
  have h6 : ((nsS e s).set (7 + i) (rowS kv' r'))[6]? = some (outS e.wg e.m s.kvs) := by
    rw [List.getElem?_set, if_neg (by omega)]
    rfl
  have h3 := hT.store h6 i kv'
  have hl : i < (List.zipWith rowS s.kvs s.wt).length := (List.getElem?_eq_some_iff.1 (zip_get h1 h2)).1
  have hE : ((nsS e s).set (7 + i) (rowS kv' r')).set 6 ⟨slV e.wg e.m, 25, 1, e.m, s.kvs.set i kv'⟩ = nsS e { s with kvs := s.kvs.set i kv', wt := s.wt.set i r' } := by
    unfold nsS
    rw [Nat.add_comm 7 i]
    simp only [List.set_cons_succ, List.set_cons_zero]
    rw [List.set_append_left _ _ hl, zip_set]
  rw [hE] at h3
  exact h3
/-- Cells of others stay while a row of waiting turns. -/
theorem turn_cell {w' : World} {base : Nat} {e : NEnv} {s : NSt} {i : Nat} {sl : Slot} (hT : Heap w' base ((nsS e s).set (7 + i) sl)) : (∀ j x, s.hi[j]? = some x → w'.cell? ⟨e.hig, j, none⟩ = some (.int .i64 x)) ∧ w'.cell? ⟨e.B, 2, none⟩ = some (slV e.hig e.m) ∧ (∀ j kv, s.kvs[j]? = some kv → w'.cell? ⟨e.wg, j, none⟩ = some kv) ∧ ∀ j, w'.frozen? ⟨e.wg, j, none⟩ = false := by
  have h3 : ((nsS e s).set (7 + i) sl)[3]? = some (rowM e.hig e.m s.hi) := by rw [List.getElem?_set, if_neg (by omega)]; rfl
  have h0 : ((nsS e s).set (7 + i) sl)[0]? = some (boxS e.B [slV e.ovg e.m, slV e.beg e.m, slV e.hig e.m, s.pv]) := by rw [List.getElem?_set, if_neg (by omega)]; rfl
  have h6 : ((nsS e s).set (7 + i) sl)[6]? = some (outS e.wg e.m s.kvs) := by rw [List.getElem?_set, if_neg (by omega)]; rfl
  exact ⟨fun j x hx => hT.cell h3 (map_get hx), hT.cell h0 rfl, fun j kv hx => hT.cell h6 hx, fun j => hT.fz h6 j⟩
end Go.Proofs.Ythedgacidphgnaa
