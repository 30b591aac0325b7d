/- What the walk through a graph leaves: each block once, closed under edges, each from one ahead. Plain. -/
import Derived.Test.YtajaijilfclhpaaGreatDoorGBoxM
import Derived.Test.YtajaijilfclhpaaGreatDoorGAhd1M
namespace Go.Proofs.YtajaijilfclhpaaGreatDoor

structure Wt (ts : List Tm) (a : Nat) (met m : List Bool) (E : List Int) : Prop where
 len : m.length = met.length
 mono : ∀ k, met.getD k true = true → m.getD k true = true
 nat : ∀ x ∈ E, ∃ k : Nat, x = (k : Int) ∧ k < met.length
 mem : ∀ k : Nat, (k : Int) ∈ E ↔ (met.getD k true = false ∧ m.getD k true = true)
 closed : ∀ k : Nat, (k : Int) ∈ E → ∀ y ∈ namedT (ts.getD k default), inB y met.length = true → m.getD y.toNat true = true
 nodup : E.Nodup
 par : ∀ k : Nat, (k : Int) ∈ E → ∃ p : Nat, (p = a ∨ (p : Int) ∈ E) ∧ (k : Int) ∈ namedT (ts.getD p default)
theorem Wt.refl (ts : List Tm) (a : Nat) (met : List Bool) : Wt ts a met met [] :=
 ⟨rfl, fun _ h => h, by simp, fun k => by simp, by simp, by simp, by simp⟩
theorem getD_set {l : List Bool} {i k : Nat} {b : Bool} (hi : i < l.length) : (l.set i b).getD k true = if i = k then b else l.getD k true := by
 simp only [List.getD, List.getElem?_set]
 by_cases h : i = k
 ·subst h; simp [hi]
 ·simp [h]
theorem lt_of_getD {l : List Bool} {k : Nat} (h : l.getD k true = false) : k < l.length := by
 rcases Nat.lt_or_ge k l.length with h1 | h1
 ·exact h1
 ·simp [List.getD, List.getElem?_eq_none h1] at h
/-- One more block, and what is left from it. -/
theorem Wt.step {ts : List Tm} {a : Nat} {met m m2 : List Bool} {E D : List Int} {to : Nat} (h : Wt ts a met m E) (hto : m.getD to true = false) (hn : (to : Int) ∈ namedT (ts.getD a default))
  (g : Wt ts to (m.set to true) m2 D) (hc : ∀ y ∈ namedT (ts.getD to default), inB y met.length = true → m2.getD y.toNat true = true) : Wt ts a met m2 (E ++ D ++ [(to : Int)]) := by
 have hl := lt_of_getD hto
 have gs : ∀ k, (m.set to true).getD k true = if to = k then true else m.getD k true := fun k => getD_set hl
 have hm2 : m2.getD to true = true := g.mono to (by rw [gs]; simp)
 have hmm : ∀ k, m.getD k true = true → m2.getD k true = true := fun k hk => g.mono k (by rw [gs]; split <;> simp_all)
 have hmt : met.getD to true = false := by
  cases e : met.getD to true with
  | false => rfl
  | true => rw [h.mono to e] at hto; cases hto
 refine ⟨by rw [g.len]; simpa using h.len, fun k hk => hmm k (h.mono k hk), ?_, ?_, ?_, ?_, ?_⟩
 ·intro x hx
  simp only [List.mem_append, List.mem_singleton] at hx
  rcases hx with (hx | hx) | hx
  ·exact h.nat x hx
  ·obtain ⟨k, rfl, hk⟩ := g.nat x hx
   exact ⟨k, rfl, by simpa [h.len] using hk⟩
  ·exact ⟨to, hx, by rw [← h.len]; exact hl⟩
 ·intro k
  simp only [List.mem_append, List.mem_singleton, h.mem k, g.mem k, gs, Int.natCast_inj]
  constructor
  ·rintro ((⟨h1, h2⟩ | ⟨h1, h2⟩) | rfl)
   ·exact ⟨h1, hmm k h2⟩
   ·split at h1
    ·cases h1
    ·refine ⟨?_, h2⟩
     cases e : met.getD k true with
     | false => rfl
     | true => rw [h.mono k e] at h1; cases h1
   ·exact ⟨hmt, hm2⟩
  ·rintro ⟨h1, h2⟩
   by_cases e : k = to
   ·exact .inr e
   ·left
    cases e1 : m.getD k true with
    | true => exact .inl ⟨h1, rfl⟩
    | false => exact .inr ⟨by rw [if_neg (fun x => e x.symm)], h2⟩
 ·intro k hk y hy hb
  simp only [List.mem_append, List.mem_singleton, Int.natCast_inj] at hk
  rcases hk with (hk | hk) | rfl
  ·exact hmm _ (h.closed k hk y hy hb)
  ·exact g.closed k hk y hy (by simpa [h.len] using hb)
  ·exact hc y hy hb
 ·have hE : ∀ x ∈ E, ∃ k : Nat, x = (k : Int) ∧ m.getD k true = true := fun x hx => by
   obtain ⟨k, rfl, _⟩ := h.nat x hx
   exact ⟨k, rfl, ((h.mem k).1 hx).2⟩
  have hD : ∀ x ∈ D, ∃ k : Nat, x = (k : Int) ∧ to ≠ k ∧ m.getD k true = false := fun x hx => by
   obtain ⟨k, rfl, _⟩ := g.nat x hx
   have := ((g.mem k).1 hx).1
   rw [gs] at this
   split at this
   ·cases this
   ·exact ⟨k, rfl, by assumption, this⟩
  rw [List.nodup_append, List.nodup_append]
  refine ⟨⟨h.nodup, g.nodup, ?_⟩, by simp, ?_⟩
  ·rintro x hx y hy rfl
   obtain ⟨k, rfl, hk⟩ := hE x hx
   obtain ⟨j, e, _, hj⟩ := hD _ hy
   obtain rfl : k = j := by omega
   rw [hk] at hj; cases hj
  ·rintro x hx y hy rfl
   simp only [List.mem_singleton] at hy
   rcases List.mem_append.1 hx with hx | hx
   ·obtain ⟨k, e, hk⟩ := hE x hx
    obtain rfl : k = to := by omega
    rw [hk] at hto; cases hto
   ·obtain ⟨k, e, hk, _⟩ := hD x hx
    omega
 ·intro k hk
  simp only [List.mem_append, List.mem_singleton, Int.natCast_inj] at hk ⊢
  rcases hk with (hk | hk) | rfl
  ·obtain ⟨p, hp, hq⟩ := h.par k hk
   exact ⟨p, hp.imp id fun z => .inl (.inl z), hq⟩
  ·obtain ⟨p, hp, hq⟩ := g.par k hk
   rcases hp with rfl | hp
   ·exact ⟨p, .inr (.inr rfl), hq⟩
   ·exact ⟨p, .inr (.inl (.inr hp)), hq⟩
  ·exact ⟨a, .inl rfl, hn⟩
def DfsOk (ts : List Tm) (f : Nat) : Prop := ∀ (a : Nat) (met : List Bool) (left : List Int), met.length = ts.length → a < ts.length → met.getD a true = true → cntF met ≤ f →
 ∃ D m, dfs ts f a met left = (m, left ++ D ++ [(a : Int)]) ∧ Wt ts a met m D ∧ ∀ y ∈ namedT (ts.getD a default), inB y met.length = true → m.getD y.toNat true = true
structure Ordered (ts : List Tm) (O : List Int) : Prop where
 nat : ∀ x ∈ O, ∃ k : Nat, x = (k : Int) ∧ k < ts.length
 zero : 0 < ts.length → (0 : Int) ∈ O
 closed : ∀ k : Nat, (k : Int) ∈ O → ∀ y ∈ namedT (ts.getD k default), inB y ts.length = true → y ∈ O
 par : ∀ k : Nat, (k : Int) ∈ O → k ≠ 0 → ∃ p : Nat, (p : Int) ∈ O ∧ (k : Int) ∈ namedT (ts.getD p default)
 nodup : O.Nodup
end Go.Proofs.YtajaijilfclhpaaGreatDoor
/- The walk's variables in memory. -/
namespace Go.Proofs.YtajaijilfclhpaaGreatDoor
open Go.RowKit

def metV (B n : Nat) : Value := .slice (some ⟨B + 1, 0, none⟩) n n
/-- What a step leaves of other blocks. -/
structure WM (B : Nat) (w : World) (pv lv : Value) (w' : World) (pv' lv' : Value) : Prop where
 size : w.heap.size ≤ w'.heap.size
 block : ∀ k, k < w.heap.size → k ≠ B + 1 → k ≠ B + 3 → k ≠ B + 4 → pv.ownBlock ≠ some k → lv.ownBlock ≠ some k → w'.heap[k]? = w.heap[k]?
 sp : pv'.ownBlock = pv.ownBlock ∨ ∃ g, pv'.ownBlock = some g ∧ w.heap.size ≤ g
 sl : lv'.ownBlock = lv.ownBlock ∨ ∃ g, lv'.ownBlock = some g ∧ w.heap.size ≤ g
theorem WM.refl (B : Nat) (w : World) (pv lv : Value) : WM B w pv lv w pv lv := ⟨Nat.le_refl _, fun _ _ _ _ _ _ _ => rfl, .inl rfl, .inl rfl⟩
theorem WM.off {B k : Nat} {w w' : World} {pv lv pv' lv' : Value} (h : WM B w pv lv w' pv' lv') (hk : k < w.heap.size) (h1 : pv.ownBlock ≠ some k) (h2 : lv.ownBlock ≠ some k) : pv'.ownBlock ≠ some k ∧ lv'.ownBlock ≠ some k := by
 constructor
 ·rcases h.sp with e | ⟨g, e, hg⟩
  ·rw [e]; exact h1
  ·rw [e]; intro hc; cases hc; omega
 ·rcases h.sl with e | ⟨g, e, hg⟩
  ·rw [e]; exact h2
  ·rw [e]; intro hc; cases hc; omega
theorem WM.trans {B : Nat} {w w1 w2 : World} {pv lv p1 l1 p2 l2 : Value} (h : WM B w pv lv w1 p1 l1) (g : WM B w1 p1 l1 w2 p2 l2) : WM B w pv lv w2 p2 l2 := by
 refine ⟨Nat.le_trans h.size g.size, ?_, ?_, ?_⟩
 ·intro k hk a b c d e
  have ho := h.off hk d e
  exact (g.block k (Nat.lt_of_lt_of_le hk h.size) a b c ho.1 ho.2).trans (h.block k hk a b c d e)
 ·rcases g.sp with e | ⟨q, e, hq⟩
  ·rcases h.sp with e' | ⟨q, e', hq⟩
   ·exact .inl (e.trans e')
   ·exact .inr ⟨q, e.trans e', hq⟩
  ·exact .inr ⟨q, e, Nat.le_trans h.size hq⟩
 ·rcases g.sl with e | ⟨q, e, hq⟩
  ·rcases h.sl with e' | ⟨q, e', hq⟩
   ·exact .inl (e.trans e')
   ·exact .inr ⟨q, e.trans e', hq⟩
  ·exact .inr ⟨q, e, Nat.le_trans h.size hq⟩
theorem WM.below {B : Nat} {w w1 : World} {pv lv : Value} (hb : Below w.heap.size w w1) : WM B w pv lv w1 pv lv := ⟨hb.size, fun k hk _ _ _ _ _ => hb.block k hk, .inl rfl, .inl rfl⟩
theorem below_set {w0 w : World} {b : Nat} (h : Below w0.heap.size w0 w) (hb : w0.heap.size ≤ b) (j : Nat) (u : Value) : Below w0.heap.size w0 (w.setCell ⟨b, j, none⟩ u) := h.setCell (p := ⟨b, j, none⟩) hb u
theorem WM.mark {w : World} {pv lv : Value} {B : Nat} (k : Nat) (u : Value) : WM B w pv lv (w.setCell ⟨B + 1, k, none⟩ u) pv lv :=
 ⟨by simp [World.setCell], fun j _ h1 _ _ _ _ => Below.heap_setCell _ _ _ _ h1, .inl rfl, .inl rfl⟩
end Go.Proofs.YtajaijilfclhpaaGreatDoor
/- A block is met: marked, and put behind the path. -/
namespace Go.Proofs.YtajaijilfclhpaaGreatDoor
open Go.RowKit

end Go.Proofs.YtajaijilfclhpaaGreatDoor
/- How the walk counts: what is left, and what is not met yet. Plain. -/
namespace Go.Proofs.YtajaijilfclhpaaGreatDoor

def stepOf (ts : List Tm) : Nat → List Bool × List Int → Int → List Bool × List Int
 | 0 => fun s _ => s
 | f + 1 => stepW (dfs ts f)
def Cnt (ts : List Tm) (f : Nat) : Prop := ∀ (a : Nat) (met : List Bool) (left : List Int), met.length = ts.length → a < ts.length → met.getD a true = true → cntF met ≤ f →
 (dfs ts f a met left).2.length + cntF (dfs ts f a met left).1 = left.length + cntF met + 1
end Go.Proofs.YtajaijilfclhpaaGreatDoor
/- The walk through the last block of the path. -/
namespace Go.Proofs.YtajaijilfclhpaaGreatDoor
open Go.RowKit

theorem tms_getD {bs : List Bl} {k : Nat} (h : k < bs.length) : (tms bs).getD k default = (bs.getD k default).tm := by
 simp [tms, List.getD, List.getElem?_eq_getElem h]
theorem drop_fold {α : Type} {L : List Int} {i : Nat} (h : i < L.length) (s : α) (F : α → Int → α) : (L.drop i).foldl F s = (L.drop (i + 1)).foldl F (F s (L.getD i 0)) := by
 rw [List.drop_eq_getElem_cons h, List.foldl_cons]
 congr 2
 simp [List.getD, List.getElem?_eq_getElem h]
end Go.Proofs.YtajaijilfclhpaaGreatDoor
/- For each block those with an edge to it. -/
namespace Go.Proofs.YtajaijilfclhpaaGreatDoor
open Go.RowKit

theorem drop_ahead {ts : List Tm} {i : Nat} (h : i < ts.length) (rows : List (List Int)) : aheadF (ts.drop i) i rows = aheadF (ts.drop (i + 1)) (i + 1) ((nextT (ts.getD i default)).foldl (putA (i : Int)) rows) := by
 have e : ts.getD i default = ts[i] := by simp [List.getD, List.getElem?_eq_getElem h]
 rw [e, List.drop_eq_getElem_cons h]
 rfl
theorem rows_own_frame {w w' : World} {base2 G : Nat} {nv kv : Value} {L : List Int} (h : OwnI w base2 nv L) (hG : G < base2) (hk : ∀ q, nv.ownBlock = some q → kv.ownBlock ≠ some q)
  (hb : ∀ k, k < w.heap.size → k ≠ G → kv.ownBlock ≠ some k → w'.heap[k]? = w.heap[k]?) : OwnI w' base2 nv L :=
 owns_same h fun q hq => hb q (h.lt q hq).2 (by have := (h.lt q hq).1; omega) (hk q hq)
set_option maxRecDepth 100000 in
set_option maxHeartbeats 2000000 in
theorem ahead_any (G : Gr) (pv vv av bv : Value) (w : World) (h : GrAt w pv vv av bv G) (hn : G.blocks.length ≤ 100000) :
  Calls Tryz.prog 182 #[.agg #[.string G.name, pv, .int .u8 G.result, vv, av, bv]] w fun e w' => ∃ kvs, e = .returned (.slice (some ⟨w.heap.size + 1, 0, none⟩) G.blocks.length G.blocks.length) ∧ RowsIn w' w.heap.size (w.heap.size + 1) G.blocks.length kvs (aheadT (tms G.blocks)) ∧ Below w.heap.size w w' := by
 obtain ⟨nm, ps, r, vs, ars, bs⟩ := G
 have hB := h.bs
 dsimp only at hB hn ⊢
 clear h
 obtain ⟨a, c, rfl, _⟩ := hB.form
 have HI : Hid (∀ i, i < bs.length → _) := fun i hi => hB.get hi
 have HT : Hid (∀ i, i < bs.length → (tms bs).getD i default = (bs.getD i default).tm) := fun i hi => tms_getD hi
 obtain ⟨n, hnn⟩ : ∃ n, n = bs.length := ⟨_, rfl⟩
 have htl : (tms bs).length = n := by simp [tms, hnn]
 rw [← hnn] at HI hn HT
 rw [← hnn]
 have hmk := run_make_row' (P := Tryz.prog) 76 22 (.slice none 0 0) 24 Tryz.underlying76 infoS rfl .i64 .i64 n (by omega) (by omega)
 obtain ⟨ts, hts⟩ : ∃ ts, ts = tms bs := ⟨_, rfl⟩
 rw [← hts] at htl HT
 rw [← hts]
 obtain ⟨R, hR⟩ : ∃ R, R = aheadT ts := ⟨_, rfl⟩
 rw [← hR]
 have HR : Hid (aheadF (ts.drop 0) 0 (List.replicate n []) = R) := by show _ = _; rw [hR, List.drop_zero, aheadT, htl]
 have HTL : Hid (ts.length = n) := htl
 have HRN : Hid (RowsIn ((w.alloc (.cells #[.string nm, pv, .int .u8 r, vv, av, .slice a n c] 28)).alloc (.cells (madeCells #[.slice none 0 0] n) 22)) w.heap.size (w.heap.size + 1) n (List.replicate n (.slice none 0 0)) (List.replicate n [])) := by
  have := rows_new (w.alloc (.cells #[.string nm, pv, .int .u8 r, vv, av, .slice a n c] 28)) w.heap.size n (below_alloc (Below.refl _ _) _).size (by omega)
  rwa [show (w.alloc (.cells #[.string nm, pv, .int .u8 r, vv, av, .slice a n c] 28)).heap.size = w.heap.size + 1 by simp] at this
 obtain ⟨i0, hi0, hz0, hz1, hz2⟩ := info_parts infoI
 clear hnn htl hts hR hB
 go_enter Tryz.func182, Tryz.ntmps182
 go_wp2
 go_loopw [15] (fun vi wr => ∃ (i : Nat) (kvs : List Value) (rows : List (List Int)), vi = .int .i64 i ∧ i ≤ n ∧ Hid (Below w.heap.size w wr ∧ RowsIn wr w.heap.size (w.heap.size + 1) n kvs rows ∧ aheadF (ts.drop i) i rows = R ∧ lensA rows ≤ 2 * i)) (fun vi _ => n - (intOf vi).toNat)
 case atStart => exact ⟨0, _, _, rfl, by omega, below_alloc (below_alloc (Below.refl _ _) _) _, HRN.out, HR.out, by rw [lens_rep]; omega⟩
 case round =>
  obtain ⟨i, kvs, rows, rfl, hi, hr⟩ := hrel
  clear HRN HR hmk
  generalize wr = wo at *
  by_cases hin : i < n
  ·obtain ⟨g, o, iv, rfl, hg, c0, c1, c2, c3, c4, c5, hins⟩ := HI.out i hin
   obtain ⟨ia, ic, rfl, _⟩ := hins.form
   clear hins
   generalize hil : (bs.getD i default).ins.length = il at *
   have hin' : (i : Int) < n := by omega
   have hcl : ∀ j, wo.cell? ⟨g, j, none⟩ = w.cell? ⟨g, j, none⟩ := fun j => hr.out.1.cell (p := ⟨g, j, none⟩) hg
   rw [← hcl] at c0 c1 c2 c3 c4 c5
   have HNX : Hid (∀ W, Calls Tryz.prog 194 #[.agg #[.slice ia il ic, .int .u8 (bs.getD i default).tm.kind, .int .i64 (bs.getD i default).tm.arg, .int .i64 (bs.getD i default).tm.t0, .int .i64 (bs.getD i default).tm.t1, .int .u8 (bs.getD i default).tm.trap]] W fun e w' => ∃ v, e = .returned v ∧ OwnI w' W.heap.size v (nextT (bs.getD i default).tm) ∧ Below W.heap.size W w') := fun W => next_any (.slice ia il ic) (bs.getD i default).tm W
   have hlen := next_len (bs.getD i default).tm
   have HDA : Hid _ := drop_ahead (ts := ts) (i := i) (by rw [HTL.out]; exact hin) rows
   rw [HT.out i hin] at HDA
   generalize nextT (bs.getD i default).tm = L at *
   generalize (bs.getD i default).tm.kind = t0 at *
   generalize (bs.getD i default).tm.arg = t1 at *
   generalize (bs.getD i default).tm.t0 = t2 at *
   generalize (bs.getD i default).tm.t1 = t3 at *
   generalize (bs.getD i default).tm.trap = t4 at *
   obtain ⟨R2, hR2⟩ : ∃ R2, R2 = L.foldl (putA (i : Int)) rows := ⟨_, rfl⟩
   rw [← hR2] at HDA
   have HR2 : Hid (L.foldl (putA (i : Int)) rows = R2) := hR2.symm
   have HA0 : Hid (Below wo.heap.size wo (wo.alloc (.cells #[.slice ia il ic, .int .u8 t0, .int .i64 t1, .int .i64 t2, .int .i64 t3, .int .u8 t4] 63))) := below_alloc (Below.refl _ _) _
   clear hR2 hcl HI hil
   go_wp2_with (go_at_call 194; go_loud (refine Calls.mono (by exact HNX.out _) ?_; rintro e w1 ⟨v, rfl, ho1, hb1⟩; obtain ⟨va, vc, rfl, _⟩ := (OwnI.at' ho1 (by omega)).form; have HO1 : Hid (OwnI w1 wo.heap.size (.slice va L.length vc) L) := own_mono ho1 HA0.out.size; have HB1 : Hid (Below wo.heap.size wo w1) := below_trans HA0.out hb1; clear ho1 hb1))
   go_loopw [23] (fun vk wq => ∃ (k : Nat) (kvs : List Value) (rows : List (List Int)), vk = .int .i64 k ∧ k ≤ L.length ∧ Hid (Below w.heap.size w wq ∧ RowsIn wq w.heap.size (w.heap.size + 1) n kvs rows ∧ (L.drop k).foldl (putA (i : Int)) rows = R2 ∧ lensA rows ≤ 2 * i + k ∧ OwnI wq wo.heap.size (.slice va L.length vc) L ∧ ∀ q, (Value.slice va L.length vc).ownBlock = some q → ∀ kv ∈ kvs, kv.ownBlock ≠ some q)) (fun vk _ => L.length - (intOf vk).toNat)
   case atStart =>
    refine ⟨0, kvs, rows, rfl, by omega, below_trans hr.out.1 HB1.out, hr.out.2.1.below HB1.out, HR2.out, hr.out.2.2.2, HO1.out, ?_⟩
    intro q hq kv hkv hc
    obtain ⟨j, hj, he⟩ := List.mem_iff_getElem.1 hkv
    have hjr : j < rows.length := by rw [hr.out.2.1.rlen, ← hr.out.2.1.klen]; exact hj
    have h1 := (hr.out.2.1.kid j _ kv (List.getElem?_eq_getElem hjr) (by rw [List.getElem?_eq_getElem hj, he])).1
    have := (h1.lt q hc).2
    have := (HO1.out.lt q hq).1
    omega
   case round =>
    obtain ⟨k, kvs2, rows2, rfl, hk, hq⟩ := hrel
    clear HB1 HO1 HR2
    have HWR : Hid (w.heap.size + 1 < wo.heap.size) := hr.out.2.1.ltG.2
    by_cases hkn : k < L.length
    ·obtain ⟨gv, ov, rfl, hgv, cv⟩ := (OwnI.at' hq.out.2.2.2.2.1 (by omega)).get hkn
     have HD : Hid _ := drop_fold hkn rows2 (putA (i : Int))
     have hkn' : (k : Int) < L.length := by omega
     generalize hto : L.getD k 0 = to at *
     have HPL : Hid (∀ W, Calls Tryz.prog 178 #[.int .i64 to, .int .i64 (n : Int)] W fun e w' => e = .returned (.bool (inB to n)) ∧ w' = W) := fun W => isPlace_any to n W
     have hrl := hq.out.2.1.rlen
     have hkl := hq.out.2.1.klen
     by_cases hb : inB to n = true
     ·obtain ⟨t, ht⟩ : ∃ t : Nat, to = (t : Int) := Int.eq_ofNat_of_zero_le (inB_iff.1 hb).1
      subst ht
      have htn : t < n := by have := (inB_iff.1 hb).2; omega
      have htn' : (t : Int) < n := by omega
      have er : rows2[t]? = some (rows2[t]'(by omega)) := List.getElem?_eq_getElem _
      have ek : kvs2[t]? = some (kvs2[t]'(by omega)) := List.getElem?_eq_getElem _
      have hrm : rows2[t]'(by omega) ∈ rows2 := List.getElem_mem _
      have hkm : kvs2[t]'(by omega) ∈ kvs2 := List.getElem_mem _
      generalize rows2[t]'(by omega) = rw at er hrm
      generalize kvs2[t]'(by omega) = kv at ek hkm
      obtain ⟨ka, kc, rfl, _⟩ := (OwnI.at' (hq.out.2.1.kid t rw kv er ek).1 (by have := lens_mem hrm; have := hq.out.2.2.2.1; omega)).form
      have hrw : rw.length ≤ 300000 := by have := lens_mem hrm; have := hq.out.2.2.2.1; omega
      have cG := hq.out.2.1.cellG ek
      have fG := hq.out.2.1.fzG t
      rw [hb] at HPL
      have hx0 : (L.drop (k + 1)).foldl (putA (i : Int)) (rows2.modify t (· ++ [(i : Int)])) = R2 := by
       rw [← hq.out.2.2.1, HD.out]
       congr 1
       unfold putA
       rw [hrl, if_pos hb, Int.toNat_natCast]
      have hl0 : lensA (rows2.modify t (· ++ [(i : Int)])) ≤ 2 * i + (k + 1) := by
       rw [lens_modify _ _ _ (by omega)]
       have := hq.out.2.2.2.1
       omega
      have HX : Hid _ := hx0
      have HL0 : Hid _ := hl0
      have HER : Hid _ := er
      have HEK : Hid _ := ek
      have HKM : Hid _ := hkm
      have hwr : w.heap.size + 1 < wr.heap.size := hq.out.2.1.ltG.2
      have HA1 : Hid (Below wr.heap.size wr (wr.alloc (.cells #[.int .i64 (i : Int)] 3))) := below_alloc (Below.refl _ _) _
      have hok0 := (hq.out.2.1.kid t rw _ er ek).1
      generalize hrl0 : rw.length = rl at *
      have HOK : Hid (wr.ownsRow w.heap.size 3 1 (.slice ka rl kc) rl (rw.map intV)) := by
       have h9 : wr.ownsRow w.heap.size 3 1 (.slice ka rl kc) rw.length (rw.map intV) := hok0
       rw [hrl0] at h9
       exact h9
      clear hok0
      have HRL : Hid (rw.length = rl) := hrl0
      clear hrl0
      clear hx0 hl0 er ek hkm hrm hrl hkl hto HD
      go_wp2_with (first
       | (go_at_call 178; refine Calls.mono (HPL.out _) ?_; rintro e wx ⟨rfl, hwx⟩; subst wx)
       | (at_builtin; go_loud (refine wpList_append_own_at _ rfl _ _ 22 rfl w.heap.size 3 i0 (.int .i64 0) 1 8 Tryz.underlying22 hi0 hz0 hz1 hz2 rfl (by decide) _ rl (rw.map intV) rfl (HOK.out.alloc _) ⟨wr.heap.size, 0, none⟩ 1 1 [intV i] rfl rfl ?c1 ?c2 ?c3 ?c4 ?c5 ?_)))
      case c1 => exact cell_one_new wr (intV i) 3
      case c2 => intro u hu; simp at hu; subst hu; rfl
      case c3 => unfold maxLen; omega
      case c4 => omega
      case c5 => simp; omega
      intro v2 w2 ho hg2 _ hat
      obtain ⟨g2, cc2, rfl, _, _, _, _⟩ := own_form ho
      obtain ⟨hP, q3, q4, hF, hZ⟩ := (hq.out.2.1.below HA1.out).push HER.out HEK.out (by rw [HRL.out]; exact ho) hg2 (by simpa using hat)
      have HFR : Hid (Below w.heap.size w (w2.setCell ⟨w.heap.size + 1, t, none⟩ (.slice (some ⟨g2, 0, none⟩) (rl + 1) cc2)) ∧ OwnI (w2.setCell ⟨w.heap.size + 1, t, none⟩ (.slice (some ⟨g2, 0, none⟩) (rl + 1) cc2)) wo.heap.size (.slice (some ⟨gv, ov, none⟩) L.length vc) L) := by
       refine ⟨?_, ?_⟩
       ·refine below_set ?_ (by omega) _ _
        exact below_grown (below_trans hq.out.1 HA1.out) hg2 (fun q hqq => (HOK.out.lt q hqq).1)
       ·refine rows_own_frame (w := wr.alloc (.cells #[.int .i64 (i : Int)] 3)) (kv := .slice ka rl kc) (owns_below hq.out.2.2.2.2.1 HA1.out) HWR.out (fun q hqq => hq.out.2.2.2.2.2 q hqq _ HKM.out) hF
      have HNK : Hid (∀ q, (Value.slice (some ⟨gv, ov, none⟩) L.length vc).ownBlock = some q → ∀ kv ∈ kvs2.set t (.slice (some ⟨g2, 0, none⟩) (rl + 1) cc2), kv.ownBlock ≠ some q) := by
       intro q hqq kv hkv
       rcases List.mem_or_eq_of_mem_set hkv with hkv | rfl
       ·exact hq.out.2.2.2.2.2 q hqq kv hkv
       ·rcases hat with e | e
        ·rw [e]; exact hq.out.2.2.2.2.2 q hqq _ HKM.out
        ·rw [e]
         intro hc
         cases hc
         have := (hq.out.2.2.2.2.1.lt _ hqq).2
         omega
      have HP : Hid _ := hP
      clear hP hF hZ ho hg2 hat
      go_wp2
      go_roundw
      case rel => exact ⟨k + 1, _, _, by first | rfl | (congr 1; omega), by omega, HFR.out.1, HP.out, HX.out, HL0.out, HFR.out.2, HNK.out⟩
      case measure => simp [intOf]; omega
     ·have hbf : inB to n = false := by simpa using hb
      rw [hbf] at HPL
      have hx0 : (L.drop (k + 1)).foldl (putA (i : Int)) rows2 = R2 := by
       rw [← hq.out.2.2.1, HD.out]
       congr 1
       unfold putA
       rw [hrl, if_neg (by rw [hbf]; simp)]
      have HX : Hid _ := hx0
      clear hx0 HD hto
      go_wp2_with (go_at_call 178; refine Calls.mono (HPL.out _) ?_; rintro e wx ⟨rfl, hwx⟩; subst wx)
      go_roundw
      case rel => exact ⟨k + 1, kvs2, rows2, by first | rfl | (congr 1; omega), by omega, hq.out.1, hq.out.2.1, HX.out, by have := hq.out.2.2.2.1; omega, hq.out.2.2.2.2⟩
      case measure => simp [intOf]; omega
    ·obtain rfl : k = L.length := by omega
     have hx0 : rows2 = R2 := by have := hq.out.2.2.1; rw [List.drop_length] at this; exact this
     have HX : Hid _ := hx0
     clear hx0
     go_wp2
     go_roundw
     case rel => exact ⟨i + 1, kvs2, rows2, by first | rfl | (congr 1; omega), by omega, hq.out.1, hq.out.2.1, by rw [HX.out, ← HDA.out]; exact hr.out.2.2.1, by have := hq.out.2.2.2.1; omega⟩
     case measure => simp [intOf]; omega
  ·obtain rfl : i = n := by omega
   have hfin : rows = R := by have := hr.out.2.2.1; rw [← HTL.out, List.drop_length] at this; exact this
   have HFI : Hid _ := hfin
   clear HI hfin
   go_wp2
   go_ret
   exact ⟨kvs, rfl, by rw [← HFI.out]; exact hr.out.2.1, hr.out.1⟩
end Go.Proofs.YtajaijilfclhpaaGreatDoor
/- The document's side: what follows a block. -/
namespace Go.Proofs.YtajaijilfclhpaaGreatDoor
open Go.RowKit

theorem own_lit3 (w : World) (o : Obj) (k : Nat) (cs : Array Value) (e : TypeId) (n : Nat) (hm : n ≤ maxLen) (hs : cs.size = n * 1) : (((w.alloc o).drewN k).alloc (.cells cs e)).ownsRow w.heap.size e 1 (.slice (some ⟨w.heap.size + 1, 0, none⟩) n n) n cs.toList := by
 have h := World.ownsRow_lit (base := w.heap.size) (e := e) (size := 1) ((w.alloc o).drewN k) cs n (below_drewN (below_alloc (Below.refl _ _) o) k).size hm hs
 rwa [show ((w.alloc o).drewN k).heap.size = w.heap.size + 1 by show (w.alloc o).heap.size = _; simp] at h
set_option maxRecDepth 100000 in
set_option maxHeartbeats 1000000 in
theorem rnext_any (iv : Value) (t : Tm) (w : World) : Calls Tryz.prog 168 #[.agg (blArr iv t)] w fun e w' => ∃ v, e = .returned v ∧ OwnI w' w.heap.size v (nextT t) ∧ Below w.heap.size w w' := by
 obtain ⟨k, a, x, y, z⟩ := t
 unfold nextT
 dsimp only
 have HB : Hid (∀ o k2 o2, Below w.heap.size w (((w.alloc o).drewN k2).alloc o2)) := fun o k2 o2 => below_alloc (below_drewN (below_alloc (Below.refl _ _) _) _) _
 by_cases h1 : k = 1
 ·subst h1
  go_enter Tryz.func168, Tryz.ntmps168
  go_wp2
  go_quiet (fail)
  go_wp2
  go_ret
  exact ⟨.slice (some ⟨w.heap.size + 1, 0, none⟩) 1 1, rfl, own_lit3 w _ _ #[.int .i64 x] _ 1 (by decide) rfl, HB.out _ _ _⟩
 by_cases h2 : k = 2
 ·subst h2
  by_cases hxy : x = y
  ·subst hxy
   rw [if_neg (by decide), if_pos rfl, if_pos rfl]
   go_enter Tryz.func168, Tryz.ntmps168
   go_wp2
   go_quiet (fail)
   go_wp2
   go_ret
   exact ⟨.slice (some ⟨w.heap.size + 1, 0, none⟩) 1 1, rfl, own_lit3 w _ _ #[.int .i64 x] _ 1 (by decide) rfl, HB.out _ _ _⟩
  ·have hxf : (x == y) = false := beq_false_of_ne hxy
   rw [if_neg (by decide), if_pos rfl, if_neg hxy]
   by_cases hl : x < y
   ·rw [if_pos hl]
    go_enter Tryz.func168, Tryz.ntmps168
    go_wp2
    go_quiet (fail)
    go_wp2
    go_ret
    exact ⟨.slice (some ⟨w.heap.size + 1, 0, none⟩) 2 2, rfl, own_lit3 w _ _ #[.int .i64 x, .int .i64 y] _ 2 (by decide) rfl, HB.out _ _ _⟩
   ·rw [if_neg hl]
    go_enter Tryz.func168, Tryz.ntmps168
    go_wp2
    go_quiet (fail)
    go_wp2
    go_ret
    exact ⟨.slice (some ⟨w.heap.size + 1, 0, none⟩) 2 2, rfl, own_lit3 w _ _ #[.int .i64 y, .int .i64 x] _ 2 (by decide) rfl, HB.out _ _ _⟩
 ·rw [if_neg h1, if_neg h2]
  have k1 : (k == 1) = false := beq_false_of_ne h1
  have k2 : (k == 2) = false := beq_false_of_ne h2
  go_enter Tryz.func168, Tryz.ntmps168
  go_wp2
  go_quiet (fail)
  go_wp2
  go_ret
  exact ⟨_, rfl, World.ownsRow_nil _ _ _ _, below_drewN (below_alloc (Below.refl _ _) _) _⟩
end Go.Proofs.YtajaijilfclhpaaGreatDoor
/- append onto a row of one's own, as one step of a region that draws. -/
namespace Go.Proofs.YtajaijilfclhpaaGreatDoor
open Go.RowKit

theorem step_append_own {P : Program} {ops : Array Oper} {o : Oper} {a : Act} {w : World} {K : Act → World → Prop} {Q : Exit → Act → World → Prop} {E : Prop}
  (hg : o.guard = none) (s x : Operand) (t : TypeId) (hop : o.op = Op.call { callee := Callee.builtin Builtin.append, args := #[s, x], argTypes := #[t, t] })
  (base : Nat) (e : TypeId) (i : TypeInfo) (z : Value) (size bytes : Nat) (h1 : P.underlying t = some (.slice e)) (h2 : P.info? e = some i) (h3 : i.zero = some z) (h4 : i.size = size) (h5 : i.bytes = bytes) (h6 : z.cells.size = size) (h7 : 0 < size)
  (v : Value) (n : Nat) (xs : List Value) (hs : a.eval s = v) (hown : w.ownsRow base e size v n xs)
  (ad : Addr) (m c : Nat) (news : List Value) (hx : a.eval x = .slice (some ad) m c) (hn : news.length = m * size) (hc : ∀ j u, news[j]? = some u → w.cell? (ad.add j) = some u) (h1c : ∀ u ∈ news, u.oneCell' = true)
  (b1 : n + m ≤ maxLen) (b2 : (n + m) * bytes ≤ 140737488355328) (hbase : base ≤ w.heap.size)
  (hK : ∀ v' w', w'.ownsRow base e size v' (n + m) (xs ++ news) → w.grownBy w' v.ownBlock → (v'.ownBlock = v.ownBlock ∨ v'.ownBlock = some w.heap.size) → K (a.put o.dst v') w') :
  if Region.wanted o (yielded ops a.tmps) = true then Oper.wp P o a w K Q else E := by
 have hw : Region.wanted o (yielded ops a.tmps) = true := by simp [Region.wanted, hg]
 rw [if_pos hw]
 obtain ⟨v', w', hrun, r1, r2, _, r3⟩ := run_append_own_at (P := P) w base t o.type e i z size bytes h1 h2 h3 h4 h5 h6 h7 v n xs hown ad m c news hn hc h1c b1 b2 hbase
 unfold Oper.wp
 simp [execOp, hop, resolve, invoke, builtin, hs, hx, hrun, Result.andThen]
 exact hK v' w' r1 r2 r3
end Go.Proofs.YtajaijilfclhpaaGreatDoor
