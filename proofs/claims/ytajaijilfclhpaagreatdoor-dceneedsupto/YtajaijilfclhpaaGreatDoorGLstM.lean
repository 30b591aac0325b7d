/- Graphs lent. -/
import Derived.Test.YtajaijilfclhpaaGreatDoorKGbM
import Derived.Test.YtajaijilfclhpaaGreatDoorNEvM
import Derived.Test.YtajaijilfclhpaaGreatDoorGRCxM
namespace Go.Proofs.YtajaijilfclhpaaGreatDoor
open Go.RowKit

theorem Stands.set {w : World} {lo hi g j : Nat} {u : Value} (hg : g < lo) : Stands lo hi w (w.setCell ⟨g, j, none⟩ u) := fun k h1 _ _ => Below.heap_setCell w ⟨g, j, none⟩ u k (by show k ≠ g; omega)
set_option maxRecDepth 100000 in
set_option maxHeartbeats 4000000 in
theorem lentGraph_any (G : Gr) (pv vv av bv : Value) (w : World) (h : GrAt w pv vv av bv G) (hs : SzG G) :
  Calls Tryz.prog 8 #[.agg #[.string G.name, pv, .int .u8 G.result, vv, av, bv]] w fun e w' => ∃ q : V4, e = .returned (.agg #[.string G.name, q.1, .int .u8 G.result, q.2.1, q.2.2.1, q.2.2.2]) ∧ LentG1 w' w.heap.size w'.heap.size q G ∧ Below w.heap.size w w' := by
 obtain ⟨pa, pc, va, vc, aa, ac, ba, bc, rfl, rfl, rfl, rfl, _, _, _, _⟩ := h.openF
 have HP : Hid (∀ W, Below w.heap.size w W → _) := fun W hb => lentI_any G.params _ W (h.ps.below hb) hs.ps
 have HV : Hid (∀ W, Below w.heap.size w W → _) := fun W hb => lentT_any G.vars _ W (h.vs.below hb) hs.vs
 have HA : Hid (∀ W, Below w.heap.size w W → _) := fun W hb => lentA_any G.arrs _ W (h.ars.below hb) hs.ars
 have HB : Hid (∀ W, Below w.heap.size w W → _) := fun W hb => lentB_any G.blocks _ W (h.bs.below hb) hs.bs
 clear h hs
 obtain ⟨nm, ps, r, vs, ars, bs⟩ := G
 dsimp only at *
 generalize hp1 : ps.length = pl at *
 generalize hm1 : vs.length = m at *
 generalize ha1 : ars.length = al at *
 generalize hn1 : bs.length = n at *
 have HLN : Hid (ps.length = pl ∧ vs.length = m ∧ ars.length = al ∧ bs.length = n) := ⟨hp1, hm1, ha1, hn1⟩
 clear hp1 hm1 ha1 hn1
 have H1 : Hid (BG w ((w.alloc (.cells #[.string nm, .slice pa pl pc, .int .u8 r, .slice va m vc, .slice aa al ac, .slice ba n bc] 28)).alloc (.cells #[.string ⟨#[]⟩, .slice none 0 0, .int .u8 0, .slice none 0 0, .slice none 0 0, .slice none 0 0] 28)) [.string nm, .slice pa pl pc, .int .u8 r, .slice va m vc, .slice aa al ac, .slice ba n bc]) := by
  refine ⟨below_alloc (below_alloc (Below.refl _ _) _) _, (Box.new w [.string nm, .slice pa pl pc, .int .u8 r, .slice va m vc, .slice aa al ac, .slice ba n bc] 28).below (below_alloc (Below.refl _ _) _), ?_, by have h9 := Box.new (w.alloc (.cells #[.string nm, .slice pa pl pc, .int .u8 r, .slice va m vc, .slice aa al ac, .slice ba n bc] 28)) [.string ⟨#[]⟩, .slice none 0 0, .int .u8 0, .slice none 0 0, .slice none 0 0, .slice none 0 0] 28; rwa [show (w.alloc (.cells #[.string nm, .slice pa pl pc, .int .u8 r, .slice va m vc, .slice aa al ac, .slice ba n bc] 28)).heap.size = w.heap.size + 1 by simp] at h9, by simp⟩
  have e : (w.alloc (.cells #[.string nm, .slice pa pl pc, .int .u8 r, .slice va m vc, .slice aa al ac, .slice ba n bc] 28)).heap.size = w.heap.size + 1 := by simp
  have h9 := heap_alloc_new (w.alloc (.cells #[.string nm, .slice pa pl pc, .int .u8 r, .slice va m vc, .slice aa al ac, .slice ba n bc] 28)) (.cells #[.string ⟨#[]⟩, .slice none 0 0, .int .u8 0, .slice none 0 0, .slice none 0 0, .slice none 0 0] 28)
  rw [e] at h9
  exact h9
 go_enter Tryz.func8, Tryz.ntmps8
 go_wp2_with (first
  | (go_at_call 22; go_loud (refine Calls.mono (by exact HP.out _ H1.out.low) ?_; rintro e w2 ⟨vx, rfl, ho, hb⟩; obtain ⟨ya, yc, rfl⟩ : ∃ ya yc, vx = .slice ya pl yc := (by obtain ⟨ya, yc, hv⟩ := ho.form; rw [HLN.out.1] at hv; exact ⟨ya, yc, hv⟩); have k2 := H1.out.below hb; have HK2 : Hid (BG w (w2.setCell ⟨w.heap.size, 1, none⟩ (.slice ya pl yc)) [.string nm, .slice ya pl yc, .int .u8 r, .slice va m vc, .slice aa al ac, .slice ba n bc]) := k2.set 1 (by simp) _; obtain ⟨e0, e1, e2, e3, e4, e5⟩ := box6 k2.box; have ef := k2.box.fz; obtain ⟨f0, f1, f2, f3, f4, f5⟩ := box6 HK2.out.box; have ff := HK2.out.box.fz; have hlt := k2.box.lt; have HS1 : Hid (w.heap.size + 2 ≤ _) := H1.out.sz; have HOP : Hid (LentI (w2.setCell ⟨w.heap.size, 1, none⟩ (.slice ya pl yc)) _ w2.heap.size (.slice ya pl yc) ps) := ho.stands (Stands.set (by have := HS1.out; omega)); have HZ1 : Hid _ := hb.size; clear ho hb k2))
  | (go_at_call 23; go_loud (refine Calls.mono (by exact HV.out _ HK2.out.low) ?_; rintro e w3 ⟨vx, rfl, ho, hb⟩; obtain ⟨yb, yd, rfl⟩ : ∃ ya yc, vx = .slice ya m yc := (by obtain ⟨ya, yc, hv⟩ := ho.form; rw [HLN.out.2.1] at hv; exact ⟨ya, yc, hv⟩); have k2 := HK2.out.below hb; have HK3 : Hid (BG w (w3.setCell ⟨w.heap.size, 3, none⟩ (.slice yb m yd)) [.string nm, .slice ya pl yc, .int .u8 r, .slice yb m yd, .slice aa al ac, .slice ba n bc]) := k2.set 3 (by simp) _; obtain ⟨g0, g1, g2, g3, g4, g5⟩ := box6 k2.box; have gf := k2.box.fz; obtain ⟨h0, h1, h2, h3, h4, h5⟩ := box6 HK3.out.box; have hf := HK3.out.box.fz; have hlt3 := k2.box.lt; have HS2 : Hid (w.heap.size + 2 ≤ _) := HK2.out.sz; have HOP3 : Hid (LentI (w3.setCell ⟨w.heap.size, 3, none⟩ (.slice yb m yd)) _ w2.heap.size (.slice ya pl yc) ps) := (HOP.out.stands (Stands.of hb)).stands (Stands.set (by have := HS1.out; omega)); have HOV : Hid (LentT (w3.setCell ⟨w.heap.size, 3, none⟩ (.slice yb m yd)) _ w3.heap.size (.slice yb m yd) vs) := ho.stands (Stands.set (by have := HS2.out; omega)); have HZ2 : Hid _ := hb.size; clear ho hb k2))
  | (go_at_call 24; go_loud (refine Calls.mono (by exact HA.out _ HK3.out.low) ?_; rintro e w4 ⟨vx, rfl, ho, hb⟩; obtain ⟨ye, yf, rfl⟩ : ∃ ya yc, vx = .slice ya al yc := (by obtain ⟨ya, yc, hv⟩ := ho.form; rw [HLN.out.2.2.1] at hv; exact ⟨ya, yc, hv⟩); have k2 := HK3.out.below hb; have HK4 : Hid (BG w (w4.setCell ⟨w.heap.size, 4, none⟩ (.slice ye al yf)) [.string nm, .slice ya pl yc, .int .u8 r, .slice yb m yd, .slice ye al yf, .slice ba n bc]) := k2.set 4 (by simp) _; obtain ⟨i0, i1, i2, i3, i4, i5⟩ := box6 k2.box; have jf := k2.box.fz; obtain ⟨j0, j1, j2, j3, j4, j5⟩ := box6 HK4.out.box; have kf := HK4.out.box.fz; have hlt4 := k2.box.lt; have HS3 : Hid (w.heap.size + 2 ≤ _) := HK3.out.sz; have HOP4 : Hid (LentI (w4.setCell ⟨w.heap.size, 4, none⟩ (.slice ye al yf)) _ w2.heap.size (.slice ya pl yc) ps) := (HOP3.out.stands (Stands.of hb)).stands (Stands.set (by have := HS1.out; omega)); have HOV4 : Hid (LentT (w4.setCell ⟨w.heap.size, 4, none⟩ (.slice ye al yf)) _ w3.heap.size (.slice yb m yd) vs) := (HOV.out.stands (Stands.of hb)).stands (Stands.set (by have := HS2.out; omega)); have HOA : Hid (LentA (w4.setCell ⟨w.heap.size, 4, none⟩ (.slice ye al yf)) _ w4.heap.size (.slice ye al yf) ars) := ho.stands (Stands.set (by have := HS3.out; omega)); have HZ3 : Hid _ := hb.size; clear ho hb k2))
  | (go_at_call 25; go_loud (refine Calls.mono (by exact HB.out _ HK4.out.low) ?_; rintro e w5 ⟨vx, rfl, ho, hb⟩; obtain ⟨yg, yh, rfl⟩ : ∃ ya yc, vx = .slice ya n yc := (by obtain ⟨ya, yc, hv⟩ := ho.form; rw [HLN.out.2.2.2] at hv; exact ⟨ya, yc, hv⟩); have k2 := HK4.out.below hb; have HK5 : Hid (BG w (w5.setCell ⟨w.heap.size, 5, none⟩ (.slice yg n yh)) [.string nm, .slice ya pl yc, .int .u8 r, .slice yb m yd, .slice ye al yf, .slice yg n yh]) := k2.set 5 (by simp) _; obtain ⟨l0, l1, l2, l3, l4, l5⟩ := box6 k2.box; have lf := k2.box.fz; obtain ⟨m0, m1, m2, m3, m4, m5⟩ := box6 HK5.out.box; have mf := HK5.out.box.fz; have hlt5 := k2.box.lt; have HS4 : Hid (w.heap.size + 2 ≤ _) := HK4.out.sz; have HRS : Hid _ := HK5.out.res; obtain ⟨r0, r1, r2, r3, r4, r5⟩ := box6 HK5.out.rbx; have rf := HK5.out.rbx.fz; have rlt := HK5.out.rbx.lt; have HCB : Hid (LentB w5 _ w5.heap.size (.slice yg n yh) bs) := ho; have HB5 : Hid _ := hb; clear ho hb k2)))
 obtain ⟨q1, q2, q3⟩ := six_end HK5.out.low (Nat.le_succ _) HRS.out (.string nm) (.slice ya pl yc) (.int .u8 r) (.slice yb m yd) (.slice ye al yf) (.slice yg n yh)
 refine bodyPost_ret (results_cell_row rfl _ _ (w.heap.size + 1) 28 #[.string nm, .slice ya pl yc, .int .u8 r, .slice yb m yd, .slice ye al yf, .slice yg n yh] _ _ rfl q2 Tryz.underlying28 rfl (by rfl)) rfl ⟨(.slice ya pl yc, .slice yb m yd, .slice ye al yf, .slice yg n yh), rfl, ?_, q1⟩
 have h1s := HS1.out
 have h2s := HS2.out
 have h3s := HS3.out
 have h4s := HS4.out
 have keep : ∀ lo hi, w.heap.size + 2 ≤ lo → Stands lo hi w5 (setSix (w5.setCell ⟨w.heap.size, 5, none⟩ (.slice yg n yh)) (w.heap.size + 1) (.string nm) (.slice ya pl yc) (.int .u8 r) (.slice yb m yd) (.slice ye al yf) (.slice yg n yh)) := fun lo hi hlo k hk _ _ => by
  rw [q3 k (by omega)]
  exact Below.heap_setCell w5 ⟨w.heap.size, 5, none⟩ (.slice yg n yh) k (by show k ≠ w.heap.size; omega)
 have z1 := HZ1.out
 have z2 := HZ2.out
 have z3 := HZ3.out
 have z4 := HB5.out.size
 have op5 := (HOP4.out.stands (Stands.of HB5.out)).stands (keep _ _ h1s)
 have ov5 := (HOV4.out.stands (Stands.of HB5.out)).stands (keep _ _ h2s)
 have oa5 := (HOA.out.stands (Stands.of HB5.out)).stands (keep _ _ h3s)
 have ob5 := HCB.out.stands (keep _ _ h4s)
 simp only [size_setK] at z1 z2 z3 z4 h2s h3s h4s ov5 oa5 ob5
 refine ⟨w2.heap.size, w3.heap.size, w4.heap.size, op5.widen (by omega) (Nat.le_refl _), ov5, oa5, ?_, by omega, by omega, by omega, ?_⟩
 ·exact ob5.widen (Nat.le_refl _) (Nat.le_of_eq (by simp only [size_setK]))
 ·refine Nat.le_trans z4 (Nat.le_of_eq (by simp only [size_setK]))
end Go.Proofs.YtajaijilfclhpaaGreatDoor
/- Graphs lent: the list. -/
namespace Go.Proofs.YtajaijilfclhpaaGreatDoor
open Go.RowKit

theorem LentG1.widen {w : World} {lo hi lo' hi' : Nat} {q : V4} {x : Gr} (h : LentG1 w lo hi q x) (h1 : lo' ≤ lo) (h2 : hi ≤ hi') : LentG1 w lo' hi' q x := by
 obtain ⟨m1, m2, m3, p1, p2, p3, p4, l1, l2, l3, l4⟩ := h.ex
 exact ⟨m1, m2, m3, p1.widen h1 (Nat.le_refl _), p2, p3, p4.widen (Nat.le_refl _) h2, by omega, l2, l3, by omega⟩
theorem LentG1.form {w : World} {lo hi : Nat} {q : V4} {x : Gr} (h : LentG1 w lo hi q x) : ∃ y1 z1 y2 z2 y3 z3 y4 z4, q = (.slice y1 x.params.length z1, .slice y2 x.vars.length z2, .slice y3 x.arrs.length z3, .slice y4 x.blocks.length z4) := by
 obtain ⟨m1, m2, m3, p1, p2, p3, p4, _⟩ := h.ex
 obtain ⟨a, b, c, d⟩ := q
 obtain ⟨y1, z1, e1⟩ := p1.form
 obtain ⟨y2, z2, e2⟩ := p2.form
 obtain ⟨y3, z3, e3⟩ := p3.form
 obtain ⟨y4, z4, e4⟩ := p4.form
 dsimp only at e1 e2 e3 e4
 exact ⟨y1, z1, y2, z2, y3, z3, y4, z4, by rw [e1, e2, e3, e4]⟩
end Go.Proofs.YtajaijilfclhpaaGreatDoor
/- What is lent, opened. -/
namespace Go.Proofs.YtajaijilfclhpaaGreatDoor
open Go.RowKit

theorem getD_someK {l : List Int} {i : Nat} (h : i < l.length) : l[i]? = some (l.getD i 0) := by simp [List.getD, List.getElem?_eq_getElem h]
theorem LentI.opened {w : World} {lo hi : Nat} {v : Value} {l : List Int} (h : LentI w lo hi v l) : ∃ g cap, v = .slice (some ⟨g, 0, none⟩) l.length cap ∧ (l.length + 12 ≤ cap ∧ cap ≤ maxLen ∧ lo ≤ g ∧ g < hi ∧ g < w.heap.size) ∧ (∃ xs, w.ownsRow lo 3 1 (.slice (some ⟨g, 0, none⟩) (l.length + 12) cap) (l.length + 12) xs) ∧ (∀ i, i < l.length → w.cell? ⟨g, i, none⟩ = some (intV (l.getD i 0))) ∧ ∀ i : Nat, l.length ≤ i → i < l.length + 12 → w.cell? ⟨g, i, none⟩ = some (intV (markI 1 ((i : Int) - l.length))) := by
 obtain ⟨g, cap, h⟩ := h
 have r := h.room
 refine ⟨g, cap, h.eq, ⟨r.1, r.2.1, r.2.2.1, h.up, r.2.2.2⟩, ⟨_, h.own⟩, fun i hi => ?_, fun i h1 h2 => ?_⟩
 ·have h9 := h.cell (j := 0) hi (by omega)
  rw [Nat.mul_one, Nat.add_zero] at h9
  rw [h9]
  exact by rw [List.getElem?_map, getD_someK hi]; rfl
 ·have h9 := h.mark (fun _ => rfl) (j := 0) h1 h2 (by omega)
  rw [Nat.mul_one, Nat.add_zero] at h9
  exact h9
theorem LentT.opened {w : World} {lo hi : Nat} {v : Value} {l : List Int} (h : LentT w lo hi v l) : ∃ g cap, v = .slice (some ⟨g, 0, none⟩) l.length cap ∧ (l.length + 12 ≤ cap ∧ cap ≤ maxLen ∧ lo ≤ g ∧ g < hi ∧ g < w.heap.size) ∧ (∃ xs, w.ownsRow lo 23 1 (.slice (some ⟨g, 0, none⟩) (l.length + 12) cap) (l.length + 12) xs) ∧ (∀ i, i < l.length → w.cell? ⟨g, i, none⟩ = some (bytV (l.getD i 0))) ∧ ∀ i : Nat, l.length ≤ i → i < l.length + 12 → w.cell? ⟨g, i, none⟩ = some (bytV (markI 1 ((i : Int) - l.length) % 256)) := by
 obtain ⟨g, cap, h⟩ := h
 have r := h.room
 refine ⟨g, cap, h.eq, ⟨r.1, r.2.1, r.2.2.1, h.up, r.2.2.2⟩, ⟨_, h.own⟩, fun i hi => ?_, fun i h1 h2 => ?_⟩
 ·have h9 := h.cell (j := 0) hi (by omega)
  rw [Nat.mul_one, Nat.add_zero] at h9
  rw [h9]
  exact by rw [List.getElem?_map, getD_someK hi]; rfl
 ·have h9 := h.mark (fun _ => rfl) (j := 0) h1 h2 (by omega)
  rw [Nat.mul_one, Nat.add_zero] at h9
  exact h9
theorem LentA.opened {w : World} {lo hi : Nat} {v : Value} {l : List (Int × Int)} (h : LentA w lo hi v l) : ∃ g cap, v = .slice (some ⟨g, 0, none⟩) l.length cap ∧ (l.length + 12 ≤ cap ∧ cap ≤ maxLen ∧ lo ≤ g ∧ g < hi ∧ g < w.heap.size) ∧ (∃ xs, w.ownsRow lo 50 2 (.slice (some ⟨g, 0, none⟩) (l.length + 12) cap) (l.length + 12) xs) ∧ (∀ i, i < l.length → w.cell? ⟨g, i * 2, none⟩ = some (bytV (l.getD i default).1) ∧ w.cell? ⟨g, i * 2 + 1, none⟩ = some (intV (l.getD i default).2)) ∧ ∀ i : Nat, l.length ≤ i → i < l.length + 12 → w.cell? ⟨g, i * 2, none⟩ = some (bytV 0) ∧ w.cell? ⟨g, i * 2 + 1, none⟩ = some (intV (markI 1 ((i : Int) - l.length))) := by
 obtain ⟨g, cap, h⟩ := h
 have r := h.room
 refine ⟨g, cap, h.eq, ⟨r.1, r.2.1, r.2.2.1, h.up, r.2.2.2⟩, ⟨_, h.own⟩, fun i hi => ?_, fun i h1 h2 => ?_⟩
 ·have h9 := h.cell (j := 0) hi (by omega)
  have h8 := h.cell (j := 1) hi (by omega)
  obtain ⟨g0, g1⟩ := arrCells_get (getD_somL hi)
  rw [Nat.add_zero] at h9
  exact ⟨h9.trans g0, h8.trans g1⟩
 ·exact ⟨h.mark (fun _ => rfl) (j := 0) h1 h2 (by omega), h.mark (fun _ => rfl) (j := 1) h1 h2 (by omega)⟩
theorem LentN.opened {w : World} {lo hi : Nat} {v : Value} {l : List In} (h : LentN w lo hi v l) : ∃ g cap, v = .slice (some ⟨g, 0, none⟩) l.length cap ∧ (l.length + 12 ≤ cap ∧ cap ≤ maxLen ∧ lo ≤ g ∧ g < hi ∧ g < w.heap.size) ∧ (∃ xs, w.ownsRow lo 55 6 (.slice (some ⟨g, 0, none⟩) (l.length + 12) cap) (l.length + 12) xs) ∧ (∃ A B : Nat → Nat, (∀ i, i < l.length → lo ≤ A i ∧ B i ≤ hi ∧ ¬ Btw (A i) (B i) g ∧ ∀ j, j < i → B j ≤ A i) ∧ ∀ i, i < l.length → ∃ q : Value, (w.cell? ⟨g, i * 6, none⟩ = some (.int .u8 (l.getD i default).kind) ∧ w.cell? ⟨g, i * 6 + 1, none⟩ = some (.int .u8 (l.getD i default).op) ∧ w.cell? ⟨g, i * 6 + 2, none⟩ = some (.int .i64 (l.getD i default).dst) ∧ w.cell? ⟨g, i * 6 + 3, none⟩ = some (q) ∧ w.cell? ⟨g, i * 6 + 4, none⟩ = some (.int .u64 (l.getD i default).bits) ∧ w.cell? ⟨g, i * 6 + 5, none⟩ = some (.int .i64 (l.getD i default).ref)) ∧ LentI w (A i) (B i) q (l.getD i default).args) ∧ ∀ i : Nat, l.length ≤ i → i < l.length + 12 → w.cell? ⟨g, i * 6, none⟩ = some (bytV 0) ∧ w.cell? ⟨g, i * 6 + 1, none⟩ = some (bytV 0) ∧ w.cell? ⟨g, i * 6 + 2, none⟩ = some (intV (markI 1 ((i : Int) - l.length))) ∧ w.cell? ⟨g, i * 6 + 3, none⟩ = some (.slice none 0 0) ∧ w.cell? ⟨g, i * 6 + 4, none⟩ = some (.int .u64 0) ∧ w.cell? ⟨g, i * 6 + 5, none⟩ = some (intV 0) := by
 obtain ⟨g, cap, avs, h, hl, A, B, hk⟩ := h.row
 have r := h.room
 have get : ∀ i, i < l.length → ∃ q, avs[i]? = some q := fun i hi => ⟨_, List.getElem?_eq_getElem (by rw [hl]; exact hi)⟩
 refine ⟨g, cap, h.eq, ⟨r.1, r.2.1, r.2.2.1, h.up, r.2.2.2⟩, ⟨_, h.own⟩, ⟨A, B, fun i hi => ?_, fun i hi => ?_⟩, fun i h1 h2 => ?_⟩
 ·obtain ⟨q, hq⟩ := get i hi
  obtain ⟨p1, p2, p3, p4, p5⟩ := hk i _ q (getD_somL hi) hq
  exact ⟨p1, p2, p4, p5⟩
 ·obtain ⟨q, hq⟩ := get i hi
  obtain ⟨p1, p2, p3, p4, p5⟩ := hk i _ q (getD_somL hi) hq
  have c : ∀ j u, (inCells (l.getD i default) q)[j]? = some u → j < 6 → w.cell? ⟨g, i * 6 + j, none⟩ = some u := fun j u hj hj6 => (h.cell hi hj6).trans (insCells_get (getD_somL hi) hq j u hj)
  exact ⟨q, ⟨c 0 _ rfl (by omega), c 1 _ rfl (by omega), c 2 _ rfl (by omega), c 3 _ rfl (by omega), c 4 _ rfl (by omega), c 5 _ rfl (by omega)⟩, p3⟩
 ·have c : ∀ j, j < 6 → w.cell? ⟨g, i * 6 + j, none⟩ = (mkN 1 ((i : Int) - l.length))[j]? := fun j hj => h.mark (fun _ => rfl) h1 h2 hj
  exact ⟨c 0 (by omega), c 1 (by omega), c 2 (by omega), c 3 (by omega), c 4 (by omega), c 5 (by omega)⟩
theorem LentB.opened {w : World} {lo hi : Nat} {v : Value} {l : List Bl} (h : LentB w lo hi v l) : ∃ g cap, v = .slice (some ⟨g, 0, none⟩) l.length cap ∧ (l.length + 12 ≤ cap ∧ cap ≤ maxLen ∧ lo ≤ g ∧ g < hi ∧ g < w.heap.size) ∧ (∃ xs, w.ownsRow lo 63 6 (.slice (some ⟨g, 0, none⟩) (l.length + 12) cap) (l.length + 12) xs) ∧ (∃ A B : Nat → Nat, (∀ i, i < l.length → lo ≤ A i ∧ B i ≤ hi ∧ ¬ Btw (A i) (B i) g ∧ ∀ j, j < i → B j ≤ A i) ∧ ∀ i, i < l.length → ∃ q : Value, (w.cell? ⟨g, i * 6, none⟩ = some (q) ∧ w.cell? ⟨g, i * 6 + 1, none⟩ = some (.int .u8 (l.getD i default).tm.kind) ∧ w.cell? ⟨g, i * 6 + 2, none⟩ = some (.int .i64 (l.getD i default).tm.arg) ∧ w.cell? ⟨g, i * 6 + 3, none⟩ = some (.int .i64 (l.getD i default).tm.t0) ∧ w.cell? ⟨g, i * 6 + 4, none⟩ = some (.int .i64 (l.getD i default).tm.t1) ∧ w.cell? ⟨g, i * 6 + 5, none⟩ = some (.int .u8 (l.getD i default).tm.trap)) ∧ LentN w (A i) (B i) q (l.getD i default).ins) ∧ ∀ i : Nat, l.length ≤ i → i < l.length + 12 → w.cell? ⟨g, i * 6, none⟩ = some (.slice none 0 0) ∧ w.cell? ⟨g, i * 6 + 1, none⟩ = some (bytV 0) ∧ w.cell? ⟨g, i * 6 + 2, none⟩ = some (intV (markI 1 ((i : Int) - l.length))) ∧ w.cell? ⟨g, i * 6 + 3, none⟩ = some (intV 0) ∧ w.cell? ⟨g, i * 6 + 4, none⟩ = some (intV 0) ∧ w.cell? ⟨g, i * 6 + 5, none⟩ = some (bytV 0) := by
 obtain ⟨g, cap, avs, h, hl, A, B, hk⟩ := h.row
 have r := h.room
 have get : ∀ i, i < l.length → ∃ q, avs[i]? = some q := fun i hi => ⟨_, List.getElem?_eq_getElem (by rw [hl]; exact hi)⟩
 refine ⟨g, cap, h.eq, ⟨r.1, r.2.1, r.2.2.1, h.up, r.2.2.2⟩, ⟨_, h.own⟩, ⟨A, B, fun i hi => ?_, fun i hi => ?_⟩, fun i h1 h2 => ?_⟩
 ·obtain ⟨q, hq⟩ := get i hi
  obtain ⟨p1, p2, p3, p4, p5⟩ := hk i _ q (getD_somL hi) hq
  exact ⟨p1, p2, p4, p5⟩
 ·obtain ⟨q, hq⟩ := get i hi
  obtain ⟨p1, p2, p3, p4, p5⟩ := hk i _ q (getD_somL hi) hq
  have c : ∀ j u, (blCells (l.getD i default) q)[j]? = some u → j < 6 → w.cell? ⟨g, i * 6 + j, none⟩ = some u := fun j u hj hj6 => (h.cell hi hj6).trans (blsCells_get (getD_somL hi) hq j u hj)
  exact ⟨q, ⟨c 0 _ rfl (by omega), c 1 _ rfl (by omega), c 2 _ rfl (by omega), c 3 _ rfl (by omega), c 4 _ rfl (by omega), c 5 _ rfl (by omega)⟩, p3⟩
 ·have c : ∀ j, j < 6 → w.cell? ⟨g, i * 6 + j, none⟩ = (mkB 1 ((i : Int) - l.length))[j]? := fun j hj => h.mark (fun _ => rfl) h1 h2 hj
  exact ⟨c 0 (by omega), c 1 (by omega), c 2 (by omega), c 3 (by omega), c 4 (by omega), c 5 (by omega)⟩
theorem LentG.opened {w : World} {lo hi : Nat} {v : Value} {l : List Gr} (h : LentG w lo hi v l) : ∃ g cap, v = .slice (some ⟨g, 0, none⟩) l.length cap ∧ (l.length + 12 ≤ cap ∧ cap ≤ maxLen ∧ lo ≤ g ∧ g < hi ∧ g < w.heap.size) ∧ (∃ xs, w.ownsRow lo 28 6 (.slice (some ⟨g, 0, none⟩) (l.length + 12) cap) (l.length + 12) xs) ∧ (∃ A B : Nat → Nat, (∀ i, i < l.length → lo ≤ A i ∧ B i ≤ hi ∧ ¬ Btw (A i) (B i) g ∧ ∀ j, j < i → B j ≤ A i) ∧ ∀ i, i < l.length → ∃ q : V4, (w.cell? ⟨g, i * 6, none⟩ = some (.string (l.getD i default).name) ∧ w.cell? ⟨g, i * 6 + 1, none⟩ = some (q.1) ∧ w.cell? ⟨g, i * 6 + 2, none⟩ = some (.int .u8 (l.getD i default).result) ∧ w.cell? ⟨g, i * 6 + 3, none⟩ = some (q.2.1) ∧ w.cell? ⟨g, i * 6 + 4, none⟩ = some (q.2.2.1) ∧ w.cell? ⟨g, i * 6 + 5, none⟩ = some (q.2.2.2)) ∧ LentG1 w (A i) (B i) q (l.getD i default)) ∧ ∀ i : Nat, l.length ≤ i → i < l.length + 12 → w.cell? ⟨g, i * 6, none⟩ = some (.string (textM 1 ((i : Int) - l.length))) ∧ w.cell? ⟨g, i * 6 + 1, none⟩ = some (.slice none 0 0) ∧ w.cell? ⟨g, i * 6 + 2, none⟩ = some (bytV 0) ∧ w.cell? ⟨g, i * 6 + 3, none⟩ = some (.slice none 0 0) ∧ w.cell? ⟨g, i * 6 + 4, none⟩ = some (.slice none 0 0) ∧ w.cell? ⟨g, i * 6 + 5, none⟩ = some (.slice none 0 0) := by
 obtain ⟨g, cap, avs, h, hl, A, B, hk⟩ := h.row
 have r := h.room
 have get : ∀ i, i < l.length → ∃ q, avs[i]? = some q := fun i hi => ⟨_, List.getElem?_eq_getElem (by rw [hl]; exact hi)⟩
 refine ⟨g, cap, h.eq, ⟨r.1, r.2.1, r.2.2.1, h.up, r.2.2.2⟩, ⟨_, h.own⟩, ⟨A, B, fun i hi => ?_, fun i hi => ?_⟩, fun i h1 h2 => ?_⟩
 ·obtain ⟨q, hq⟩ := get i hi
  obtain ⟨p1, p2, p3, p4, p5⟩ := hk i _ q (getD_somL hi) hq
  exact ⟨p1, p2, p4, p5⟩
 ·obtain ⟨q, hq⟩ := get i hi
  obtain ⟨p1, p2, p3, p4, p5⟩ := hk i _ q (getD_somL hi) hq
  have c : ∀ j u, (grL (l.getD i default) q.1 q.2.1 q.2.2.1 q.2.2.2)[j]? = some u → j < 6 → w.cell? ⟨g, i * 6 + j, none⟩ = some u := fun j u hj hj6 => (h.cell hi hj6).trans (grsCells_get (getD_somL hi) hq j u hj)
  exact ⟨q, ⟨c 0 _ rfl (by omega), c 1 _ rfl (by omega), c 2 _ rfl (by omega), c 3 _ rfl (by omega), c 4 _ rfl (by omega), c 5 _ rfl (by omega)⟩, p3⟩
 ·have c : ∀ j, j < 6 → w.cell? ⟨g, i * 6 + j, none⟩ = (mkG 1 ((i : Int) - l.length))[j]? := fun j hj => h.mark (fun _ => rfl) h1 h2 hj
  exact ⟨c 0 (by omega), c 1 (by omega), c 2 (by omega), c 3 (by omega), c 4 (by omega), c 5 (by omega)⟩
end Go.Proofs.YtajaijilfclhpaaGreatDoor
/- A region whose reads come first and that ends in a call and one step more. -/
namespace Go.Proofs.YtajaijilfclhpaaGreatDoor
open Go.RowKit

theorem wp_region_last2 {P : Program} {id : Nat} {Q : Exit → Act → World → Prop} {a : Act} {w : World} {L : List Oper} (m : Nat) (o o1 : Oper) (ho : L.toArray[m]? = some o) (ho1 : L.toArray[m + 1]? = some o1) (hg : o.guard = none) (hg1 : o1.guard = none) (hm : P.follows .mixedOrders = true) (hB : Region.lexB .any (L.take m).toArray = true) (hml : decide (L.length = m + 2) = true) (hp : preB .any L.toArray m (Array.replicate L.length false) = true)
  (hr : Region.ready .any L.toArray (listed1 L.length m) = [m]) (hr1 : Region.ready .any L.toArray ((listed1 L.length m).setIfInBounds m true) = [m + 1]) (hr2 : Region.ready .any L.toArray (((listed1 L.length m).setIfInBounds m true).setIfInBounds (m + 1) true) = [])
  (h : wpQuiet P (L.take m).toArray (fun w' => ∃ n, w' = w.drewN n) (fun a' => ∀ w', (∃ n, w' = w.drewN n) → ∀ K : Act → World → Prop, (∀ a w, o1.wp P a w (Q .normal) Q → K a w) → o.wp P a' w' K Q) (L.take m) a) : (Code.region id L.toArray true).wp P Q a w := by
 have hml' : L.length = m + 2 := by simpa using hml
 refine wp_region_pre m hm hB (by simp; omega) hp ?_
 have e : L.length - m = 2 := by omega
 have hF : ∀ (a' : Act), (∀ w', (∃ n, w' = w.drewN n) → ∀ K : Act → World → Prop, (∀ a w, o1.wp P a w (Q .normal) Q → K a w) → o.wp P a' w' K Q) → ∀ w', (∃ n, w' = w.drewN n) → wpAny P .any L.toArray Q (L.length - m) (listed1 L.length m) a' w' := fun a' ha w' hw => by
  rw [e]
  refine ⟨fun h0 => (by rw [hr] at h0; cases h0), fun i hi => ?_⟩
  rw [hr] at hi
  have : i = m := by simpa using hi
  subst this
  unfold wpOp
  simp only [ho]
  rw [if_pos (by simp [Region.wanted, hg])]
  refine .inl (ha w' hw _ fun a w hq => ?_)
  refine ⟨fun h0 => (by rw [hr1] at h0; cases h0), fun j hj => ?_⟩
  rw [hr1] at hj
  have : j = i + 1 := by simpa using hj
  subst this
  unfold wpOp
  simp only [ho1]
  rw [if_pos (by simp [Region.wanted, hg1])]
  exact .inl (Oper.wp_mono (fun a w hq => ⟨hr2, hq⟩) hq)
 have mono : ∀ (l : List Oper) (a : Act) (Q1 Q2 : Act → Prop), (∀ a, Q1 a → Q2 a) → wpQuiet P (L.take m).toArray (fun w' => ∃ n, w' = w.drewN n) Q1 l a → wpQuiet P (L.take m).toArray (fun w' => ∃ n, w' = w.drewN n) Q2 l a := by
  intro l
  induction l with
  | nil => intro a Q1 Q2 h12 h; exact h12 _ h
  | cons o l ih =>
   intro a Q1 Q2 h12 h
   unfold wpQuiet at h ⊢
   split
   ·rename_i hw
    rw [if_pos hw] at h
    exact Oper.quiet_mono (fun a h => ih a Q1 Q2 h12 h) h
   ·rename_i hw
    rw [if_neg hw] at h
    exact ih _ Q1 Q2 h12 h
 exact mono _ _ _ _ hF h
end Go.Proofs.YtajaijilfclhpaaGreatDoor
