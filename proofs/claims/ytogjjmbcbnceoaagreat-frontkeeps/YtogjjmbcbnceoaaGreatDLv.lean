/- The program's walk: a node is left. -/
import Derived.Test.YtogjjmbcbnceoaaGreatDMt
namespace Go.Proofs.YtogjjmbcbnceoaaGreat
open Go.RowKit Lt

def topI : List Nat → Int
  | [] => -1
  | z :: _ => (z : Int)
theorem chn_top {fs : List Int} {z : Nat} {st : List Nat} (h : Chn fs (z :: st)) (h0 : fs[0]? = some (-1)) : fs[z]? = some (topI st) := by
  cases h with
  | one => exact h0
  | more _ h1 _ => exact h1
theorem WAt.n {w : World} {base : Nat} {e : WEnv} {s : WSt} (h : WAt w base e s) {ng nc : Nat} (hn : s.nsV = .slice (some ⟨ng, 0, none⟩) s.ns.length nc) {i : Nat} {x : Int} (hx : s.ns[i]? = some x) : w.cell? ⟨ng, i, none⟩ = some (.int .i64 x) := by
  have h1 := h.rn
  rw [hn] at h1
  have hi := (List.getElem?_eq_some_iff.1 hx).1
  rw [h1.cellAt i (by omega)]
  exact map_get hx
theorem WAt.f {w : World} {base : Nat} {e : WEnv} {s : WSt} (h : WAt w base e s) {ng nc : Nat} (hn : s.fsV = .slice (some ⟨ng, 0, none⟩) s.fs.length nc) {i : Nat} {x : Int} (hx : s.fs[i]? = some x) : w.cell? ⟨ng, i, none⟩ = some (.int .i64 x) := by
  have h1 := h.rf
  rw [hn] at h1
  have hi := (List.getElem?_eq_some_iff.1 hx).1
  rw [h1.cellAt i (by omega)]
  exact map_get hx
theorem WAt.g {w : World} {base : Nat} {e : WEnv} {s : WSt} (h : WAt w base e s) {ng nc : Nat} (hn : s.gsV = .slice (some ⟨ng, 0, none⟩) s.gs.length nc) {i : Nat} {x : Int} (hx : s.gs[i]? = some x) : w.cell? ⟨ng, i, none⟩ = some (.int .i64 x) ∧ w.frozen? ⟨ng, i, none⟩ = false := by
  have h1 := h.rg
  rw [hn] at h1
  have hi := (List.getElem?_eq_some_iff.1 hx).1
  refine ⟨?_, h1.frozenAt i⟩
  rw [h1.cellAt i (by omega)]
  exact map_get hx
theorem own_some {w : World} {base : Nat} {v : Value} {p : List Int} (h : w.ownsRow base 3 1 v p.length (p.map intV)) (h0 : 0 < p.length) : ∃ g c, v = .slice (some ⟨g, 0, none⟩) p.length c := by
  rcases own_shape h with ⟨_, h1⟩ | ⟨g, c, h1, _⟩
  · omega
  · exact ⟨g, c, h1⟩
/-- How much is left to do. -/
def leftW (n : Nat) (ns : List Int) (st : List Nat) : Nat := 2 * (n - ns.length) + st.length
/-- What leave tells. -/
def LeftTo (nx : List (List Int)) (base : Nat) (e : WEnv) (s : WSt) (st : List Nat) (w w' : World) : Prop :=
  (∃ s' st', WI nx s'.ns s'.fs s'.gs s'.ps st' ∧ WAt w' base e s' ∧ s'.at' = topI st' ∧ leftW nx.length s'.ns st' < leftW nx.length s.ns st) ∧ Below base w w'
theorem wi_le {nx : List (List Int)} {ns fs gs ps : List Int} {st : List Nat} (h : WI nx ns fs gs ps st) : ns.length ≤ nx.length :=
  inj_le nx.length ns.length (fun i => (ns.getD i 0).toNat) (fun i hi => by obtain ⟨v, h1, h2, _⟩ := h.nod i hi; rw [List.getD_eq_getElem?_getD, h1]; simpa using h2) (fun i j hi hj he => by
    obtain ⟨v, h1, h2, h3⟩ := h.nod i hi
    obtain ⟨u, h4, h5, h6⟩ := h.nod j hj
    rw [List.getD_eq_getElem?_getD, List.getD_eq_getElem?_getD, h1, h4] at he
    simp at he
    subst he
    rw [h3] at h6
    cases h6
    rfl)
set_option maxRecDepth 100000 in
set_option maxHeartbeats 4000000 in
theorem leave_any (nx : List (List Int)) (hmay : May nx) (hb1 : nx.length ≤ 2000000) (base : Nat) (e : WEnv) (s : WSt) (z : Nat) (st : List Nat) (N0 : Nat) (v : Value) (W0 w : World) (hN : NetAt W0 v nx) (hsz : W0.heap.size ≤ base) (hB : Below base W0 w) (hN0 : N0 < base) (hNc : w.cell? ⟨N0, 0, none⟩ = some v)
    (hW : WI nx s.ns s.fs s.gs s.ps (z :: st)) (A : WAt w base e s) (hat : s.at' = (z : Int)) (he : e.n = nx.length) (hmf : e.mf = .func (.func 47) #[] #[ptr e.WB, ptr e.AB, ptr e.GB]) :
    Calls Tryz.prog 48 #[ptr N0, ptr e.WB, ptr e.AB, ptr e.GB, ptr e.MB] w fun r w' => r = .returned (.tuple #[]) ∧ LeftTo nx base e s (z :: st) w w' := by
  obtain ⟨WB, GB, AB, MB, pg, n, mf⟩ := e
  obtain ⟨at', nsV, fsV, gsV, ns, fs, gs, ps⟩ := s
  simp only at he hmf hat hW
  subst hat
  subst hmf
  have hzl := hW.stl z (by simp)
  have hpos := hW.pos
  have hnle := wi_le hW
  have hlf := hW.lf
  have hlg := hW.lg
  obtain ⟨g0, x, hg0, hx, hg0l, _, _⟩ := hW.gon z hzl
  have hxn : x < nx.length := by
    obtain ⟨x', h1, h2, _⟩ := hW.nod z hzl
    rw [hx] at h1
    cases h1
    exact h2
  obtain ⟨ng, nc, hnV⟩ := own_some A.rn hpos
  simp only at hnV
  subst hnV
  obtain ⟨fg, fc, hfV⟩ := own_some A.rf (by show 0 < fs.length; omega)
  simp only at hfV
  subst hfV
  obtain ⟨gg, gc, hgV⟩ := own_some A.rg (by show 0 < gs.length; omega)
  simp only at hgV
  subst hgV
  obtain ⟨a, c, rfl, hll⟩ := hN.form
  obtain ⟨hng, ho, ra, rc, rfl, hgl, c0, hI⟩ := hN.get hxn
  obtain ⟨r, hr⟩ : ∃ r, r = nx.getD x [] := ⟨_, rfl⟩
  rw [← hr] at c0 hI hg0l
  have HR : Hid (∀ k, k < r.length → _) := fun k hk => hI.get (i := k) hk
  obtain ⟨_, _, _, hrl⟩ := hI.form
  have HRR : Hid _ := hr
  have HX : Hid _ := hx
  have HMY : Hid _ := hmay
  have HIN : Hid (∀ k, k < r.length → ∃ u : Nat, r[k]? = some (u : Int) ∧ u < nx.length) := fun k hk => by
    have h9 := hmay.2 (nx.getD x []) (by rw [getD_of hxn]; exact List.getElem_mem hxn) (r[k]'hk) (by rw [← hr]; exact List.getElem_mem hk)
    obtain ⟨u, hu⟩ : ∃ u : Nat, r[k]'hk = (u : Int) := Int.eq_ofNat_of_zero_le h9.1
    exact ⟨u, by rw [List.getElem?_eq_getElem hk, hu], by omega⟩
  have HBW : Hid _ := hB
  have hN0w : N0 < w.heap.size := Nat.lt_of_lt_of_le hN0 A.hb
  have HW : Hid (WI nx ns fs gs ps (z :: st)) := hW
  have HG0 : Hid _ := hg0
  have HA : Hid _ := A
  obtain ⟨c1, c2, c3⟩ := A.wb
  obtain ⟨c4, f4⟩ := A.ab
  simp only at c1 c2 c3 c4 f4
  have c5 : w.cell? ⟨ng, z, none⟩ = some (.int .i64 (x : Int)) := A.n rfl hx
  have c6 : w.cell? ⟨hng, ho + x, none⟩ = some (.slice ra r.length rc) := (hB.cell (p := ⟨hng, ho + x, none⟩) (Nat.lt_of_lt_of_le hgl hsz)).trans c0
  have hz' : (z : Int) < ns.length := by omega
  have hx' : (x : Int) < nx.length := by omega
  have HE : Hid _ := he
  have HBB : Hid (base ≤ w.heap.size) := A.hb
  have HLF : Hid _ := hlf
  have HLG : Hid _ := hlg
  have hzg : (z : Int) < gs.length := by omega
  have hzf : (z : Int) < fs.length := by omega
  clear hW A hI c0 hr hx hg0 hmay hlf hlg he
  obtain ⟨rl, hrl0⟩ : ∃ rl, rl = r.length := ⟨_, rfl⟩
  have HRL : Hid _ := hrl0
  rw [← hrl0] at HR HIN c6 hg0l hrl
  clear hrl0
  go_enter Tryz.func48, Tryz.ntmps48
  go_wp2
  go_quiet (fail)
  go_wp2
  have HA0 : Hid (WAt (w.drewN nq) base ⟨WB, GB, AB, MB, pg, n, .func (.func 47) #[] #[ptr WB, ptr AB, ptr GB]⟩ ⟨(z : Int), .slice (some ⟨ng, 0, none⟩) ns.length nc, .slice (some ⟨fg, 0, none⟩) fs.length fc, .slice (some ⟨gg, 0, none⟩) gs.length gc, ns, fs, gs, ps⟩) := HA.out.same rfl
  have HB0 : Hid (Below base w (w.drewN nq)) := bel_drewN (Below.refl _ _) nq
  clear HA c1 c2 c3 c4 f4 c5 c6
  go_loopg [6] (rl - g0) (fun gm _ wr => ∃ (g : Nat) (gs1 : List Int), gs1.length = gs.length ∧ g ≤ rl ∧ Hid (WI nx ns fs gs1 ps (z :: st) ∧ gs1[z]? = some (g : Int) ∧ WAt wr base ⟨WB, GB, AB, MB, pg, n, .func (.func 47) #[] #[ptr WB, ptr AB, ptr GB]⟩ ⟨(z : Int), .slice (some ⟨ng, 0, none⟩) ns.length nc, .slice (some ⟨fg, 0, none⟩) fs.length fc, .slice (some ⟨gg, 0, none⟩) gs.length gc, ns, fs, gs1, ps⟩ ∧ Below base w wr ∧ rl - g ≤ gm))
  case atStart => exact ⟨g0, gs, rfl, hg0l, HW.out, HG0.out, HA0.out, HB0.out, Nat.le_refl _⟩
  case round =>
    obtain ⟨g, gs1, hgl1, hgr, hq⟩ := hrel
    clear HA0 HB0 HW HG0
    obtain ⟨hW, hg, hA, hBw, hgm⟩ := hq.out
    obtain ⟨c1, c2, c3⟩ := hA.wb
    obtain ⟨c4, f4⟩ := hA.ab
    have c5 := hA.gb
    simp only at c1 c2 c3 c4 f4 c5
    obtain ⟨c6, f6⟩ := hA.g (ng := gg) (nc := gc) (by show Value.slice _ _ _ = _; rw [hgl1]) hg
    by_cases hgr2 : g < rl
    · have hgr' : (g : Int) < rl := by omega
      obtain ⟨u, hu, hun⟩ := HIN.out g hgr2
      obtain ⟨gr, or, rfl, hgrl, cr⟩ := HR.out g hgr2
      have eu : r.getD g 0 = (u : Int) := by rw [List.getD_eq_getElem?_getD, hu]; rfl
      rw [eu] at cr
      have cr' : wr.cell? ⟨gr, or + g, none⟩ = some (.int .i64 (u : Int)) := (hBw.cell (p := ⟨gr, or + g, none⟩) (show gr < base by omega)).trans ((HBW.out.cell (p := ⟨gr, or + g, none⟩) (show gr < base by omega)).trans cr)
      have hun' : (u : Int) < n := by rw [HE.out]; omega
      have hwg : IntKind.i64.wrap ((g : Int) + 1) = ((g + 1 : Nat) : Int) := by unfold IntKind.wrap; simp [IntKind.bits, IntKind.signed]; omega
      have HA2 : Hid (WAt (wr.setCell ⟨gg, z, none⟩ (.int .i64 ((g + 1 : Nat) : Int))) base ⟨WB, GB, AB, MB, pg, n, .func (.func 47) #[] #[ptr WB, ptr AB, ptr GB]⟩ ⟨(z : Int), .slice (some ⟨ng, 0, none⟩) ns.length nc, .slice (some ⟨fg, 0, none⟩) fs.length fc, .slice (some ⟨gg, 0, none⟩) gs.length gc, ns, fs, gs1.set z ((g + 1 : Nat) : Int), ps⟩) := WAt.setG (gg := gg) (gc := gc) (by show Value.slice _ _ _ = _; rw [hgl1]) hA z ((g + 1 : Nat) : Int)
      have HB2 : Hid (Below base w (wr.setCell ⟨gg, z, none⟩ (.int .i64 ((g + 1 : Nat) : Int)))) := Below.setCell (p := ⟨gg, z, none⟩) hBw (hA.rg.lt gg rfl).1 _
      have hur : (nx.getD x [])[g]? = some (u : Int) := by rw [← HRR.out]; exact hu
      rcases hW.plc u hun with hp | ⟨j, hj, hp, _⟩
      · have HWM : Hid _ := hW.meet hg HX.out hur hun hp
        have c7 : (wr.setCell ⟨gg, z, none⟩ (.int .i64 ((g : Int) + 1))).cell? ⟨pg, u, none⟩ = some (.int .i64 (-1)) := (HA2.out.p hp).1
        have c8 : (wr.setCell ⟨gg, z, none⟩ (.int .i64 ((g : Int) + 1))).cell? ⟨WB, 2, none⟩ = some (slV pg n) := HA2.out.wb.2.2
        have c9 : (wr.setCell ⟨gg, z, none⟩ (.int .i64 ((g : Int) + 1))).cell? ⟨MB, 0, none⟩ = some (.func (.func 47) #[] #[ptr WB, ptr AB, ptr GB]) := HA2.out.mb
        have HMT : Hid _ := meet_any base _ _ u _ HA2.out (by show u < n; rw [HE.out]; exact hun) (by show ps.length = n; rw [HE.out]; exact hW.lp) (by show n ≤ _; rw [HE.out]; exact hb1) (by show ns.length ≤ _; omega) (by show fs.length ≤ _; rw [HLF.out]; omega) (by show (gs1.set z _).length ≤ _; rw [List.length_set, hgl1, HLG.out]; omega)
        have HLT : Hid (ns.length + 1 ≤ nx.length) := by have h9 := wi_le HWM.out; show _ ≤ _; simpa using h9
        have HGL : Hid _ := hgl1
        clear hq hW hg hA hBw hp hur hu cr eu hgl1
        go_wp2_with (go_at_call 47; go_loud (refine Calls.mono (by exact HMT.out) ?_; rintro e w9 ⟨rfl, ⟨nV, fV, gV, hA9⟩, hB9⟩; have HA9 : Hid _ := hA9; have HB9 : Hid _ := hB9; clear hA9 hB9))
        refine bodyPost_ret (results_none rfl _ _ _) rfl ⟨rfl, ⟨_, ns.length :: z :: st, ?_, HA9.out, rfl, ?_⟩, HB2.out.trans HB9.out⟩
        · exact HWM.out
        · have h9 := HLT.out
          show 2 * (nx.length - (ns ++ [(u : Int)]).length) + (ns.length :: z :: st).length < 2 * (nx.length - ns.length) + (z :: st).length
          simp only [List.length_append, List.length_cons, List.length_nil]
          omega
      · have HWL : Hid _ := hW.look hg HX.out hur (by rw [Int.toNat_natCast]; exact hp)
        have c7 : (wr.setCell ⟨gg, z, none⟩ (.int .i64 ((g : Int) + 1))).cell? ⟨pg, u, none⟩ = some (.int .i64 (j : Int)) := (HA2.out.p hp).1
        have c8 : (wr.setCell ⟨gg, z, none⟩ (.int .i64 ((g : Int) + 1))).cell? ⟨WB, 2, none⟩ = some (slV pg n) := HA2.out.wb.2.2
        have hjne : ¬ (j : Int) = -1 := by omega
        have hjne' : ((j : Int) == -1) = false := beq_false_of_ne hjne
        have HGM : Hid (rl - g ≤ gk) := hgm
        have HG2 : Hid ((gs1.set z ((g + 1 : Nat) : Int))[z]? = some ((g + 1 : Nat) : Int)) := by show _ = _; rw [List.getElem?_set, if_pos rfl, if_pos (List.getElem?_eq_some_iff.1 hg).1]
        have HGL : Hid _ := hgl1
        clear hq hW hg hA hBw hp hur hu cr eu hgm hgl1
        go_wp2
        go_roundg (gk - 1)
        case measure => have := HGM.out; omega
        case rel => exact ⟨g + 1, gs1.set z ((g + 1 : Nat) : Int), by rw [List.length_set]; exact HGL.out, by omega, HWL.out, HG2.out, HA2.out, HB2.out, by have := HGM.out; omega⟩
    · obtain rfl : g = rl := by omega
      have htop : fs[z]? = some (topI st) := chn_top hW.chn hW.frm0
      have c7 : wr.cell? ⟨fg, z, none⟩ = some (.int .i64 (topI st)) := hA.f rfl htop
      have HWP : Hid _ := hW.pop hg HX.out (by rw [← HRR.out]; exact HRL.out)
      have HA2 : Hid _ := hA.setAt (topI st)
      have HB2 : Hid (Below base w (wr.setCell ⟨AB, 0, none⟩ (.int .i64 (topI st)))) := Below.setCell (p := ⟨AB, 0, none⟩) hBw (hA.hp.lt (i := 2) (cs := [intV (z : Int)]) rfl).1 _
      have HGL : Hid _ := hgl1
      obtain ⟨tp, htp⟩ : ∃ tp, tp = topI st := ⟨_, rfl⟩
      have HTP : Hid (tp = topI st) := htp
      rw [← htp] at c7 HA2 HB2
      clear htp htop
      clear hq hW hg hA hBw hgm hgl1
      go_wp2
      go_end0
      exact ⟨rfl, ⟨_, st, HWP.out, HA2.out, HTP.out, by show 2 * (nx.length - ns.length) + st.length < 2 * (nx.length - ns.length) + (z :: st).length; rw [List.length_cons]; omega⟩, HB2.out⟩
end Go.Proofs.YtogjjmbcbnceoaaGreat
