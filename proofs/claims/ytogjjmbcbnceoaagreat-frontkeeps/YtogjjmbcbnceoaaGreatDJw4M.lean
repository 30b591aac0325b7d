/- The program: places of truths; what stands under a node and is fresh. -/
import Derived.Test.YtogjjmbcbnceoaaGreatDJStM
import Derived.Test.YtogjjmbcbnceoaaGreatDFw3
namespace Go.Proofs.YtogjjmbcbnceoaaGreat
open Go.RowKit

theorem grown_app {w w1 w2 : World} {G : Nat} {r : Option Nat} (h : w.grownBy w1 (some G)) (hg : w1.grownBy w2 r) (hr : ∀ g, r = some g → w.heap.size ≤ g) : w.grownBy w2 (some G) :=
  ⟨hg.os.trans h.os, hg.tape.trans h.tape, hg.output.trans h.output, Nat.le_trans h.size hg.size, fun k hk hn => (hg.block k (Nat.lt_of_lt_of_le hk h.size) (fun e => by have := hr k e.symm; omega)).trans (h.block k hk hn)⟩
theorem grown_below {w w1 w2 : World} {G : Nat} (h : w.grownBy w1 (some G)) (hb : Below w1.heap.size w1 w2) : w.grownBy w2 (some G) :=
  ⟨hb.os.trans h.os, hb.tape.trans h.tape, hb.output.trans h.output, Nat.le_trans h.size hb.size, fun k hk hn => (hb.block k (Nat.lt_of_lt_of_le hk h.size)).trans (h.block k hk hn)⟩
theorem below_grownG {W w w1 : World} {G : Nat} (h : Below W.heap.size W w) (hg : w.grownBy w1 (some G)) (hG : W.heap.size ≤ G) : Below W.heap.size W w1 := below_grown h hg fun g e => by cases e; exact hG
abbrev OwnT (w : World) (g n : Nat) (l : List Bool) : Prop := w.ownsRow 0 4 1 (slV g n) n (l.map Value.bool)
theorem ownT_cell {w : World} {g n : Nat} {l : List Bool} (h : OwnT w g n l) {x : Nat} (hx : x < n) : w.cell? ⟨g, x, none⟩ = some (.bool (l.getD x false)) := by
  rw [World.ownsRow.cellAt h x (by omega), List.getElem?_map]
  have hl : l.length = n := by have := h.1; simpa using this
  rw [List.getElem?_eq_getElem (by omega), getD_of (by omega)]
  rfl
theorem ownT_set {w : World} {g n : Nat} {l : List Bool} (h : OwnT w g n l) (x : Nat) : OwnT (w.setCell ⟨g, x, none⟩ (.bool true)) g n (l.set x true) := by
  have := (World.ownsRow.stored h x (.bool true)).1
  show World.ownsRow _ _ _ _ _ _ _
  rw [List.map_set]
  exact this
theorem ownT_lt {w : World} {g n : Nat} {l : List Bool} (h : OwnT w g n l) : g < w.heap.size := (World.ownsRow.lt h g rfl).2
theorem ownT_fz {w : World} {g n : Nat} {l : List Bool} (h : OwnT w g n l) (x : Nat) : w.frozen? ⟨g, x, none⟩ = false := World.ownsRow.frozenAt h x
set_option maxRecDepth 100000 in
set_option maxHeartbeats 1000000 in
theorem places_any (g n : Nat) (l : List Bool) (w : World) (h : OwnT w g n l) (hn : n ≤ 2000000) : Calls Tryz.prog 89 #[slV g n] w fun e w' => ∃ v', e = .returned v' ∧ OwnI w' w.heap.size v' (nodesL n fun i => l.getD i false = true) ∧ Below w.heap.size w w' := by
  have HC : Hid (∀ i, i < n → w.cell? ⟨g, i, none⟩ = some (.bool (l.getD i false))) := fun i hi => ownT_cell h hi
  have hg : g < w.heap.size := (World.ownsRow.lt h g rfl).2
  have HS : Hid (∀ i, nodesL (i + 1) (fun i => l.getD i false = true) = nodesL i (fun i => l.getD i false = true) ++ (if dec (l.getD i false = true) then [(i : Int)] else [])) := fun i => nodesL_succ i _
  have HL : Hid (∀ i, (nodesL i (fun i => l.getD i false = true)).length ≤ i) := fun i => nodesL_len i _
  have H0 : Hid (nodesL 0 (fun i => l.getD i false = true) = []) := by show _ = _; simp [nodesL]
  obtain ⟨N, hN⟩ : ∃ N : Nat → List Int, N = fun i => nodesL i (fun i => l.getD i false = true) := ⟨_, rfl⟩
  have HN : Hid (∀ i, nodesL i (fun i => l.getD i false = true) = N i) := fun i => by rw [hN]
  obtain ⟨i0, hi0, hz0, hz1, hz2⟩ := info_parts (P := Tryz.prog) infoI
  simp only [HN.out] at HS HL H0
  rw [HN.out]
  clear hN HN h
  go_enter Tryz.func89, Tryz.ntmps89
  go_wp2
  go_loopw [3, 8] (fun va vi wr => ∃ i : Nat, vi = .int .i64 i ∧ i ≤ n ∧ Hid (Below w.heap.size w wr ∧ OwnI wr w.heap.size va (N i))) (fun _ vi _ => n - (intOf vi).toNat)
  case atStart => exact ⟨0, rfl, by omega, Below.refl _ _, by rw [H0.out]; exact World.ownsRow_nil _ _ _ _⟩
  case round =>
    obtain ⟨i, rfl, hi, hq⟩ := hrel
    by_cases hin : i < n
    · have hin' : (i : Int) < n := by omega
      have c0 : wr.cell? ⟨g, i, none⟩ = some (.bool (l.getD i false)) := (hq.out.1.cell (p := ⟨g, i, none⟩) hg).trans (HC.out i hin)
      have HSI : Hid _ := HS.out i
      have HLI : Hid _ := HL.out i
      clear HC HS HL H0
      rcases hb : l.getD i false with _ | _
      · have HE : Hid (N (i + 1) = N i) := by
          show _ = _
          rw [HSI.out, hb, dec_false (by simp)]
          simp
        rw [hb] at c0
        clear hb HSI
        go_wp2
        go_roundw
        case rel => exact ⟨i + 1, by first | rfl | (congr 1; omega), by omega, hq.out.1, by rw [HE.out]; exact hq.out.2⟩
        case measure => simp [intOf]; omega
      · have HE : Hid (N (i + 1) = N i ++ [(i : Int)]) := by
          show _ = _
          rw [HSI.out, hb, dec_true rfl]
          simp
        rw [hb] at c0
        obtain ⟨va, vc, hva⟩ := own_sl hq.out.2
        subst hva
        have HOK : Hid _ := hq.out.2
        have HBB : Hid _ := hq.out.1
        have hll := HLI.out
        generalize hrl0 : (N i).length = rl at *
        have HRL : Hid _ := hrl0
        have HOK2 : Hid (wr.ownsRow w.heap.size 3 1 (.slice va rl vc) rl ((N i).map intV)) := HOK.out
        have hsz := HBB.out.size
        have HA1 : Hid (Below wr.heap.size wr (wr.alloc (.cells #[.int .i64 (i : Int)] 3))) := below_alloc (Below.refl _ _) _
        clear hb HSI HLI hq HOK hrl0
        go_wp2_with (at_builtin; go_loud (refine wpList_append_own_at _ rfl _ _ 23 rfl w.heap.size 3 i0 (.int .i64 0) 1 8 Tryz.underlying23 hi0 hz0 hz1 hz2 rfl (by decide) (.slice va rl vc) rl ((N i).map intV) rfl (HOK2.out.alloc _) ⟨wr.heap.size, 0, none⟩ 1 1 [intV i] rfl rfl ?c1 ?c2 ?c3 ?c4 ?c5 ?_))
        case c1 => exact cell_one_new wr (intV i) 3
        case c2 => intro u hu; simp at hu; subst hu; rfl
        case c3 => unfold maxLen; omega
        case c4 => omega
        case c5 => simp; omega
        intro v2 w2 ho hg2 _ hat
        have HO2 : Hid (OwnI w2 w.heap.size v2 (N (i + 1))) := by
          show World.ownsRow _ _ _ _ _ _ _
          rw [HE.out, List.length_append, HRL.out]
          simpa using ho
        have HB2 : Hid (Below w.heap.size w w2) := below_grown (below_trans HBB.out HA1.out) hg2 (fun q hqq => (HOK2.out.lt q hqq).1)
        clear ho hg2 hat
        go_wp2
        go_roundw
        case rel => exact ⟨i + 1, by first | rfl | (congr 1; omega), by omega, HB2.out, HO2.out⟩
        case measure => simp [intOf]; omega
    · obtain rfl : i = n := by omega
      clear HC HS HL H0
      go_wp2
      go_ret
      exact ⟨_, rfl, hq.out.2, hq.out.1⟩
/-- Those that have gone: as before, and some of a row. -/
def GnTo (n : Nat) (g0 : List Bool) (row : List Int) (i : Nat) (g : List Bool) : Prop := g.length = n ∧ ∀ y : Nat, y < n → (g.getD y false = true ↔ g0.getD y false = true ∨ ∃ j, j < i ∧ row[j]? = some (y : Int))
theorem GnTo.start {n : Nat} {g0 : List Bool} (h : g0.length = n) (row : List Int) : GnTo n g0 row 0 g0 := ⟨h, fun y _ => ⟨.inl, fun h => h.elim id fun ⟨j, hj, _⟩ => by omega⟩⟩
theorem GnTo.step {n : Nat} {g0 : List Bool} {row : List Int} {i : Nat} {g : List Bool} (h : GnTo n g0 row i g) {p : Nat} (hp : row[i]? = some (p : Int)) (hpn : p < n) : GnTo n g0 row (i + 1) (g.set p true) := by
  refine ⟨by simpa using h.1, fun y hy => ?_⟩
  rw [getD_sb (by rw [h.1]; exact hpn), h.2 y hy]
  constructor
  · rintro (rfl | h1 | ⟨j, h1, h2⟩)
    · exact .inr ⟨i, by omega, hp⟩
    · exact .inl h1
    · exact .inr ⟨j, by omega, h2⟩
  · rintro (h1 | ⟨j, h1, h2⟩)
    · exact .inr (.inl h1)
    · by_cases e : j = i
      · subst e
        rw [hp] at h2
        left
        cases h2
        rfl
      · exact .inr (.inr ⟨j, by omega, h2⟩)
theorem GnTo.grow {n : Nat} {g0 : List Bool} {row : List Int} {i : Nat} {g : List Bool} (h : GnTo n g0 row i g) (hi : i ≤ row.length) (x : Int) : GnTo n g0 (row ++ [x]) i g := by
  refine ⟨h.1, fun y hy => (h.2 y hy).trans ⟨fun hh => hh.imp id fun ⟨j, h1, h2⟩ => ⟨j, h1, by rw [List.getElem?_append_left (by omega)]; exact h2⟩, fun hh => hh.imp id fun ⟨j, h1, h2⟩ => ⟨j, h1, by rw [List.getElem?_append_left (by omega)] at h2; exact h2⟩⟩⟩
theorem GnTo.new {n : Nat} {g0 : List Bool} {row : List Int} {i : Nat} {g : List Bool} (h : GnTo n g0 row i g) {x : Nat} (hx : x < n) (hn : (x : Int) ∉ row) : g.getD x false = g0.getD x false := by
  have h1 := h.2 x hx
  have h2 : (∃ j, j < i ∧ row[j]? = some (x : Int)) → False := fun ⟨j, _, h⟩ => hn (List.mem_of_getElem? h)
  rcases e1 : g.getD x false with _ | _ <;> rcases e2 : g0.getD x false with _ | _
  · rfl
  · rw [e1, e2] at h1; simp at h1
  · rw [e1, e2] at h1
    simp only [true_iff, Bool.false_eq_true, false_or] at h1
    exact (h2 h1).elim
  · rfl
end Go.Proofs.YtogjjmbcbnceoaaGreat
/- The program: what stands under a node and is fresh. -/
namespace Go.Proofs.YtogjjmbcbnceoaaGreat
open Go.RowKit

theorem own_at1 {w : World} {base : Nat} {v : Value} {p : List Int} (h : OwnI w base v p) (hp : 0 < p.length) : ∃ g c, v = .slice (some ⟨g, 0, none⟩) p.length c ∧ base ≤ g ∧ g < w.heap.size := by
  rcases own_shape h with ⟨_, h0⟩ | ⟨g, c, h1, _, _, h2, h3⟩
  · omega
  · exact ⟨g, c, h1, h2, h3⟩
theorem own_get {w : World} {base g c n : Nat} {p : List Int} (h : OwnI w base (.slice (some ⟨g, 0, none⟩) n c) p) {i : Nat} {x : Int} (hx : p[i]? = some x) : w.cell? ⟨g, i, none⟩ = some (.int .i64 x) := by
  have hi := (List.getElem?_eq_some_iff.1 hx).1
  obtain ⟨a, c', e⟩ := own_slice h
  have hn : n = p.length := by cases e; rfl
  have h2 : w.ownsRow base 3 1 (.slice (some ⟨g, 0, none⟩) n c) p.length (p.map intV) := h
  rw [hn] at h2
  rw [h2.cellAt i (by omega)]
  exact map_get hx
set_option maxRecDepth 100000 in
set_option maxHeartbeats 2000000 in
theorem fresh_any (nx : List (List Int)) (hmay : May nx) (hb1 : nx.length ≤ 2000000) (W1 w : World) (uv : Value) (gg top : Nat) (gn0 : List Bool) (hU : NetAt W1 uv (undL nx)) (hB : Below W1.heap.size W1 w) (hgg : W1.heap.size ≤ gg) (hT : OwnT w gg nx.length gn0) (htop : Rch nx noneS top) :
    Calls Tryz.prog 88 #[.int .i64 (top : Int), uv, slV gg nx.length] w fun e w' => ∃ fv fr i gn, e = .returned fv ∧ OwnI w' w.heap.size fv fr ∧ OwnT w' gg nx.length gn ∧ w.grownBy w' (some gg) ∧ Wk nx (fun x => gn0.getD x false = true) top i 0 fr ∧ fr.length ≤ i ∧ GnTo nx.length gn0 fr i gn := by
  obtain ⟨ua, uc, rfl, _⟩ := hU.form
  rw [undL_len]
  have HU : Hid (∀ p, p < nx.length → ∃ g o ra rc, ua = some ⟨g, o, none⟩ ∧ g < W1.heap.size ∧ W1.cell? ⟨g, o + p, none⟩ = some (.slice ra ((undL nx).getD p []).length rc) ∧ IntsAt W1 (.slice ra ((undL nx).getD p []).length rc) ((undL nx).getD p [])) := fun p hp => hU.get (i := p) (by rw [undL_len]; exact hp)
  have HB : Hid _ := hB
  have HT : Hid _ := hT
  have HM : Hid _ := hmay
  have hggl := ownT_lt hT
  obtain ⟨K, hK⟩ : ∃ K : Nat → Prop, K = fun x => gn0.getD x false = true := ⟨_, rfl⟩
  have HK : Hid (∀ x, K x ↔ gn0.getD x false = true) := fun x => by rw [hK]
  rw [← hK]
  clear hK
  have HW : Hid (Wk nx K top 0 0 [(top : Int)]) := Wk.start hmay htop
  have HG0 : Hid (∀ row, GnTo nx.length gn0 row 0 gn0) := fun row => GnTo.start (by have := hT.1; simpa using this) row
  obtain ⟨i0, hi0, hz0, hz1, hz2⟩ := info_parts (P := Tryz.prog) infoI
  have HO0 : Hid (OwnI (w.alloc (.cells #[.int .i64 (top : Int)] 3)) w.heap.size (.slice (some ⟨w.heap.size, 0, none⟩) 1 1) [(top : Int)]) := World.ownsRow_lit (base := w.heap.size) (e := 3) (size := 1) w #[.int .i64 (top : Int)] 1 (Nat.le_refl _) (by unfold maxLen; omega) (by simp)
  have HT0 : Hid (OwnT (w.alloc (.cells #[.int .i64 (top : Int)] 3)) gg nx.length gn0) := World.ownsRow.alloc hT _
  have HGR0 : Hid (w.grownBy (w.alloc (.cells #[.int .i64 (top : Int)] 3)) (some gg)) := World.grownBy_alloc w _ _
  obtain ⟨n, hnn⟩ : ∃ n, n = nx.length := ⟨_, rfl⟩
  have HNN : Hid _ := hnn
  rw [← hnn] at hb1 HU HT0 HG0
  rw [← hnn]
  clear hU hB hT hmay htop hnn HT
  go_enter Tryz.func88, Tryz.ntmps88
  go_wp2
  go_loopw [7, 8] (fun vr vi wr => ∃ (i : Nat) (row : List Int) (gn : List Bool), vi = .int .i64 i ∧ i ≤ row.length ∧ row.length ≤ n ∧ Hid (OwnI wr w.heap.size vr row ∧ OwnT wr gg n gn ∧ w.grownBy wr (some gg) ∧ Wk nx K top i 0 row ∧ GnTo n gn0 row i gn)) (fun _ vi _ => n - (intOf vi).toNat)
  case atStart => exact ⟨0, [(top : Int)], gn0, rfl, by omega, by rw [HNN.out]; exact HW.out.len, HO0.out, HT0.out, HGR0.out, HW.out, HG0.out _⟩
  case round =>
    obtain ⟨i, row, gn, rfl, hi, hrn, hq⟩ := hrel
    clear HW HG0 HO0 HT0 HGR0
    have hr0 : 0 < row.length := (List.getElem?_eq_some_iff.1 hq.out.2.2.2.1.fst).1
    obtain ⟨g, rc, hv, hg1, hg2⟩ := own_at1 hq.out.1 hr0
    subst hv
    by_cases hin : i < row.length
    · have hin' : (i : Int) < row.length := by omega
      obtain ⟨p, ep, hpl, hop⟩ := hq.out.2.2.2.1.nod _ (List.getElem_mem hin)
      have hp : row[i]? = some (p : Int) := by rw [List.getElem?_eq_getElem hin, ep]
      have hpn : p < n := by rw [HNN.out]; exact hpl
      have hpn' : (p : Int) < n := by omega
      have cg : wr.cell? ⟨g, i, none⟩ = some (.int .i64 (p : Int)) := own_get hq.out.1 hp
      have ct := ownT_cell hq.out.2.1 hpn
      have ft := ownT_fz hq.out.2.1 p
      obtain ⟨gu, ou, ra, rc2, rfl, hgu, cu, hI⟩ := HU.out p hpn
      have hBr : Below W1.heap.size W1 wr := below_grownG HB.out hq.out.2.2.1 hgg
      have cu' : wr.cell? ⟨gu, ou + p, none⟩ = some (.slice ra ((undL nx).getD p []).length rc2) := (hBr.cell (p := ⟨gu, ou + p, none⟩) hgu).trans cu
      have n1 : ¬ gg = g := by omega
      have n2 : ¬ gg = gu := by omega
      have n3 : ¬ g = gg := by omega
      have n4 : ¬ gu = gg := by omega
      obtain ⟨w5, hw5⟩ : ∃ w5, w5 = wr.setCell ⟨gg, p, none⟩ (.bool true) := ⟨_, rfl⟩
      have HO5 : Hid (OwnI w5 w.heap.size (.slice (some ⟨g, 0, none⟩) row.length rc) row) := by
        rw [hw5]
        exact owns_other hq.out.1 (by simp [Value.ownBlock]; omega) _
      have HT5 : Hid (OwnT w5 gg n (gn.set p true)) := by rw [hw5]; exact ownT_set hq.out.2.1 p
      have HG5 : Hid (w.grownBy w5 (some gg)) := by rw [hw5]; exact grown_set hq.out.2.2.1 _ _
      have HGN5 : Hid (GnTo n gn0 row (i + 1) (gn.set p true)) := hq.out.2.2.2.2.step hp hpn
      have HW5 : Hid _ := hq.out.2.2.2.1
      have HP5 : Hid _ := hp
      have hml : ((undL nx).getD p []).length ≤ n := by
        have h1 : ((undL nx).getD p []).length ≤ ((List.range nx.length).map fun b : Nat => (b : Int)).length := by
          refine List.Nodup.length_le_of_subset (undL_row hpl).1 fun x hx => ?_
          obtain ⟨y, e, hy⟩ := ((undL_row hpl).2 x).1 hx
          exact List.mem_map.2 ⟨y, List.mem_range.2 hy.1, e.symm⟩
        rw [HNN.out]
        simpa using h1
      have HI : Hid (∀ k, k < ((undL nx).getD p []).length → ∃ gr or x, ra = some ⟨gr, or, none⟩ ∧ gr < W1.heap.size ∧ W1.cell? ⟨gr, or + k, none⟩ = some (.int .i64 (x : Nat)) ∧ ((undL nx).getD p [])[k]? = some (x : Int)) := fun k hk => by
        obtain ⟨gr, or, e1, e2, e3⟩ := hI.get (i := k) hk
        obtain ⟨y, e4, _⟩ := ((undL_row hpl).2 _).1 (getD_mem hk)
        rw [e4] at e3
        exact ⟨gr, or, y, e1, e2, e3, by rw [getD_some hk, e4]⟩
      clear hq hI HU cu ep hop
      obtain ⟨ur, hur⟩ : ∃ ur, ur = (undL nx).getD p [] := ⟨_, rfl⟩
      have HUR : Hid _ := hur
      obtain ⟨m, hm⟩ : ∃ m, m = ((undL nx).getD p []).length := ⟨_, rfl⟩
      have HMM : Hid _ := hm
      rw [← hm] at cu' HI hml
      clear hm hur
      generalize hrl : row.length = rl at *
      generalize gn.getD p false = gp at ct
      generalize hgn1 : gn.set p true = gn1 at *
      clear hgn1
      have HRL : Hid _ := hrl
      clear hrl
      go_wp2
      rw [← hw5]
      generalize wr = wo at *
      go_loopw [7, 33] (fun vr vk wr => ∃ (k : Nat) (row : List Int), vk = .int .i64 k ∧ k ≤ m ∧ Hid (OwnI wr w.heap.size vr row ∧ OwnT wr gg n gn1 ∧ w.grownBy wr (some gg) ∧ Wk nx K top i k row ∧ GnTo n gn0 row (i + 1) gn1 ∧ row[i]? = some (p : Int))) (fun _ vk _ => m - (intOf vk).toNat)
      case atStart => exact ⟨0, row, rfl, by omega, HO5.out, HT5.out, HG5.out, HW5.out, HGN5.out, HP5.out⟩
      case round =>
        obtain ⟨k, row, rfl, hk, hq⟩ := hrel
        clear HO5 HT5 HG5 HW5 HGN5 HP5 HRL
        have hr0 : 0 < row.length := (List.getElem?_eq_some_iff.1 hq.out.2.2.2.1.fst).1
        obtain ⟨g, rc, hv, hg1, hg2⟩ := own_at1 hq.out.1 hr0
        subst hv
        by_cases hkm : k < m
        · have hkm' : (k : Int) < m := by omega
          obtain ⟨gr, or, x, rfl, hgr, cr, hx⟩ := HI.out k hkm
          have hBr : Below W1.heap.size W1 wr := below_grownG HB.out hq.out.2.2.1 hgg
          have cr' : wr.cell? ⟨gr, or + k, none⟩ = some (.int .i64 (x : Int)) := (hBr.cell (p := ⟨gr, or + k, none⟩) hgr).trans cr
          obtain ⟨hpar, _, _, hnew⟩ := hq.out.2.2.2.1.fresh HM.out hq.out.2.2.2.2.2 hx
          have hxn : x < n := by rw [HNN.out]; exact hpar.1
          have hxn' : (x : Int) < n := by omega
          have ct := ownT_cell hq.out.2.1 hxn
          rw [hq.out.2.2.2.2.1.new hxn hnew] at ct
          have HKX : Hid _ := HK.out x
          clear HI HK cr
          rcases hb : gn0.getD x false with _ | _
          · have HW6 : Hid (Wk nx K top i (k + 1) (row ++ [(x : Int)])) := hq.out.2.2.2.1.push HM.out hq.out.2.2.2.2.2 hx (fun hc => by have := HKX.out.1 hc; rw [hb] at this; simp at this)
            have HG6 : Hid (GnTo n gn0 (row ++ [(x : Int)]) (i + 1) gn1) := hq.out.2.2.2.2.1.grow (List.getElem?_eq_some_iff.1 hq.out.2.2.2.2.2).1 _
            have HP6 : Hid ((row ++ [(x : Int)])[i]? = some (p : Int)) := by
              show _ = _
              rw [List.getElem?_append_left (List.getElem?_eq_some_iff.1 hq.out.2.2.2.2.2).1]
              exact hq.out.2.2.2.2.2
            have hlen : row.length ≤ n := by rw [HNN.out]; exact hq.out.2.2.2.1.len
            rw [hb] at ct
            have HOK : Hid (OwnI wr w.heap.size (.slice (some ⟨g, 0, none⟩) row.length rc) row) := hq.out.1
            have HOT : Hid _ := hq.out.2.1
            have HGB : Hid _ := hq.out.2.2.1
            have hsz := hq.out.2.2.1.size
            clear hb hq hpar hnew hx HKX
            have HA1 : Hid (Below wr.heap.size wr (wr.alloc (.cells #[.int .i64 (x : Int)] 3))) := below_alloc (Below.refl _ _) _
            have HOK2 : Hid (wr.ownsRow w.heap.size 3 1 (.slice (some ⟨g, 0, none⟩) row.length rc) row.length (row.map intV)) := HOK.out
            generalize hrl : row.length = rl at *
            have HRL : Hid _ := hrl
            clear HOK hrl
            go_wp2_with (at_builtin; go_loud (refine wpList_append_own_at _ rfl _ _ 23 rfl w.heap.size 3 i0 (.int .i64 0) 1 8 Tryz.underlying23 hi0 hz0 hz1 hz2 rfl (by decide) (.slice (some ⟨g, 0, none⟩) rl rc) rl (row.map intV) rfl (HOK2.out.alloc _) ⟨wr.heap.size, 0, none⟩ 1 1 [intV x] rfl rfl ?c1 ?c2 ?c3 ?c4 ?c5 ?_))
            case c1 => exact cell_one_new wr (intV x) 3
            case c2 => intro u hu; simp at hu; subst hu; rfl
            case c3 => unfold maxLen; omega
            case c4 => omega
            case c5 => simp; omega
            intro v2 w2 ho hg2 _ hat
            have HO2 : Hid (OwnI w2 w.heap.size v2 (row ++ [(x : Int)])) := by
              show World.ownsRow _ _ _ _ _ _ _
              rw [List.length_append, HRL.out]
              simpa using ho
            have HB2 : Hid (w.grownBy w2 (some gg)) := grown_app (grown_below HGB.out HA1.out) hg2 (fun q hqq => (HOK2.out.lt q hqq).1)
            have HT2 : Hid (OwnT w2 gg n gn1) := owns_same (owns_below HOT.out HA1.out) (fun q hqq => hg2.block q (by have := HA1.out.size; simp [Value.ownBlock] at hqq; omega) (fun e => by have := (HOK2.out.lt q e.symm).1; simp [Value.ownBlock] at hqq; omega))
            clear ho hg2 hat
            go_wp2
            go_roundw
            case rel => exact ⟨k + 1, _, by first | rfl | (congr 1; omega), by omega, HO2.out, HT2.out, HB2.out, HW6.out, HG6.out, HP6.out⟩
            case measure => simp [intOf]; omega
          · have HW6 : Hid (Wk nx K top i (k + 1) row) := hq.out.2.2.2.1.pass hq.out.2.2.2.2.2 hx (HKX.out.2 hb)
            rw [hb] at ct
            clear hb hpar hnew hx HKX
            go_wp2
            go_roundw
            case rel => exact ⟨k + 1, row, by first | rfl | (congr 1; omega), by omega, hq.out.1, hq.out.2.1, hq.out.2.2.1, HW6.out, hq.out.2.2.2.2.1, hq.out.2.2.2.2.2⟩
            case measure => simp [intOf]; omega
        · obtain rfl : k = m := by omega
          have HW6 : Hid (Wk nx K top (i + 1) 0 row) := hq.out.2.2.2.1.row hq.out.2.2.2.2.2 HMM.out
          have hil := (List.getElem?_eq_some_iff.1 hq.out.2.2.2.2.2).1
          clear HI HK
          go_wp2
          go_roundw
          case rel => exact ⟨i + 1, row, gn1, by first | rfl | (congr 1; omega), by omega, by rw [HNN.out]; exact HW6.out.len, hq.out.1, hq.out.2.1, hq.out.2.2.1, HW6.out, hq.out.2.2.2.2.1⟩
          case measure => simp [intOf]; omega
    · clear HU
      go_wp2
      go_ret
      exact ⟨_, row, i, gn, rfl, hq.out.1, hq.out.2.1, hq.out.2.2.1, hq.out.2.2.2.1, by omega, hq.out.2.2.2.2⟩
end Go.Proofs.YtogjjmbcbnceoaaGreat
/- The program's depths. -/
namespace Go.Proofs.YtogjjmbcbnceoaaGreat
open Go.RowKit

def DlTo (nx : List (List Int)) (row dl : List Int) : Prop := dl.length = nx.length ∧ ∀ y : Nat, y < nx.length → dl.getD y 0 = if dec ((y : Int) ∈ row) then dep nx y else -1
theorem getD_setI {l : List Int} {x : Nat} {v : Int} (h : x < l.length) (y : Nat) : (l.set x v).getD y 0 = if x = y then v else l.getD y 0 := by
  rw [List.getD_eq_getElem?_getD, List.getD_eq_getElem?_getD, List.getElem?_set]
  split
  · rename_i e; subst e; first | rfl | (rw [if_pos h]; rfl)
  · rfl
theorem DlTo.start {nx : List (List Int)} (h : May nx) : DlTo nx [0] ((List.replicate nx.length (-1)).set 0 0) := by
  refine ⟨by simp, fun y hy => ?_⟩
  rw [getD_setI (by simpa using h.1)]
  by_cases e : 0 = y
  · subst e
    rw [if_pos rfl, dec_true (by simp), dep_zero h]
    rfl
  · rw [if_neg e, dec_false (by simp; omega), List.getD_eq_getElem?_getD, List.getElem?_replicate, if_pos hy]
    rfl
theorem DlTo.push {nx : List (List Int)} {row dl : List Int} (h : DlTo nx row dl) {x : Nat} (hx : x < nx.length) {d : Int} (hd : dep nx x = d) : DlTo nx (row ++ [(x : Int)]) (dl.set x d) := by
  refine ⟨by simpa using h.1, fun y hy => ?_⟩
  rw [getD_setI (by rw [h.1]; exact hx)]
  by_cases e : x = y
  · subst e
    rw [if_pos rfl, dec_true (by simp), ← hd]
    rfl
  · rw [if_neg e, h.2 y hy, dec_congr (show ((y : Int) ∈ row ++ [(x : Int)]) ↔ (y : Int) ∈ row from ⟨fun hh => (List.mem_append.1 hh).elim id fun hh => by simp at hh; omega, fun hh => List.mem_append.2 (.inl hh)⟩)]
theorem DlTo.done {nx : List (List Int)} {row dl : List Int} (h : DlTo nx row dl) (hr : ∀ x : Nat, (x : Int) ∈ row ↔ Rch nx noneS x) : dl = depL nx := by
  refine List.ext_getElem (by rw [h.1, depL_len]) fun y h1 h2 => ?_
  have hy : y < nx.length := by rw [← h.1]; exact h1
  have e1 := h.2 y hy
  have e2 := depL_get hy
  rw [getD_of h1] at e1
  rw [getD_of h2] at e2
  rw [e1, e2, dec_congr (hr y)]
  by_cases e : Rch nx noneS y
  · rw [dec_true e]; rfl
  · rw [dec_false e, dep_no e]; rfl
theorem rch_over {nx : List (List Int)} (x : Nat) : (x = 0 ∨ (Ov nx 0 x ∧ ¬ False)) ↔ Rch nx noneS x := by
  constructor
  · rintro (rfl | ⟨h, _⟩)
    · exact .entry
    · exact h.2.1
  · intro h
    exact .inr ⟨.entry h, fun h => h⟩
set_option maxRecDepth 100000 in
set_option maxHeartbeats 2000000 in
theorem depths_any (nx : List (List Int)) (hmay : May nx) (hb1 : nx.length ≤ 2000000) (w : World) (uv : Value) (hU : NetAt w uv (undL nx)) :
    Calls Tryz.prog 85 #[uv] w fun e w' => ∃ D, e = .returned (slV D nx.length) ∧ w.heap.size ≤ D ∧ w'.ownsRow w.heap.size 3 1 (slV D nx.length) nx.length ((depL nx).map intV) ∧ Below w.heap.size w w' := by
  obtain ⟨ua, uc, rfl, _⟩ := hU.form
  rw [undL_len]
  have HU : Hid (∀ p, p < nx.length → ∃ g o ra rc, ua = some ⟨g, o, none⟩ ∧ g < w.heap.size ∧ w.cell? ⟨g, o + p, none⟩ = some (.slice ra ((undL nx).getD p []).length rc) ∧ IntsAt w (.slice ra ((undL nx).getD p []).length rc) ((undL nx).getD p [])) := fun p hp => hU.get (i := p) (by rw [undL_len]; exact hp)
  have HM : Hid _ := hmay
  have hpos := hmay.1
  have HW : Hid (Wk nx (fun _ => False) 0 0 0 [0]) := Wk.start hmay .entry
  have HDS : Hid (DlTo nx [0] ((List.replicate nx.length (-1)).set 0 0)) := DlTo.start hmay
  obtain ⟨i0, hi0, hz0, hz1, hz2⟩ := info_parts (P := Tryz.prog) infoI
  obtain ⟨wa, hwa⟩ : ∃ wa, wa = w.alloc (.cells #[.int .i64 (-1)] 3) := ⟨_, rfl⟩
  have hsa : wa.heap.size = w.heap.size + 1 := by rw [hwa]; simp
  have HBA : Hid (Below w.heap.size w wa) := by rw [hwa]; exact below_alloc (Below.refl _ _) _
  have hlit : wa.cell? ⟨w.heap.size, 0, none⟩ = some (.int .i64 (-1)) := by rw [hwa]; exact cell_lit1 w (-1)
  have HRP : Hid _ := repeat_any (-1) nx.length w.heap.size (by omega) (by omega) wa hlit (by omega)
  obtain ⟨D, hD⟩ : ∃ D, D = w.heap.size + 1 := ⟨_, rfl⟩
  obtain ⟨n, hnn⟩ : ∃ n, n = nx.length := ⟨_, rfl⟩
  have HNN : Hid _ := hnn
  rw [← hnn] at hb1 HU hpos HDS HRP
  rw [← hnn]
  rw [hsa, ← hD] at HRP
  have hDl : w.heap.size < D := by omega
  clear hU hmay hnn hlit hD hsa
  have hpos' : (0 : Int) < n := by omega
  go_enter Tryz.func85, Tryz.ntmps85
  go_wp2_with (go_at_call 32; go_loud (rw [← hwa]; refine Calls.mono (by exact HRP.out) ?_; rintro e w2 ⟨rfl, ho2, hb2⟩; have HO2 : Hid (w2.ownsRow D 3 1 (slV D n) n ((List.replicate n (-1)).map intV)) := (by have h9 : w2.ownsRow D 3 1 (slV D n) (List.replicate n (-1 : Int)).length ((List.replicate n (-1)).map intV) := ho2; rw [List.length_replicate] at h9; exact h9); have HB2 : Hid (Below w.heap.size w w2) := HBA.out.trans (hb2.mono (by omega)); have c20 : w2.cell? ⟨D, 0, none⟩ = some (.int .i64 (-1)) := (by rw [HO2.out.cellAt 0 (by omega), List.map_replicate, List.getElem?_replicate, if_pos hpos]); have f20 : w2.frozen? ⟨D, 0, none⟩ = false := HO2.out.frozenAt 0; clear ho2 hb2))
  obtain ⟨w3, hw3⟩ : ∃ w3, w3 = w2.setCell ⟨D, 0, none⟩ (.int .i64 0) := ⟨_, rfl⟩
  have hD2 := (HO2.out.lt D rfl).2
  have hs3 : w3.heap.size = w2.heap.size := by rw [hw3]; simp [World.setCell]
  have HO3 : Hid (w3.ownsRow D 3 1 (slV D n) n ((((List.replicate n (-1)).set 0 0)).map intV)) := by
    rw [hw3, List.map_set]
    exact (World.ownsRow.stored HO2.out 0 (.int .i64 0)).1
  have HB3 : Hid (Below w.heap.size w w3) := by rw [hw3]; exact below_set HB2.out (by omega) _ _
  rw [← hw3]
  have HR0 : Hid (OwnI (w3.alloc (.cells #[.int .i64 0] 3)) w3.heap.size (.slice (some ⟨w3.heap.size, 0, none⟩) 1 1) [0]) := World.ownsRow_lit (base := w3.heap.size) (e := 3) (size := 1) w3 #[.int .i64 0] 1 (Nat.le_refl _) (by unfold maxLen; omega) (by simp)
  have HD0 : Hid _ := owns_below HO3.out (below_alloc (Below.refl _ w3) (.cells #[.int .i64 0] 3))
  have HG0 : Hid (w3.grownBy (w3.alloc (.cells #[.int .i64 0] 3)) (some D)) := World.grownBy_alloc w3 _ _
  have HBF : Hid (∀ wr, w3.grownBy wr (some D) → Below w.heap.size w wr) := fun wr hg => below_grownG HB3.out hg (by omega)
  have hD3 : D < w3.heap.size := by omega
  have HS3 : Hid (w3.heap.size = w2.heap.size) := hs3
  clear HO2 HB2 c20 f20 HO3 HRP hw3 HB3 hs3 hD2
  go_loopw [4, 5] (fun vr vi wr => ∃ (i : Nat) (row dl : List Int), vi = .int .i64 i ∧ i ≤ row.length ∧ row.length ≤ n ∧ Hid (OwnI wr w3.heap.size vr row ∧ wr.ownsRow D 3 1 (slV D n) n (dl.map intV) ∧ w3.grownBy wr (some D) ∧ Wk nx (fun _ => False) 0 i 0 row ∧ DlTo nx row dl)) (fun _ vi _ => n - (intOf vi).toNat)
  case atStart => exact ⟨0, [0], _, rfl, by omega, by rw [HNN.out]; exact HW.out.len, by first | exact HR0.out | (have h9 := HR0.out; rw [HS3.out] at h9 ⊢; exact h9) | (rw [← HS3.out]; exact HR0.out), HD0.out, HG0.out, HW.out, HDS.out⟩
  case round =>
    obtain ⟨i, row, dl, rfl, hi, hrn, hq⟩ := hrel
    clear HW HDS HR0 HD0 HG0
    have hr0 : 0 < row.length := (List.getElem?_eq_some_iff.1 hq.out.2.2.2.1.fst).1
    obtain ⟨g, rc, hv, hg1, hg2⟩ := own_at1 hq.out.1 hr0
    subst hv
    by_cases hin : i < row.length
    · have hin' : (i : Int) < row.length := by omega
      obtain ⟨p, ep, hpl, hop⟩ := hq.out.2.2.2.1.nod _ (List.getElem_mem hin)
      have hp : row[i]? = some (p : Int) := by rw [List.getElem?_eq_getElem hin, ep]
      have hpn : p < n := by rw [HNN.out]; exact hpl
      have hpn' : (p : Int) < n := by omega
      have cg : wr.cell? ⟨g, i, none⟩ = some (.int .i64 (p : Int)) := own_get hq.out.1 hp
      obtain ⟨gu, ou, ra, rc2, rfl, hgu, cu, hI⟩ := HU.out p hpn
      have hBr : Below w.heap.size w wr := HBF.out wr hq.out.2.2.1
      have cu' : wr.cell? ⟨gu, ou + p, none⟩ = some (.slice ra ((undL nx).getD p []).length rc2) := (hBr.cell (p := ⟨gu, ou + p, none⟩) hgu).trans cu
      have HP5 : Hid _ := hp
      have HQ5 : Hid _ := hq.out
      have hml : ((undL nx).getD p []).length ≤ n := by
        have h1 : ((undL nx).getD p []).length ≤ ((List.range nx.length).map fun b : Nat => (b : Int)).length := by
          refine List.Nodup.length_le_of_subset (undL_row hpl).1 fun x hx => ?_
          obtain ⟨y, e, hy⟩ := ((undL_row hpl).2 x).1 hx
          exact List.mem_map.2 ⟨y, List.mem_range.2 hy.1, e.symm⟩
        rw [HNN.out]
        simpa using h1
      have HI : Hid (∀ k, k < ((undL nx).getD p []).length → ∃ gr or x, ra = some ⟨gr, or, none⟩ ∧ gr < w.heap.size ∧ w.cell? ⟨gr, or + k, none⟩ = some (.int .i64 (x : Nat)) ∧ ((undL nx).getD p [])[k]? = some (x : Int)) := fun k hk => by
        obtain ⟨gr, or, e1, e2, e3⟩ := hI.get (i := k) hk
        obtain ⟨y, e4, _⟩ := ((undL_row hpl).2 _).1 (getD_mem hk)
        rw [e4] at e3
        exact ⟨gr, or, y, e1, e2, e3, by rw [getD_some hk, e4]⟩
      clear hq hI HU cu ep hop hp
      obtain ⟨m, hm⟩ : ∃ m, m = ((undL nx).getD p []).length := ⟨_, rfl⟩
      have HMM : Hid _ := hm
      rw [← hm] at cu' HI hml
      clear hm
      generalize hrl : row.length = rl at *
      have HRL : Hid _ := hrl
      clear hrl
      go_wp2
      generalize wr = wo at *
      go_loopw [4, 29] (fun vr vk wr => ∃ (k : Nat) (row dl : List Int), vk = .int .i64 k ∧ k ≤ m ∧ Hid (OwnI wr w3.heap.size vr row ∧ wr.ownsRow D 3 1 (slV D n) n (dl.map intV) ∧ w3.grownBy wr (some D) ∧ Wk nx (fun _ => False) 0 i k row ∧ DlTo nx row dl ∧ row[i]? = some (p : Int))) (fun _ vk _ => m - (intOf vk).toNat)
      case atStart => exact ⟨0, row, dl, rfl, by omega, by first | exact HQ5.out.1 | (have h9 := HQ5.out.1; rw [← HRL.out]; exact h9), HQ5.out.2.1, HQ5.out.2.2.1, HQ5.out.2.2.2.1, HQ5.out.2.2.2.2, HP5.out⟩
      case round =>
        obtain ⟨k, row, dl, rfl, hk, hq⟩ := hrel
        clear HQ5 HP5 HRL
        have hr0 : 0 < row.length := (List.getElem?_eq_some_iff.1 hq.out.2.2.2.1.fst).1
        obtain ⟨g, rc, hv, hg1, hg2⟩ := own_at1 hq.out.1 hr0
        subst hv
        by_cases hkm : k < m
        · have hkm' : (k : Int) < m := by omega
          obtain ⟨gr, or, x, rfl, hgr, cr, hx⟩ := HI.out k hkm
          have hBr : Below w.heap.size w wr := HBF.out wr hq.out.2.2.1
          have cr' : wr.cell? ⟨gr, or + k, none⟩ = some (.int .i64 (x : Int)) := (hBr.cell (p := ⟨gr, or + k, none⟩) hgr).trans cr
          obtain ⟨hpar, _, hop, hnew⟩ := hq.out.2.2.2.1.fresh HM.out hq.out.2.2.2.2.2 hx
          have hxn : x < n := by rw [HNN.out]; exact hpar.1
          have hxn' : (x : Int) < n := by omega
          have hil := (List.getElem?_eq_some_iff.1 hq.out.2.2.2.2.2).1
          have hil' : (i : Int) < row.length := by omega
          have cg : wr.cell? ⟨g, i, none⟩ = some (.int .i64 (p : Int)) := own_get hq.out.1 hq.out.2.2.2.2.2
          have hdl : dl.length = n := by rw [HNN.out]; exact hq.out.2.2.2.2.1.1
          have hdp : dl.getD p 0 = dep nx p := by
            rw [hq.out.2.2.2.2.1.2 p (by rw [← HNN.out]; exact hpn), dec_true (List.mem_of_getElem? hq.out.2.2.2.2.2)]
            rfl
          have cp : wr.cell? ⟨D, p, none⟩ = some (.int .i64 (dep nx p)) := by
            rw [hq.out.2.1.cellAt p (by omega), ← hdp]
            exact map_get (getD_some (by omega))
          obtain ⟨y, hy⟩ : ∃ y, dl[x]? = some y := ⟨_, List.getElem?_eq_getElem (by omega)⟩
          have cx : wr.cell? ⟨D, x, none⟩ = some (.int .i64 y) := by
            rw [hq.out.2.1.cellAt x (by omega)]
            exact map_get hy
          have fx : wr.frozen? ⟨D, x, none⟩ = false := hq.out.2.1.frozenAt x
          have hdr := dep_in HM.out hop.2.1
          have HDP : Hid (dep nx x = dep nx p + 1) := dep_par HM.out hpar
          have HW6 : Hid (Wk nx (fun _ => False) 0 i (k + 1) (row ++ [(x : Int)])) := hq.out.2.2.2.1.push HM.out hq.out.2.2.2.2.2 hx (fun h => h)
          have HD6 : Hid (DlTo nx (row ++ [(x : Int)]) (dl.set x (dep nx p + 1))) := hq.out.2.2.2.2.1.push (by rw [← HNN.out]; exact hxn) HDP.out
          have HP6 : Hid ((row ++ [(x : Int)])[i]? = some (p : Int)) := by
            show _ = _
            rw [List.getElem?_append_left hil]
            exact hq.out.2.2.2.2.2
          have hlen : row.length ≤ n := by rw [HNN.out]; exact hq.out.2.2.2.1.len
          have n1 : ¬ D = g := by omega
          have n2 : ¬ g = D := by omega
          have HOT : Hid _ := hq.out.2.1
          have HGB : Hid _ := hq.out.2.2.1
          have hsz := hq.out.2.2.1.size
          have hdr2 : 0 ≤ dep nx p ∧ dep nx p < 2000000 := by have := HNN.out; omega
          generalize dep nx p = dpp at *
          obtain ⟨w5, hw5⟩ : ∃ w5, w5 = wr.setCell ⟨D, x, none⟩ (.int .i64 (dpp + 1)) := ⟨_, rfl⟩
          have hs5 : w5.heap.size = wr.heap.size := by rw [hw5]; simp [World.setCell]
          have HOK : Hid (w5.ownsRow w3.heap.size 3 1 (.slice (some ⟨g, 0, none⟩) row.length rc) row.length (row.map intV)) := by
            rw [hw5]
            exact owns_other hq.out.1 (by simp [Value.ownBlock]; omega) _
          have HOT5 : Hid (w5.ownsRow D 3 1 (slV D n) n ((dl.set x (dpp + 1)).map intV)) := by
            rw [hw5, List.map_set]
            exact (World.ownsRow.stored HOT.out x (.int .i64 (dpp + 1))).1
          have HGB5 : Hid (w3.grownBy w5 (some D)) := by rw [hw5]; exact grown_set HGB.out _ _
          have HA1 : Hid (Below w5.heap.size w5 (w5.alloc (.cells #[.int .i64 (x : Int)] 3))) := below_alloc (Below.refl _ _) _
          have HW5E : Hid (w5 = wr.setCell ⟨D, x, none⟩ (.int .i64 (dpp + 1))) := hw5
          have HS5 : Hid (w5.heap.size = wr.heap.size) := hs5
          have hsz5 : w3.heap.size ≤ w5.heap.size := by omega
          clear hq hpar hnew hx hy hdl hdp HI hop hdr HOT HGB hw5 hs5
          generalize hrl : row.length = rl at *
          have HRL : Hid _ := hrl
          clear hrl
          go_wp2_with (at_builtin; go_loud (rw [← HW5E.out]; refine wpList_append_own_at _ rfl _ _ 23 rfl w3.heap.size 3 i0 (.int .i64 0) 1 8 Tryz.underlying23 hi0 hz0 hz1 hz2 rfl (by decide) (.slice (some ⟨g, 0, none⟩) rl rc) rl (row.map intV) rfl (HOK.out.alloc _) ⟨wr.heap.size, 0, none⟩ 1 1 [intV x] rfl rfl ?c1 ?c2 ?c3 ?c4 ?c5 ?_))
          case c1 =>
            have h9 := cell_one_new w5 (intV x) 3
            rw [HS5.out] at h9
            exact h9
          case c2 => intro u hu; simp at hu; subst hu; rfl
          case c3 => unfold maxLen; omega
          case c4 => omega
          case c5 => simp; omega
          intro v2 w2 ho hg2 _ hat
          have HO2 : Hid (OwnI w2 w3.heap.size v2 (row ++ [(x : Int)])) := by
            show World.ownsRow _ _ _ _ _ _ _
            rw [List.length_append, HRL.out]
            simpa using ho
          have HB2 : Hid (w3.grownBy w2 (some D)) := grown_app (grown_below HGB5.out HA1.out) hg2 (fun q hqq => (HOK.out.lt q hqq).1)
          have HT2 : Hid (w2.ownsRow D 3 1 (slV D n) n ((dl.set x (dpp + 1)).map intV)) := owns_same (owns_below HOT5.out HA1.out) (fun q hqq => hg2.block q (by have := HA1.out.size; simp [Value.ownBlock] at hqq; omega) (fun e => by have := (HOK.out.lt q e.symm).1; simp [Value.ownBlock] at hqq; omega))
          clear ho hg2 hat
          go_wp2
          go_roundw
          case rel => exact ⟨k + 1, _, _, by first | rfl | (congr 1; omega), by omega, HO2.out, HT2.out, HB2.out, HW6.out, HD6.out, HP6.out⟩
          case measure => simp [intOf]; omega
        · obtain rfl : k = m := by omega
          have HW6 : Hid (Wk nx (fun _ => False) 0 (i + 1) 0 row) := hq.out.2.2.2.1.row hq.out.2.2.2.2.2 HMM.out
          have hil := (List.getElem?_eq_some_iff.1 hq.out.2.2.2.2.2).1
          clear HI
          go_wp2
          go_roundw
          case rel => exact ⟨i + 1, row, dl, by first | rfl | (congr 1; omega), by omega, by rw [HNN.out]; exact HW6.out.len, hq.out.1, hq.out.2.1, hq.out.2.2.1, HW6.out, hq.out.2.2.2.2.1⟩
          case measure => simp [intOf]; omega
    · have HX : Hid (dl = depL nx) := hq.out.2.2.2.2.done fun x => (hq.out.2.2.2.1.done HM.out (by omega) (fun _ _ h _ => h) x).trans (rch_over x)
      clear HU
      go_wp2
      go_ret
      refine ⟨D, rfl, by omega, ?_, HBF.out _ hq.out.2.2.1⟩
      rw [← HX.out]
      exact own_mono hq.out.2.1 (by omega)
end Go.Proofs.YtogjjmbcbnceoaaGreat
/- The program: whether all of some numbers are nodes. -/
namespace Go.Proofs.YtogjjmbcbnceoaaGreat
open Go.RowKit

set_option maxRecDepth 100000 in
theorem isNone_yes (x : Int) (n B : Nat) (a : Option Addr) (c : Nat) (w : World) (c0 : w.cell? ⟨B, 0, none⟩ = some (.slice a n c)) (h : ¬ (0 ≤ x ∧ x < (n : Int))) : Calls Tryz.prog 43 #[.int .i64 x, ptr B] w fun e w' => e = .returned (.bool true) ∧ w' = w := by
  by_cases h0 : x < 0
  · clear h
    go_enter Tryz.func43, Tryz.ntmps43
    go_wp2
    go_ret
    exact ⟨rfl, rfl⟩
  · have h1 : (n : Int) ≤ x := by omega
    clear h
    go_enter Tryz.func43, Tryz.ntmps43
    go_wp2
    go_ret
    exact ⟨ret_bool (by simp), rfl⟩
set_option maxRecDepth 100000 in
theorem isNone_no (x : Int) (n B : Nat) (a : Option Addr) (c : Nat) (w : World) (c0 : w.cell? ⟨B, 0, none⟩ = some (.slice a n c)) (h : 0 ≤ x ∧ x < (n : Int)) : Calls Tryz.prog 43 #[.int .i64 x, ptr B] w fun e w' => e = .returned (.bool false) ∧ w' = w := by
  have h0 : ¬ x < 0 := by omega
  have h1 : ¬ (n : Int) ≤ x := by omega
  clear h
  go_enter Tryz.func43, Tryz.ntmps43
  go_wp2
  go_ret
  exact ⟨ret_bool (by simp), rfl⟩
def InF (n : Nat) (l : List Int) (i : Nat) : Prop := ∀ j, j < i → 0 ≤ l.getD j 0 ∧ l.getD j 0 < (n : Int)
theorem InF.all {n : Nat} {l : List Int} (h : InF n l l.length) : AllIn n l := fun x hx => by
  obtain ⟨i, hi, rfl⟩ := List.getElem_of_mem hx
  have := h i hi
  rwa [getD_of hi] at this
set_option maxRecDepth 100000 in
set_option maxHeartbeats 1000000 in
theorem index_any (n B : Nat) (a : Option Addr) (c : Nat) (l : List Int) (lv : Value) (w : World) (c0 : w.cell? ⟨B, 0, none⟩ = some (.slice a n c)) (hl : IntsAt w lv l) :
    Calls Tryz.prog 84 #[lv, .func (.func 43) #[] #[ptr B]] w fun e w' => ∃ r : Int, e = .returned (.int .i64 r) ∧ (AllIn n l → r = -1) ∧ (¬ AllIn n l → 0 ≤ r) ∧ w' = w := by
  obtain ⟨la, lc, rfl, hll⟩ := hl.form
  have HI : Hid (∀ i, i < l.length → _) := fun i hi => hl.get (i := i) hi
  have HY : Hid (∀ x, ¬ (0 ≤ x ∧ x < (n : Int)) → _) := fun x h => isNone_yes x n B a c w c0 h
  have HN : Hid (∀ x, 0 ≤ x ∧ x < (n : Int) → _) := fun x h => isNone_no x n B a c w c0 h
  have HX : Hid (∀ i, i < l.length → ¬ (0 ≤ l.getD i 0 ∧ l.getD i 0 < (n : Int)) → ¬ AllIn n l) := fun i hi h1 h2 => h1 (h2 _ (getD_mem hi))
  have HA : Hid (InF n l l.length → AllIn n l) := fun h => h.all
  obtain ⟨m, hm⟩ : ∃ m, m = l.length := ⟨_, rfl⟩
  rw [← hm] at HI HX HA hll
  rw [← hm]
  clear hl hm
  go_enter Tryz.func84, Tryz.ntmps84
  go_wp2
  go_loopw [8] (fun vi wr => ∃ i : Nat, vi = .int .i64 i ∧ i ≤ m ∧ wr = w ∧ Hid (InF n l i)) (fun vi _ => m - (intOf vi).toNat)
  case atStart => exact ⟨0, rfl, by omega, by first | rfl | trivial, fun j hj => by omega⟩
  case round =>
    obtain ⟨i, rfl, hi, hw, hq⟩ := hrel
    subst hw
    by_cases hin : i < m
    · have hin' : (i : Int) < m := by omega
      obtain ⟨g, o, rfl, hg, cl⟩ := HI.out i hin
      by_cases hx : 0 ≤ l.getD i 0 ∧ l.getD i 0 < (n : Int)
      · have HS : Hid (InF n l (i + 1)) := fun j hj => by
          by_cases e : j = i
          · subst e; exact hx
          · exact hq.out j (by omega)
        have HC : Hid _ := HN.out _ hx
        clear HI HY HN HX HA hx
        generalize l.getD i 0 = x at *
        go_wp2_with (go_at_call 43; go_loud (refine Calls.mono (by exact HC.out) ?_; rintro e w1 ⟨rfl, rfl⟩))
        go_roundw
        case rel => exact ⟨i + 1, by first | rfl | (congr 1; omega), by omega, by first | rfl | trivial, HS.out⟩
        case measure => simp [intOf]; omega
      · have HC : Hid _ := HY.out _ hx
        have HXX : Hid _ := HX.out i hin hx
        clear HI HY HN HX HA hx
        generalize l.getD i 0 = x at *
        go_wp2_with (go_at_call 43; go_loud (refine Calls.mono (by exact HC.out) ?_; rintro e w1 ⟨rfl, rfl⟩))
        go_ret
        exact ⟨_, rfl, fun h => absurd h HXX.out, fun _ => by omega, rfl⟩
    · obtain rfl : i = m := by omega
      have HXX : Hid _ := HA.out hq.out
      clear HI HY HN HX HA
      go_wp2
      go_ret
      exact ⟨_, rfl, fun _ => rfl, fun h => absurd HXX.out h, rfl⟩
set_option maxRecDepth 100000 in
set_option maxHeartbeats 1000000 in
theorem contains_any (n B : Nat) (a : Option Addr) (c : Nat) (l : List Int) (lv : Value) (w : World) (c0 : w.cell? ⟨B, 0, none⟩ = some (.slice a n c)) (hl : IntsAt w lv l) :
    Calls Tryz.prog 44 #[lv, .func (.func 43) #[] #[ptr B]] w fun e w' => e = .returned (.bool (!dec (AllIn n l))) ∧ w' = w := by
  have HI : Hid _ := index_any n B a c l lv w c0 hl
  by_cases hA : AllIn n l
  · have HA : Hid _ := hA
    rw [dec_true hA]
    clear hA hl
    go_enter Tryz.func44, Tryz.ntmps44
    go_wp2_with (go_at_call 84; go_loud (refine Calls.mono (by exact HI.out) ?_; rintro e w1 ⟨r, rfl, h1, h2, rfl⟩; have hr := h1 HA.out; subst hr; clear h1 h2))
    go_ret
    exact ⟨rfl, rfl⟩
  · have HA : Hid _ := hA
    rw [dec_false hA]
    clear hA hl
    go_enter Tryz.func44, Tryz.ntmps44
    go_wp2_with (go_at_call 84; go_loud (refine Calls.mono (by exact HI.out) ?_; rintro e w1 ⟨r, rfl, h1, h2, rfl⟩; have hr := h2 HA.out; clear h1 h2))
    go_ret
    exact ⟨ret_bool (by simp), rfl⟩
end Go.Proofs.YtogjjmbcbnceoaaGreat
