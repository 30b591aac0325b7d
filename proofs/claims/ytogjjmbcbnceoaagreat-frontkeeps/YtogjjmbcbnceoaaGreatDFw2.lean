/- The program's closure that climbs. -/
import Derived.Test.YtogjjmbcbnceoaaGreatDFw1
import Derived.Test.YtogjjmbcbnceoaaGreatDAh
namespace Go.Proofs.YtogjjmbcbnceoaaGreat
open Go.RowKit

/-- Fronts as they grow: nothing that was there has turned but the list of rows. -/
structure FS (w0 w : World) (G n : Nat) (kvs : List Value) (rows : List (List Int)) : Prop where
  rows : RowsIn w G G n kvs rows
  new : ∀ kv ∈ kvs, ∀ g, kv.ownBlock = some g → w0.heap.size ≤ g
  keep : ∀ k, k < w0.heap.size → k ≠ G → w.heap[k]? = w0.heap[k]?
  size : w0.heap.size ≤ w.heap.size
  os : w.os = w0.os
  tape : w.tape = w0.tape
  output : w.output = w0.output
theorem FS.cell {w0 w : World} {G n : Nat} {kvs : List Value} {rows : List (List Int)} (h : FS w0 w G n kvs rows) {b j : Nat} {x : Value} (hb : b < w0.heap.size) (hG : b ≠ G) (hc : w0.cell? ⟨b, j, none⟩ = some x) : w.cell? ⟨b, j, none⟩ = some x :=
  (World.cell?_of_block (a := ⟨b, j, none⟩) (h.keep b hb hG)).trans hc
theorem FS.drewN {w0 w : World} {G n : Nat} {kvs : List Value} {rows : List (List Int)} (h : FS w0 w G n kvs rows) (k : Nat) : FS w0 (w.drewN k) G n kvs rows :=
  ⟨h.rows.below (below_drewN (Below.refl _ _) k), h.new, h.keep, h.size, h.os, h.tape, h.output⟩
theorem FS.push {w0 w w2 : World} {G n : Nat} {kvs : List Value} {rows : List (List Int)} (h : FS w0 w G n kvs rows) {t : Nat} {r : List Int} {kv v' : Value} {x : Int} (hr : rows[t]? = some r) (hk : kvs[t]? = some kv)
    (ho : w2.ownsRow G 3 1 v' (r.length + 1) (r.map intV ++ [intV x])) {wa : World} (hA : Below w.heap.size w wa) (hg : wa.grownBy w2 kv.ownBlock) (hat : v'.ownBlock = kv.ownBlock ∨ v'.ownBlock = some wa.heap.size) :
    FS w0 (w2.setCell ⟨G, t, none⟩ v') G n (kvs.set t v') (rows.modify t (· ++ [x])) := by
  obtain ⟨hP, _, _, hF, hZ⟩ := (h.rows.below hA).push hr hk ho hg hat
  have hkv : ∀ g, kv.ownBlock = some g → w0.heap.size ≤ g := h.new kv (List.mem_of_getElem? hk)
  refine ⟨hP, fun u hu g hgu => ?_, fun k hk1 hk2 => ?_, ?_, ?_, ?_, ?_⟩
  · rcases List.mem_or_eq_of_mem_set hu with h1 | h1
    · exact h.new u h1 g hgu
    · subst h1
      rcases hat with e | e
      · exact hkv g (e ▸ hgu)
      · rw [e] at hgu
        cases hgu
        have := h.size
        have := hA.size
        omega
  · rw [hF k (by have := h.size; have := hA.size; omega) hk2 (fun e => by have := hkv k e; omega), hA.block k (by have := h.size; omega)]
    exact h.keep k hk1 hk2
  · have := h.size
    have := hA.size
    omega
  · show w2.os = _
    rw [hg.os, hA.os, h.os]
  · show w2.tape = _
    rw [hg.tape, hA.tape, h.tape]
  · show w2.output = _
    rw [hg.output, hA.output, h.output]
set_option maxRecDepth 100000 in
set_option maxHeartbeats 2000000 in
theorem gather_any (nx : List (List Int)) (hmay : May nx) (hb1 : nx.length ≤ 2000000) (w0 w : World) (G tb fb b c k : Nat) (row : List Int) (tv : Value) (kvs : List Value) (rows : List (List Int)) (hG : G < w0.heap.size)
    (ht : w0.cell? ⟨tb, 0, none⟩ = some tv) (htb : tb < w0.heap.size) (htG : tb ≠ G) (hT : IntsAt w0 tv (treeL nx)) (hTG : ∀ g o n c, tv = .slice (some ⟨g, o, none⟩) n c → g ≠ G)
    (hf : w0.cell? ⟨fb, 0, none⟩ = some (.slice (some ⟨G, 0, none⟩) nx.length nx.length)) (hfb : fb < w0.heap.size) (hfG : fb ≠ G)
    (hS : FS w0 w G nx.length kvs rows) (hF : FrTo nx b (Fk nx row b k) rows) (hk : row[k]? = some (c : Int)) (hc : Rch nx noneS c) (he : (b : Int) ∈ nx.getD c []) :
    Calls Tryz.prog 40 #[.int .i64 (c : Int), .int .i64 (b : Int), ptr tb, ptr fb] w fun e w' => e = .returned (.tuple #[]) ∧ ∃ kvs' rows', FS w0 w' G nx.length kvs' rows' ∧ FrTo nx b (Fk nx row b (k + 1)) rows' := by
  have hbl := (hmay.lt he).2
  obtain ⟨ta, tc, rfl, htl⟩ := hT.form
  rw [treeL_len] at ht hT hTG
  have HT : Hid (∀ i, i < nx.length → ∃ g o, ta = some ⟨g, o, none⟩ ∧ g < w0.heap.size ∧ w0.cell? ⟨g, o + i, none⟩ = some (.int .i64 ((treeL nx).getD i 0))) := fun i hi => hT.get (i := i) (by rw [treeL_len]; exact hi)
  have HC : Hid (Ci nx b c (c : Int)) := Ci.start hmay hc he
  have HF0 : Hid (FrTo nx b (Cg nx row b k c (c : Int)) rows) := hF.congr fun x _ => (Cg.start x).symm
  have HS0 : Hid _ := hS
  have HMY : Hid _ := hmay
  have HK : Hid _ := hk
  obtain ⟨gt, ot, rfl, hgt, cb⟩ := HT.out b hbl
  have hgG := hTG _ _ _ _ rfl
  have HTT : Hid (∀ i, i < nx.length → w0.cell? ⟨gt, ot + i, none⟩ = some (.int .i64 ((treeL nx).getD i 0))) := fun i hi => by
    obtain ⟨g, o, e, _, h2⟩ := HT.out i hi
    cases e
    exact h2
  have HTB : Hid _ := tree_is hmay hbl
  obtain ⟨n, hnn⟩ : ∃ n, n = nx.length := ⟨_, rfl⟩
  have HNN : Hid _ := hnn
  rw [← hnn] at hbl hb1 ht hf HTT HS0
  rw [← hnn]
  clear hS hF hT hTG HT hmay hk hc he hnn htl
  have hbl' : (b : Int) < n := by omega
  go_enter Tryz.func40, Tryz.ntmps40
  go_wp2
  go_loopw [6] (fun va wr => ∃ (a : Int) (kvs : List Value) (rows : List (List Int)), va = .int .i64 a ∧ Hid (FS w0 wr G n kvs rows ∧ FrTo nx b (Cg nx row b k c a) rows ∧ Ci nx b c a)) (fun va _ => mA nx (intOf va))
  case atStart => exact ⟨(c : Int), kvs, rows, rfl, HS0.out, HF0.out, HC.out⟩
  case round =>
    obtain ⟨a, kvs, rows, rfl, hq⟩ := hrel
    clear HS0 HF0 HC
    have t0 : wr.cell? ⟨tb, 0, none⟩ = some (.slice (some ⟨gt, ot, none⟩) n tc) := hq.out.1.cell htb htG ht
    have t1 : wr.cell? ⟨gt, ot + b, none⟩ = some (.int .i64 ((treeL nx).getD b 0)) := hq.out.1.cell hgt hgG (HTT.out b hbl)
    by_cases hab : a = (treeL nx).getD b 0
    · have HX : Hid (FrTo nx b (Fk nx row b (k + 1)) rows) := (hab ▸ hq.out.2.1).top HMY.out (by rw [← HNN.out]; exact hbl) HK.out
      rw [← hab] at t1
      clear HTT hab
      go_wp2
      go_end0
      exact ⟨rfl, kvs, rows, hq.out.1, HX.out⟩
    · obtain ⟨p, rfl, hp, hrp, hpc, hs, hci⟩ := hq.out.2.2.node HMY.out hab (by rw [← HNN.out]; exact hbl)
      have hab' : ((p : Int) != (treeL nx).getD b 0) = true := bne_iff_ne.2 hab
      have hpn : p < n := by rw [HNN.out]; exact hp
      have hpn' : (p : Int) < n := by omega
      have f0 : wr.cell? ⟨fb, 0, none⟩ = some (.slice (some ⟨G, 0, none⟩) n n) := hq.out.1.cell hfb hfG hf
      have hrl' := hq.out.1.rows.rlen
      have hkl := hq.out.1.rows.klen
      have er : rows[p]? = some (rows[p]'(by omega)) := List.getElem?_eq_getElem _
      have ek : kvs[p]? = some (kvs[p]'(by omega)) := List.getElem?_eq_getElem _
      have hrw : rows.getD p [] = rows[p]'(by omega) := getD_of (by omega) _
      have hends := hq.out.2.1.ends hp
      have hsm := hq.out.2.1.small hp
      rw [hrw] at hends hsm
      generalize rows[p]'(by omega) = rw at er hends hsm
      generalize kvs[p]'(by omega) = kv at ek
      have hok0 := (hq.out.1.rows.kid p rw kv er ek).1
      have cG := hq.out.1.rows.cellG ek
      have fG := hq.out.1.rows.fzG p
      have HE : Hid (∀ q, Calls Tryz.prog 41 #[kv, .int .i64 (b : Int)] (wr.drewN q) fun e w' => e = .returned (.bool (dec (Cg nx row b k c (p : Int) p))) ∧ w' = wr.drewN q) := fun q => by
        rw [← hends]
        exact ends_any rw b kv (wr.drewN q) ((OwnI.at' hok0 (by omega)).below (below_drewN (Below.refl _ _) q))
      generalize htbb : (treeL nx).getD b 0 = tbb at t1 hab'
      clear htbb
      by_cases hd : Cg nx row b k c (p : Int) p
      · have HX : Hid (FrTo nx b (Fk nx row b (k + 1)) rows) := hq.out.2.1.met HK.out hrp hd
        have HE2 : Hid (∀ q, Calls Tryz.prog 41 #[kv, .int .i64 (b : Int)] (wr.drewN q) fun e w' => e = .returned (.bool true) ∧ w' = wr.drewN q) := by
          have := HE.out
          rw [dec_true hd] at this
          exact this
        clear HTT HE hends hd hok0 er ek hab hs hci
        go_wp2_with (go_at_call 41; go_loud (refine Calls.mono (by exact HE2.out 0) ?_; rintro e w1 ⟨rfl, rfl⟩))
        go_end0
        exact ⟨rfl, kvs, rows, by first | exact hq.out.1 | exact hq.out.1.drewN _, HX.out⟩
      · have HX : Hid (FrTo nx b (Cg nx row b k c ((treeL nx).getD p 0)) (rows.modify p (· ++ [(b : Int)]))) := hq.out.2.1.climb HMY.out hp hpc hs hd
        have HCI : Hid _ := hci
        have HML : Hid (mA nx ((treeL nx).getD p 0) < mA nx (p : Int)) := mA_lt HMY.out hp
        have t2 : w0.cell? ⟨gt, ot + p, none⟩ = some (.int .i64 ((treeL nx).getD p 0)) := HTT.out p hpn
        have HE2 : Hid (∀ q, Calls Tryz.prog 41 #[kv, .int .i64 (b : Int)] (wr.drewN q) fun e w' => e = .returned (.bool false) ∧ w' = wr.drewN q) := by
          have := HE.out
          rw [dec_false hd] at this
          exact this
        clear HTT HE hends hd hs hci
        generalize (treeL nx).getD p 0 = tp at *
        have hsz : G < wr.heap.size := hq.out.1.rows.ltG.2
        have HA1 : Hid (Below wr.heap.size wr ((wr.alloc (.cells #[.int .i64 (b : Int)] 3)).drew)) := below_drew (below_alloc (Below.refl _ _) _)
        generalize hrl0 : rw.length = rl at *
        have hok : wr.ownsRow G 3 1 kv rl (rw.map intV) := by
          have h9 : wr.ownsRow G 3 1 kv rw.length (rw.map intV) := hok0
          rw [hrl0] at h9
          exact h9
        obtain ⟨g2, cc2, w2, hrun, ho, hg2, hat⟩ := app_one ((wr.alloc (.cells #[.int .i64 (b : Int)] 3)).drew) 23 G kv rw b wr.heap.size rl hrl0 (owns_below hok HA1.out) (cell_lit1 wr b) (by omega) (by simp; omega)
        have hnw := hq.out.1.new kv (List.mem_of_getElem? ek)
        have hkG := (hq.out.1.rows.kid p rw kv er ek).2
        have hsz0 := hq.out.1.size
        have far : ∀ (bb j : Nat) (x : Value), wr.cell? ⟨bb, j, none⟩ = some x → bb < w0.heap.size → w2.cell? ⟨bb, j, none⟩ = some x := fun bb j x hx hbb => by
          have hne : some bb ≠ kv.ownBlock := fun e => by have := hnw bb e.symm; omega
          have e1 : w2.heap[bb]? = ((wr.alloc (.cells #[.int .i64 (b : Int)] 3)).drew).heap[bb]? := hg2.block bb (by have := HA1.out.size; omega) hne
          exact (World.cell?_of_block (a := ⟨bb, j, none⟩) e1).trans ((HA1.out.cell (p := ⟨bb, j, none⟩) (show bb < wr.heap.size by omega)).trans hx)
        have hrun2 : (Builtin.append_ #[23, 23] 23 #[kv, .slice (some ⟨wr.heap.size, 0, none⟩) 1 1]).run Tryz.prog ((wr.drew).alloc (.cells #[.int .i64 (b : Int)] 3)) = .ok (.slice (some ⟨g2, 0, none⟩) (rl + 1) cc2) w2 := hrun
        have d1 := far _ _ _ f0 hfb
        have d2 := far _ _ _ cG hG
        have d3 := far _ _ _ t0 htb
        have d4 := far _ _ _ (hq.out.1.cell hgt hgG t2) hgt
        have d5 : w2.frozen? ⟨G, p, none⟩ = false := by
          have hne : some G ≠ kv.ownBlock := fun e => hkG e.symm
          have e1 : w2.heap[G]? = ((wr.alloc (.cells #[.int .i64 (b : Int)] 3)).drew).heap[G]? := hg2.block G (by have := HA1.out.size; omega) hne
          exact (World.frozen?_of_block (a := ⟨G, p, none⟩) e1).trans ((HA1.out.frozen (p := ⟨G, p, none⟩) (show G < wr.heap.size by omega)).trans fG)
        have HP2 : Hid _ := hq.out.1.push er ek (by rw [hrl0]; exact ho) HA1.out hg2 hat
        have n1 : ¬ G = tb := fun e => htG e.symm
        have n2 : ¬ G = gt := fun e => hgG e.symm
        have n3 : ¬ tb = G := htG
        have n4 : ¬ gt = G := hgG
        clear hok0 hrl0 er ek hrl' hkl hok ho hg2 hat far HA1 hq t2 hab hkG hnw hrw hrp hpc
        go_wp2_with (go_at_call 41; go_loud (refine Calls.mono (by exact HE2.out 0) ?_; rintro e w1 ⟨rfl, rfl⟩))
        refine wp_region_late (fun w' => w'.cell? ⟨fb, 0, none⟩ = some (.slice (some ⟨G, 0, none⟩) n n) ∧ w'.cell? ⟨G, p, none⟩ = some kv) (fun j => j == 10) (by kernel_rfl) (by go_keep) (fun hHeld => ?_)
        refine wpAnyL_take 0 (v := ?_) rfl (by kernel_rfl) (by kernel_rfl) (by kernel_rfl) (by kernel_rfl) (fun _ _ _ h => h) hHeld (Or.inl ⟨by rfl, ?_⟩) ?_
        rotate_left 1
        · (intro w hSw; (try dsimp only at hSw); first | (go_simp; done) | (go_simp; with_reducible rfl))
        simp only [Act.put, List.setIfInBounds_toArray]
        refine wpAnyL_take 1 (v := ?_) rfl (by kernel_rfl) (by kernel_rfl) (by kernel_rfl) (by kernel_rfl) (fun _ _ _ h => h) hHeld (Or.inl ⟨by rfl, ?_⟩) ?_
        rotate_left 1
        · (intro w hSw; (try dsimp only at hSw); first | (go_simp; done) | (go_simp; with_reducible rfl))
        simp only [Act.put]
        refine wpAnyL_take 2 (v := ?_) rfl (by kernel_rfl) (by kernel_rfl) (by kernel_rfl) (by kernel_rfl) (fun _ _ _ h => h) hHeld (Or.inl ⟨by rfl, ?_⟩) ?_
        rotate_left 1
        · (intro w hSw; (try dsimp only at hSw); first | (go_simp; done) | (go_simp; with_reducible rfl))
        simp only [Act.put]
        refine wpAnyL_take 3 (v := ?_) rfl (by kernel_rfl) (by kernel_rfl) (by kernel_rfl) (by kernel_rfl) (fun _ _ _ h => h) hHeld (Or.inl ⟨by rfl, ?_⟩) ?_
        rotate_left 1
        · (intro w hSw; (try dsimp only at hSw); first | (go_simp; done) | (go_simp; with_reducible rfl))
        simp only [Act.put]
        refine wpAnyL_take 4 (v := ?_) rfl (by kernel_rfl) (by kernel_rfl) (by kernel_rfl) (by kernel_rfl) (fun _ _ _ h => h) hHeld (Or.inl ⟨by rfl, ?_⟩) ?_
        rotate_left 1
        · (intro w hSw; (try dsimp only at hSw); first | (go_simp; done) | (go_simp; with_reducible rfl))
        simp only [Act.put]
        refine wpAnyL_take 5 (v := ?_) rfl (by kernel_rfl) (by kernel_rfl) (by kernel_rfl) (by kernel_rfl) (fun _ _ _ h => h) hHeld (Or.inl ⟨by rfl, ?_⟩) ?_
        rotate_left 1
        · (intro w hSw; (try dsimp only at hSw); first | (go_simp; done) | (go_simp; with_reducible rfl))
        simp only [Act.put]
        refine wpAnyL_take 6 (v := ?_) rfl (by kernel_rfl) (by kernel_rfl) (by kernel_rfl) (by kernel_rfl) (fun _ _ _ h => h) hHeld (Or.inl ⟨by rfl, ?_⟩) ?_
        rotate_left 1
        · (intro w hSw; (try dsimp only at hSw); first | (go_simp; done) | (go_simp; with_reducible rfl))
        simp only [Act.put]
        refine wpAnyL_one 7 (by kernel_rfl) rfl (fun K hK0 => ?_)
        have hK : Shut _ := hK0
        clear hK0
        go_simp
        refine hK.out _ _ (fun _ => by go_keep) ?_
        clear hK K
        refine wpAnyL_one 8 (by kernel_rfl) rfl (fun K hK0 => ?_)
        have hK : Shut _ := hK0
        clear hK0
        refine step_append_run rfl (.tmp 32) (.tmp 34) 23 rfl kv (.slice (some ⟨wr.heap.size, 0, none⟩) 1 1) _ _ ?e1 ?e2 hrun ?_
        case e1 => simp [Act.eval]
        case e2 => simp [Act.eval]
        refine hK.out _ _ (fun _ => ⟨d1, d2⟩) ?_
        clear hK K
        simp only [Act.put]
        refine wpAnyL_one 9 (by kernel_rfl) rfl (fun K hK0 => ?_)
        have hK : Shut _ := hK0
        clear hK0
        go_simp
        refine hK.out _ _ (fun _ => ⟨d1, d2⟩) ?_
        clear hK K
        refine wpAnyL_one 10 (by kernel_rfl) rfl (fun K hK0 => ?_)
        have hK : Shut _ := hK0
        clear hK0
        go_simp
        refine hK.out _ _ (fun h => by cases h) ?_
        clear hK K
        refine wpAnyL_done (by kernel_rfl) ?_
        go_wp2
        go_roundw
        case rel => exact ⟨tp, _, _, rfl, HP2.out, HX.out, HCI.out⟩
        case measure => simp only [intOf]; exact HML.out
end Go.Proofs.YtogjjmbcbnceoaaGreat
