/- The program's edges, the other way round. -/
import Derived.Test.YtogjjmbcbnceoaaGreatDAhPM
import Derived.Test.YtogjjmbcbnceoaaGreatDLate
namespace Go.Proofs.YtogjjmbcbnceoaaGreat
open Go.RowKit Lt

theorem app_one (w : World) (ty : TypeId) (base : Nat) (v : Value) (xs : List Int) (x : Int) (G rl : Nat) (hrl : xs.length = rl) (hown : w.ownsRow base 3 1 v rl (xs.map intV)) (hc : w.cell? ⟨G, 0, none⟩ = some (.int .i64 x)) (hl : rl ≤ 10000000000000) (hb : base ≤ w.heap.size) :
    ∃ g2 cc2 w', (Builtin.append_ #[23, 23] ty #[v, .slice (some ⟨G, 0, none⟩) 1 1]).run Tryz.prog w = .ok (.slice (some ⟨g2, 0, none⟩) (rl + 1) cc2) w' ∧ w'.ownsRow base 3 1 (.slice (some ⟨g2, 0, none⟩) (rl + 1) cc2) (rl + 1) (xs.map intV ++ [intV x]) ∧ w.grownBy w' v.ownBlock ∧ ((Value.slice (some ⟨g2, 0, none⟩) (rl + 1) cc2).ownBlock = v.ownBlock ∨ (Value.slice (some ⟨g2, 0, none⟩) (rl + 1) cc2).ownBlock = some w.heap.size) := by
  obtain ⟨i0, hi0, hz0, hz1, hz2⟩ := info_parts (P := Tryz.prog) infoI
  obtain ⟨v', w', h1, h2, h3, _, h5⟩ := run_append_own_at (P := Tryz.prog) w base 23 ty 3 i0 (.int .i64 0) 1 8 Tryz.underlying23 hi0 hz0 hz1 hz2 rfl (by decide) v rl (xs.map intV) hown ⟨G, 0, none⟩ 1 1 [intV x] rfl (fun j u hj => by
    rcases j with _ | j
    · simp at hj; subst hj; rw [Addr.add_lit]; exact hc
    · simp at hj) (fun u hu => by simp at hu; subst hu; rfl) (by unfold maxLen; omega) (by omega) hb
  obtain ⟨g2, cc2, rfl, _, _, _, _⟩ := own_form h2
  exact ⟨g2, cc2, w', h1, h2, h3, h5⟩
theorem step_append_run {P : Program} {ops : Array Oper} {o : Oper} {a : Act} {w : World} {K : Act → World → Prop} {Q : Exit → Act → World → Prop} {E : Prop}
    (hg : o.guard = none) (s x : Operand) (t : TypeId) (hop : o.op = Op.call { callee := Callee.builtin Builtin.append, args := #[s, x], argTypes := #[t, t] })
    (v u v' : Value) (w' : World) (hs : a.eval s = v) (hx : a.eval x = u) (hrun : (Builtin.append_ #[t, t] o.type #[v, u]).run P w = .ok v' w') (hK : K (a.put o.dst v') w') :
    if Region.wanted o (yielded ops a.tmps) = true then Oper.wp P o a w K Q else E := by
  have hw : Region.wanted o (yielded ops a.tmps) = true := by simp [Region.wanted, hg]
  rw [if_pos hw]
  unfold Oper.wp
  simp [execOp, hop, resolve, invoke, builtin, hs, hx, hrun, Result.andThen]
  exact hK
theorem cell_lit1 (w : World) (x : Int) : (w.alloc (.cells #[.int .i64 x] 3)).cell? ⟨w.heap.size, 0, none⟩ = some (.int .i64 x) := by
  have := cell_one_new w (intV x) 3 0 (intV x) rfl
  rw [Addr.add_lit] at this
  exact this
set_option maxRecDepth 100000 in
set_option maxHeartbeats 2000000 in
theorem ahead_any' (nx : List (List Int)) (ns fs ps : List Int) (v nv fv pv : Value) (w : World) (hN : NetAt w v nx) (hn : IntsAt w nv ns) (hp : IntsAt w pv ps) (D : Done nx ns fs ps) (hmay : May nx) (hb1 : nx.length ≤ 2000000) (hb2 : ∀ r ∈ nx, r.length ≤ 2000000) :
    Calls Tryz.prog 52 #[.agg #[nv, fv, pv], v] w fun e w' => ∃ kvs rows, e = .returned (.slice (some ⟨w.heap.size + 1, 0, none⟩) ns.length ns.length) ∧ RowsIn w' (w.heap.size + 1) (w.heap.size + 1) ns.length kvs rows ∧ AhTo nx ns ns.length 0 rows ∧ (∀ r ∈ rows, r.length ≤ 4000000000000) ∧ Below (w.heap.size + 1) (w.alloc (.cells #[nv, fv, pv] 46)) w' := by
  obtain ⟨W1, hW1⟩ : ∃ W1, W1 = w.alloc (.cells #[nv, fv, pv] 46) := ⟨_, rfl⟩
  have hs1 : W1.heap.size = w.heap.size + 1 := by rw [hW1]; simp
  have hB1 : Below w.heap.size w W1 := by rw [hW1]; exact below_alloc (Below.refl _ _) _
  have hN1 := hN.below hB1
  have hn1 := hn.below hB1
  have hp1 := hp.below hB1
  have hx1 : Box W1 w.heap.size [nv, fv, pv] := by rw [hW1]; exact Box.new w [nv, fv, pv] 46
  clear hN hn hp hB1
  obtain ⟨a, c, rfl, hll⟩ := hN1.form
  obtain ⟨na, nc, rfl, hnl⟩ := hn1.form
  obtain ⟨pa, pc, rfl, hpl⟩ := hp1.form
  have hm : ns.length ≤ nx.length := by
    have : ∀ i, i < ns.length → ∃ v : Nat, ns[i]? = some (v : Int) ∧ v < nx.length := fun i hi => by obtain ⟨v, h1, h2, _⟩ := D.nod i hi; exact ⟨v, h1, h2⟩
    have := inj_le nx.length ns.length (fun i => (ns.getD i 0).toNat) (fun i hi => by obtain ⟨v, h1, h2⟩ := this i hi; rw [List.getD_eq_getElem?_getD, h1]; simpa using h2) (fun i j hi hj he => by
      obtain ⟨v, h1, h2⟩ := this i hi
      obtain ⟨u, h3, h4⟩ := this j hj
      rw [List.getD_eq_getElem?_getD, List.getD_eq_getElem?_getD, h1, h3] at he
      simp at he
      exact D.inj h1 (by rw [h3, he]))
    exact this
  have HN : Hid (∀ i, i < nx.length → _) := fun i hi => hN1.get (i := i) hi
  have HS : Hid (∀ i, i < ns.length → _) := fun i hi => hn1.get (i := i) hi
  have HP : Hid (∀ i, i < ps.length → _) := fun i hi => hp1.get (i := i) hi
  have HD : Hid _ := D
  have HMY : Hid (∀ r ∈ nx, ∀ x ∈ r, 0 ≤ x ∧ x < (nx.length : Int)) := hmay.2
  clear hmay
  have HX : Hid _ := hx1
  have HB2 : Hid _ := hb2
  have HLP : Hid (ps.length = nx.length) := D.lp
  have HST : Hid (AhTo nx ns 0 0 (List.replicate ns.length [])) := AhTo.start nx ns
  have c00 := hx1.cell 0 _ rfl
  have hrn0 := rows_new2 W1 (w.heap.size + 1) ns.length (by omega) (by omega)
  rw [hs1] at hrn0
  have HRN : Hid _ := hrn0
  clear hrn0
  obtain ⟨m, hmm⟩ : ∃ m, m = ns.length := ⟨_, rfl⟩
  have HMM : Hid _ := hmm
  rw [← hmm] at HS hnl hm HRN HST c00 hW1
  rw [← hmm]
  have hmk := run_make_row' (P := Tryz.prog) 22 23 (.slice none 0 0) 24 Tryz.underlying22 infoS rfl .i64 .i64 m (by omega) (by omega)
  have HBS : Hid (Below (w.heap.size + 1) W1 (W1.alloc (.cells (madeCells #[.slice none 0 0] m) 23))) := by
    have := below_alloc (Below.refl _ W1) (.cells (madeCells #[.slice none 0 0] m) 23)
    rw [hs1] at this
    exact this
  have HBX : Hid (∀ W : World, Below (w.heap.size + 1) W1 W → W.cell? ⟨w.heap.size, 2, none⟩ = some (.slice pa ps.length pc)) := fun W hW => (hW.cell (p := ⟨w.heap.size, 2, none⟩) (show w.heap.size < w.heap.size + 1 by omega)).trans (hx1.cell 2 _ rfl)
  rw [hs1] at HN HS HP
  have HE : Hid (∀ W, Below (w.heap.size + 1) W1 W → Below (w.heap.size + 1) (w.alloc (.cells #[.slice na m nc, fv, .slice pa ps.length pc] 46)) W) := fun W h => by rw [← hW1]; exact h
  have HW1 : Hid _ := hW1
  obtain ⟨M, hM⟩ : ∃ M, M = 2000000 := ⟨_, rfl⟩
  have HMX : Hid _ := hM
  have HIM : Hid (∀ i, i < m → i * M + 2000000 ≤ 4000000000000) := fun i hi => by
    have h9 : (i + 1) * M ≤ m * M := Nat.mul_le_mul_right _ (by omega)
    rw [Nat.succ_mul, hM] at h9
    rw [hM]
    omega
  clear hM
  clear hN1 hn1 hp1 hx1 D hb2 hmm hW1 HX
  go_enter Tryz.func52, Tryz.ntmps52
  go_wp2
  clear hmk
  go_loopw [17] (fun vi wr => ∃ (i : Nat) (kvs : List Value) (rows : List (List Int)), vi = .int .i64 i ∧ i ≤ m ∧ Hid (Below (w.heap.size + 1) W1 wr ∧ RowsIn wr (w.heap.size + 1) (w.heap.size + 1) m kvs rows ∧ AhTo nx ns i 0 rows ∧ lensA rows ≤ i * M)) (fun vi _ => m - (intOf vi).toNat)
  case atStart => rw [← HW1.out]; exact ⟨0, _, _, rfl, by omega, HBS.out, HRN.out, HST.out, by rw [lens_rep]; exact Nat.zero_le _⟩
  case round =>
    obtain ⟨i, kvs, rows, rfl, hi, hq⟩ := hrel
    clear HBS HRN HST c00
    generalize wr = wo at *
    by_cases hin : i < m
    · have hin' : (i : Int) < m := by omega
      obtain ⟨x, hx, hxn, _⟩ := HD.out.nod i (by rw [← HMM.out]; exact hin)
      have hxn' : (x : Int) < nx.length := by omega
      obtain ⟨gs, os, rfl, hgs, cs⟩ := HS.out i hin
      have ex : ns.getD i 0 = (x : Int) := by rw [List.getD_eq_getElem?_getD, hx]; rfl
      rw [ex] at cs
      obtain ⟨g, o, ra, rc, rfl, hg, c0, hI⟩ := HN.out x hxn
      have cs' : wo.cell? ⟨gs, os + i, none⟩ = some (.int .i64 (x : Int)) := (hq.out.1.cell (p := ⟨gs, os + i, none⟩) hgs).trans cs
      have c0' : wo.cell? ⟨g, o + x, none⟩ = some (.slice ra (nx.getD x []).length rc) := (hq.out.1.cell (p := ⟨g, o + x, none⟩) hg).trans c0
      have HXX : Hid _ := hx
      have HR : Hid (∀ k, k < (nx.getD x []).length → _) := fun k hk => hI.get (i := k) hk
      have hrl : (nx.getD x []).length ≤ 2000000 := HB2.out _ (by rw [getD_of hxn]; exact List.getElem_mem hxn)
      clear HN HS hI ex cs c0 hx
      obtain ⟨rr, hrr⟩ : ∃ rr, rr = nx.getD x [] := ⟨_, rfl⟩
      have HRR : Hid _ := hrr
      rw [← hrr] at HR hrl c0'
      obtain ⟨n, hnn⟩ : ∃ n, n = rr.length := ⟨_, rfl⟩
      have HNN : Hid _ := hnn
      rw [← hnn] at HR hrl c0'
      clear hrr hnn
      have HE1 : Hid (∀ k, k < n → ∃ u z : Nat, rr.getD k 0 = (u : Int) ∧ u < ps.length ∧ ps.getD u 0 = (z : Int) ∧ z < m ∧ ns[z]? = some (u : Int) ∧ (nx.getD x [])[k]? = some (u : Int)) := fun k hk => by
        have hk' : k < rr.length := by rw [← HNN.out]; exact hk
        obtain ⟨y, hy⟩ : ∃ y, rr[k]? = some y := ⟨_, List.getElem?_eq_getElem hk'⟩
        have hy2 : (nx.getD x [])[k]? = some y := by rw [← HRR.out]; exact hy
        have hy0 : 0 ≤ y ∧ y < nx.length := by
          have h9 := HD.out.all
          have hmem : y ∈ nx.getD x [] := List.mem_of_getElem? hy2
          exact HMY.out _ (by rw [getD_of hxn]; exact List.getElem_mem hxn) y hmem
        obtain ⟨u, hu⟩ : ∃ u : Nat, y = (u : Int) := Int.eq_ofNat_of_zero_le hy0.1
        subst hu
        obtain ⟨z, h1, h2, h3⟩ := HD.out.all i x u HXX.out (List.mem_of_getElem? hy2)
        have hul : u < ps.length := by rw [HLP.out]; exact Int.ofNat_lt.1 hy0.2
        have k1 : rr.getD k 0 = (u : Int) := by simp [List.getD_eq_getElem?_getD, hy]
        have k2 : ps.getD u 0 = (z : Int) := by simp [List.getD_eq_getElem?_getD, h2]
        have k3 : z < m := by have := HMM.out; omega
        exact ⟨u, z, k1, hul, k2, k3, h3, hy2⟩
      have HA0 : Hid _ := hq.out.2.2.1
      have HL0 : Hid _ := hq.out.2.2.2
      have HB0 : Hid _ := hq.out.1
      have HR0 : Hid _ := hq.out.2.1
      clear hq
      go_wp2
      go_loopw [27] (fun vk wr => ∃ (k : Nat) (kvs : List Value) (rows : List (List Int)), vk = .int .i64 k ∧ k ≤ n ∧ Hid (Below (w.heap.size + 1) W1 wr ∧ RowsIn wr (w.heap.size + 1) (w.heap.size + 1) m kvs rows ∧ AhTo nx ns i k rows ∧ lensA rows ≤ i * M + k)) (fun vk _ => n - (intOf vk).toNat)
      case atStart => exact ⟨0, kvs, rows, rfl, by omega, HB0.out, HR0.out, HA0.out, HL0.out⟩
      case round =>
        obtain ⟨k, kvs, rows, rfl, hk, hq⟩ := hrel
        clear HA0 HL0 HB0 HR0
        by_cases hkn : k < n
        · have hkn' : (k : Int) < n := by omega
          obtain ⟨u, z, eu, hup, ez, hzm, hzu, hku⟩ := HE1.out k hkn
          obtain ⟨gr, or, rfl, hgr, cr⟩ := HR.out k hkn
          rw [eu] at cr
          obtain ⟨gp, op, rfl, hgp, cp⟩ := HP.out u hup
          rw [ez] at cp
          have hup' : (u : Int) < ps.length := by omega
          have hzm' : (z : Int) < m := by omega
          have cr' : wr.cell? ⟨gr, or + k, none⟩ = some (.int .i64 (u : Int)) := (hq.out.1.cell (p := ⟨gr, or + k, none⟩) (show gr < w.heap.size + 1 by omega)).trans cr
          have cp' : wr.cell? ⟨gp, op + u, none⟩ = some (.int .i64 (z : Int)) := (hq.out.1.cell (p := ⟨gp, op + u, none⟩) hgp).trans cp
          have cb : wr.cell? ⟨w.heap.size, 2, none⟩ = some (.slice (some ⟨gp, op, none⟩) ps.length pc) := HBX.out _ hq.out.1
          have hrl' := hq.out.2.1.rlen
          have hkl := hq.out.2.1.klen
          have er : rows[z]? = some (rows[z]'(by omega)) := List.getElem?_eq_getElem _
          have ek : kvs[z]? = some (kvs[z]'(by omega)) := List.getElem?_eq_getElem _
          have hrm : rows[z]'(by omega) ∈ rows := List.getElem_mem _
          generalize rows[z]'(by omega) = rw at er hrm
          generalize kvs[z]'(by omega) = kv at ek
          have hrw0 : rw.length ≤ 4000000000000 := by have := lens_mem hrm; have := hq.out.2.2.2; have := HIM.out i hin; omega
          have cG := hq.out.2.1.cellG ek
          have HX1 : Hid (AhTo nx ns i (k + 1) (rows.modify z (· ++ [(i : Int)]))) := hq.out.2.2.1.step HD.out HXX.out hku hzu
          have HL1 : Hid (lensA (rows.modify z (· ++ [(i : Int)])) ≤ i * M + (k + 1)) := by
            show _ ≤ _
            rw [lens_modify _ _ _ (by omega)]
            have := hq.out.2.2.2
            omega
          have hsz : w.heap.size + 1 < wr.heap.size := hq.out.2.1.ltG.2
          have HA1 : Hid (Below wr.heap.size wr ((wr.alloc (.cells #[.int .i64 (i : Int)] 3)).drew)) := below_drew (below_alloc (Below.refl _ _) _)
          have hok0 := (hq.out.2.1.kid z rw _ er ek).1
          have hlt0 := hok0.lt
          generalize hrl0 : rw.length = rl at *
          have hok : wr.ownsRow (w.heap.size + 1) 3 1 kv rl (rw.map intV) := by
            have h9 : wr.ownsRow (w.heap.size + 1) 3 1 kv rw.length (rw.map intV) := hok0
            rw [hrl0] at h9
            exact h9
          obtain ⟨g2, cc2, w2, hrun, ho, hg2, hat⟩ := app_one ((wr.alloc (.cells #[.int .i64 (i : Int)] 3)).drew) 23 (w.heap.size + 1) kv rw i wr.heap.size rl hrl0 (owns_below hok HA1.out) (cell_lit1 wr i) (by omega) (by simp; omega)
          have far : ∀ (b j : Nat) (x : Value), wr.cell? ⟨b, j, none⟩ = some x → b < w.heap.size + 2 → w2.cell? ⟨b, j, none⟩ = some x := fun b j x hx hb => by
            have hne : some b ≠ kv.ownBlock := fun e => by
              have h9 := (hq.out.2.1.kid z rw _ er ek)
              have h8 := (hok.lt b e.symm).1
              have h7 : b = w.heap.size + 1 := by omega
              subst h7
              exact h9.2 e.symm
            have e1 : w2.heap[b]? = ((wr.alloc (.cells #[.int .i64 (i : Int)] 3)).drew).heap[b]? := hg2.block b (by have := HA1.out.size; omega) hne
            exact (World.cell?_of_block (a := ⟨b, j, none⟩) e1).trans ((HA1.out.cell (p := ⟨b, j, none⟩) (show b < wr.heap.size by omega)).trans hx)
          have hrun2 : (Builtin.append_ #[23, 23] 23 #[kv, .slice (some ⟨wr.heap.size, 0, none⟩) 1 1]).run Tryz.prog ((wr.drew).alloc (.cells #[.int .i64 (i : Int)] 3)) = .ok (.slice (some ⟨g2, 0, none⟩) (rl + 1) cc2) w2 := hrun
          have d1 := far _ _ _ cp' (by omega)
          have d2 := far _ _ _ cb (by omega)
          have d3 := far _ _ _ cG (by omega)
          obtain ⟨hP, q3, q4, hF, hZ⟩ := (hq.out.2.1.below HA1.out).push er ek (by rw [hrl0]; exact ho) hg2 (by simpa using hat)
          have HP2 : Hid _ := hP
          have HFR : Hid (Below (w.heap.size + 1) W1 (w2.setCell ⟨w.heap.size + 1, z, none⟩ (.slice (some ⟨g2, 0, none⟩) (rl + 1) cc2))) := by
            have t1 : Below (w.heap.size + 1) W1 ((wr.alloc (.cells #[.int .i64 (i : Int)] 3)).drew) := hq.out.1.trans (HA1.out.mono (by omega))
            have t2 : Below (w.heap.size + 1) W1 w2 := ⟨hg2.os.trans t1.os, hg2.tape.trans t1.tape, hg2.output.trans t1.output, Nat.le_trans t1.size hg2.size, fun q hq9 => (hg2.block q (by have := t1.size; omega) (fun e => by have := (hok.lt q e.symm).1; omega)).trans (t1.block q hq9)⟩
            exact Below.setCell (p := ⟨w.heap.size + 1, z, none⟩) t2 (Nat.le_refl _) _
          have hgne : ¬ w.heap.size + 1 = gp := by omega
          clear hok0 hlt0 hrl0 er ek hrm hrl' hkl hok ho hg2 hat far hP hF hZ HA1 cr cp eu ez hzu hku hq HE1 HR HP HBX
          go_wp2
          refine wp_region_late (fun w' => w'.cell? ⟨w.heap.size, 2, none⟩ = some (.slice (some ⟨gp, op, none⟩) ps.length pc) ∧ w'.cell? ⟨gp, op + u, none⟩ = some (.int .i64 (z : Int)) ∧ w'.cell? ⟨w.heap.size + 1, z, none⟩ = some kv) (fun j => j == 18) (by kernel_rfl) (by go_keep) (fun hHeld => ?_)
          refine wpAnyL_take 0 (v := ?_) rfl (by kernel_rfl) (by kernel_rfl) (by kernel_rfl) (by kernel_rfl) (fun _ _ _ h => h) hHeld (Or.inl ⟨by rfl, ?_⟩) ?_
          rotate_left 1
          · (intro w hSw; (try dsimp only at hSw); first | (go_simp; done) | (go_simp; with_reducible rfl))
          simp only [Act.put, List.setIfInBounds_toArray]
          refine wpAnyL_take 1 (v := ?_) rfl (by kernel_rfl) (by kernel_rfl) (by kernel_rfl) (by kernel_rfl) (fun _ _ _ h => h) hHeld (Or.inl ⟨by rfl, ?_⟩) ?_
          rotate_left 1
          · (intro w hSw; (try dsimp only at hSw); first | (go_simp; done) | (go_simp; with_reducible rfl))
          simp only [Act.put]
          refine wpAnyL_take 2 (v := ?_) rfl (by kernel_rfl) (by kernel_rfl) (by kernel_rfl) (by kernel_rfl) (fun _ _ _ h => h) hHeld (Or.inl ⟨by rfl, ?_⟩) ?_
          rotate_left 1
          · (intro w hSw; (try dsimp only at hSw); first | (go_simp; done) | (go_simp; with_reducible rfl))
          simp only [Act.put]
          refine wpAnyL_take 3 (v := ?_) rfl (by kernel_rfl) (by kernel_rfl) (by kernel_rfl) (by kernel_rfl) (fun _ _ _ h => h) hHeld (Or.inl ⟨by rfl, ?_⟩) ?_
          rotate_left 1
          · (intro w hSw; (try dsimp only at hSw); first | (go_simp; done) | (go_simp; with_reducible rfl))
          simp only [Act.put]
          refine wpAnyL_take 4 (v := ?_) rfl (by kernel_rfl) (by kernel_rfl) (by kernel_rfl) (by kernel_rfl) (fun _ _ _ h => h) hHeld (Or.inl ⟨by rfl, ?_⟩) ?_
          rotate_left 1
          · (intro w hSw; (try dsimp only at hSw); first | (go_simp; done) | (go_simp; with_reducible rfl))
          simp only [Act.put]
          refine wpAnyL_take 5 (v := ?_) rfl (by kernel_rfl) (by kernel_rfl) (by kernel_rfl) (by kernel_rfl) (fun _ _ _ h => h) hHeld (Or.inl ⟨by rfl, ?_⟩) ?_
          rotate_left 1
          · (intro w hSw; (try dsimp only at hSw); first | (go_simp; done) | (go_simp; with_reducible rfl))
          simp only [Act.put]
          refine wpAnyL_take 6 (v := ?_) rfl (by kernel_rfl) (by kernel_rfl) (by kernel_rfl) (by kernel_rfl) (fun _ _ _ h => h) hHeld (Or.inl ⟨by rfl, ?_⟩) ?_
          rotate_left 1
          · (intro w hSw; (try dsimp only at hSw); first | (go_simp; done) | (go_simp; with_reducible rfl))
          simp only [Act.put]
          refine wpAnyL_take 7 (v := ?_) rfl (by kernel_rfl) (by kernel_rfl) (by kernel_rfl) (by kernel_rfl) (fun _ _ _ h => h) hHeld (Or.inl ⟨by rfl, ?_⟩) ?_
          rotate_left 1
          · (intro w hSw; (try dsimp only at hSw); first | (go_simp; done) | (go_simp; with_reducible rfl))
          simp only [Act.put]
          refine wpAnyL_take 8 (v := ?_) rfl (by kernel_rfl) (by kernel_rfl) (by kernel_rfl) (by kernel_rfl) (fun _ _ _ h => h) hHeld (Or.inl ⟨by rfl, ?_⟩) ?_
          rotate_left 1
          · (intro w hSw; (try dsimp only at hSw); first | (go_simp; done) | (go_simp; with_reducible rfl))
          simp only [Act.put]
          refine wpAnyL_take 9 (v := ?_) rfl (by kernel_rfl) (by kernel_rfl) (by kernel_rfl) (by kernel_rfl) (fun _ _ _ h => h) hHeld (Or.inl ⟨by rfl, ?_⟩) ?_
          rotate_left 1
          · (intro w hSw; (try dsimp only at hSw); first | (go_simp; done) | (go_simp; with_reducible rfl))
          simp only [Act.put]
          refine wpAnyL_take 10 (v := ?_) rfl (by kernel_rfl) (by kernel_rfl) (by kernel_rfl) (by kernel_rfl) (fun _ _ _ h => h) hHeld (Or.inl ⟨by rfl, ?_⟩) ?_
          rotate_left 1
          · (intro w hSw; (try dsimp only at hSw); first | (go_simp; done) | (go_simp; with_reducible rfl))
          simp only [Act.put]
          refine wpAnyL_take 11 (v := ?_) rfl (by kernel_rfl) (by kernel_rfl) (by kernel_rfl) (by kernel_rfl) (fun _ _ _ h => h) hHeld (Or.inl ⟨by rfl, ?_⟩) ?_
          rotate_left 1
          · (intro w hSw; (try dsimp only at hSw); first | (go_simp; done) | (go_simp; with_reducible rfl))
          simp only [Act.put]
          refine wpAnyL_take 12 (v := ?_) rfl (by kernel_rfl) (by kernel_rfl) (by kernel_rfl) (by kernel_rfl) (fun _ _ _ h => h) hHeld (Or.inl ⟨by rfl, ?_⟩) ?_
          rotate_left 1
          · (intro w hSw; (try dsimp only at hSw); first | (go_simp; done) | (go_simp; with_reducible rfl))
          simp only [Act.put]
          refine wpAnyL_take 13 (v := ?_) rfl (by kernel_rfl) (by kernel_rfl) (by kernel_rfl) (by kernel_rfl) (fun _ _ _ h => h) hHeld (Or.inl ⟨by rfl, ?_⟩) ?_
          rotate_left 1
          · (intro w hSw; (try dsimp only at hSw); first | (go_simp; done) | (go_simp; with_reducible rfl))
          simp only [Act.put]
          refine wpAnyL_take 14 (v := ?_) rfl (by kernel_rfl) (by kernel_rfl) (by kernel_rfl) (by kernel_rfl) (fun _ _ _ h => h) hHeld (Or.inl ⟨by rfl, ?_⟩) ?_
          rotate_left 1
          · (intro w hSw; (try dsimp only at hSw); first | (go_simp; done) | (go_simp; with_reducible rfl))
          simp only [Act.put]
          refine wpAnyL_one 15 (by kernel_rfl) rfl (fun K hK0 => ?_)
          have hK : Shut _ := hK0
          clear hK0
          go_simp
          refine hK.out _ _ (fun _ => by go_keep) ?_
          clear hK K
          refine wpAnyL_one 16 (by kernel_rfl) rfl (fun K hK0 => ?_)
          have hK : Shut _ := hK0
          clear hK0
          refine step_append_run rfl (.tmp 44) (.tmp 46) 23 rfl kv (.slice (some ⟨wr.heap.size, 0, none⟩) 1 1) _ _ ?e1 ?e2 hrun ?_
          case e1 => simp [Act.eval]
          case e2 => simp [Act.eval]
          refine hK.out _ _ (fun _ => ⟨d2, d1, d3⟩) ?_
          clear hK K
          simp only [Act.put]
          refine wpAnyL_one 17 (by kernel_rfl) rfl (fun K hK0 => ?_)
          have hK : Shut _ := hK0
          clear hK0
          go_simp
          refine hK.out _ _ (fun _ => ⟨d2, d1, d3⟩) ?_
          clear hK K
          refine wpAnyL_one 18 (by kernel_rfl) rfl (fun K hK0 => ?_)
          have hK : Shut _ := hK0
          clear hK0
          go_simp
          refine hK.out _ _ (fun h => by cases h) ?_
          clear hK K
          refine wpAnyL_done (by kernel_rfl) ?_
          go_wp2
          go_roundw
          case rel => exact ⟨k + 1, _, _, by first | rfl | (congr 1; omega), by omega, HFR.out, HP2.out, HX1.out, HL1.out⟩
          case measure => simp [intOf]; omega
        · obtain rfl : k = n := by omega
          have HX1 : Hid (AhTo nx ns (i + 1) 0 rows) := hq.out.2.2.1.row HXX.out (by rw [HNN.out, HRR.out])
          go_wp2
          go_roundw
          case rel => exact ⟨i + 1, kvs, rows, by first | rfl | (congr 1; omega), by omega, hq.out.1, hq.out.2.1, HX1.out, by have := hq.out.2.2.2; rw [Nat.succ_mul]; have := HMX.out; omega⟩
          case measure => simp [intOf]; omega
    · obtain rfl : i = m := by omega
      clear HN HS HP
      go_wp2
      go_ret
      refine ⟨kvs, rows, rfl, hq.out.2.1, hq.out.2.2.1, fun r hr => ?_, HE.out _ hq.out.1⟩
      have h8 := lens_mem hr
      have h7 := hq.out.2.2.2
      rw [HMX.out] at h7
      omega
end Go.Proofs.YtogjjmbcbnceoaaGreat
