/- A graph of a program without what nobody asks for: the program's Apply. -/
import Derived.Test.YtajaijilfclhpaaGreatDoorNSmM
import Derived.Test.YtajaijilfclhpaaGreatDoorNAd
import Derived.Laws.Rows
namespace Go.Proofs.YtajaijilfclhpaaGreatDoor
open Go.RowKit Go.Sort

theorem results_row_tmp {fn : Func} {p u : Tmp} {ty : TypeId} {P : Program} (h : fn.results = #[.cell p ty, .tmp u]) (tmps : Array Value) (w : World) (g : Nat) (t : TypeId) (cs : Array Value) (fr : Nat × Nat) (fs : Array Field)
  (hp : tmps.getD p undef = .pointer (some ⟨g, 0, none⟩)) (hg : w.heap[g]? = some (.cells cs t fr))
  (hu : P.underlying ty = some (.struct fs)) (hi : (P.info? ty).map (·.size) = some cs.size) :
  (results fn tmps).run P w = .ok (.tuple #[.agg cs, tmps.getD u undef]) w := by
 rw [Go.results_cell_tmp h, hp]
 simp [asAddr, Result.andThen, run_loadVar_row w g t ty cs fr (.struct fs) hg hu rfl hi]
theorem checkF_all {p : List Gr} : ∀ {l : List Gr} {i : Nat}, (checkF p l i).1 = 0 → ∀ G ∈ l, graphB p G = true
 | [], _, _, G, h => by cases h
 | H :: l, i, h0, G, h => by
  unfold checkF at h0
  by_cases hb : graphB p H = true
  ·rw [if_pos hb] at h0
   rcases List.mem_cons.1 h with rfl | h
   ·exact hb
   ·exact checkF_all h0 G h
  ·rw [if_neg hb] at h0
   simp at h0
theorem check_all {p : List Gr} (h : (checkT p).1 = 0) : p.length ≤ 64 ∧ ∀ G ∈ p, graphB p G = true := by
 unfold checkT at h
 by_cases h6 : 64 < p.length
 ·rw [if_pos h6] at h; simp at h
 ·rw [if_neg h6] at h
  exact ⟨by omega, checkF_all h⟩
theorem check_alone {p : List Gr} (h : (checkT p).1 = 0) {G : Gr} (hG : G ∈ p) (hl : ∀ b ∈ G.blocks, ∀ x ∈ b.ins, x.args.length ≤ 140737488355328) : aloneG G = true := by
 have h1 := (check_all h).2 G hG
 rw [graph_same hl] at h1
 unfold rightR at h1
 rw [Bool.and_eq_true] at h1
 exact h1.1
noncomputable def appD (G : Gr) : Gr := { G with blocks := G.blocks.map (dBl (needL G)) }
abbrev zGr : Value := .agg #[.string ⟨#[]⟩, .slice none 0 0, .int .u8 0, .slice none 0 0, .slice none 0 0, .slice none 0 0]
set_option maxRecDepth 100000 in
set_option maxHeartbeats 8000000 in
theorem dapply_any (p : List Gr) (ppv : Value) (f : Int) (w : World) (hp : GrsAt w ppv p) (hP : PartsAt w) (hn : ∀ G ∈ p, G.blocks.length ≤ 100000 ∧ (∀ b ∈ G.blocks, b.ins.length ≤ 100000) ∧ ∀ b ∈ G.blocks, ∀ x ∈ b.ins, x.args.length ≤ 1100000) :
  Calls Tryz.prog 15 #[ppv, .int .i64 f] w fun e w' => Below w.heap.size w w' ∧ ((checkT p).1 ≠ 0 → e = .returned (.tuple #[zGr, .int .i64 4])) ∧ ((checkT p).1 = 0 → (f < 0 ∨ (p.length : Int) ≤ f) → e = .returned (.tuple #[zGr, .int .i64 2])) ∧ ((checkT p).1 = 0 → 0 ≤ f → f < (p.length : Int) → ∃ W pv' vv' av' bv' B ivs avss, Below w.heap.size w W ∧ e = .returned (.tuple #[.agg #[.string (p.getD f.toNat default).name, pv', .int .u8 (p.getD f.toNat default).result, vv', av', bv'], .int .i64 0]) ∧ CQ W w' (appD (p.getD f.toNat default)) B pv' vv' av' bv' ivs avss) := by
 have HC : Hid (∀ W, Below w.heap.size w W → Calls Tryz.prog 39 #[ppv] W fun e w' => e = .returned (.tuple #[.int .i64 (checkT p).1, .int .i64 (checkT p).2]) ∧ Below W.heap.size W w') := fun W hW => check_any p ppv W (hp.below hW) (hP.below hW) (fun _ G hG => (hn G hG).1)
 obtain ⟨qa, qc, rfl, hql⟩ := hp.form
 have HG : Hid (∀ i, i < p.length → _) := fun i hi => hp.get (i := i) hi
 have HMM : Hid (∀ i, i < p.length → p.getD i default ∈ p) := fun i hi => by
  rw [List.getD, List.getElem?_eq_getElem hi]
  exact List.getElem_mem hi
 have H0 : Hid (Below w.heap.size w (w.alloc (.cells #[.string ⟨#[]⟩, .slice none 0 0, .int .u8 0, .slice none 0 0, .slice none 0 0, .slice none 0 0] 28)) ∧ Box (w.alloc (.cells #[.string ⟨#[]⟩, .slice none 0 0, .int .u8 0, .slice none 0 0, .slice none 0 0, .slice none 0 0] 28)) w.heap.size [.string ⟨#[]⟩, .slice none 0 0, .int .u8 0, .slice none 0 0, .slice none 0 0, .slice none 0 0] ∧ (w.alloc (.cells #[.string ⟨#[]⟩, .slice none 0 0, .int .u8 0, .slice none 0 0, .slice none 0 0, .slice none 0 0] 28)).heap[w.heap.size]? = some (.cells #[.string ⟨#[]⟩, .slice none 0 0, .int .u8 0, .slice none 0 0, .slice none 0 0, .slice none 0 0] 28 (0, 0))) := ⟨below_alloc (Below.refl _ _) _, Box.new w [.string ⟨#[]⟩, .slice none 0 0, .int .u8 0, .slice none 0 0, .slice none 0 0, .slice none 0 0] _, heap_alloc_new _ _⟩
 have HNN : Hid (∀ G ∈ p, G.blocks.length ≤ 100000 ∧ (∀ b ∈ G.blocks, b.ins.length ≤ 100000) ∧ ∀ b ∈ G.blocks, ∀ x ∈ b.ins, x.args.length ≤ 1100000) := hn
 have HAL : Hid ((checkT p).1 = 0 → ∀ G ∈ p, aloneG G = true) := fun h G hG => check_alone h hG (fun b hb x hx => by have := (hn G hG).2.2 b hb x hx; omega)
 clear hp hP hn
 generalize (checkT p).1 = e0 at *
 generalize (checkT p).2 = e1 at *
 generalize hpn : p.length = n at *
 clear hpn
 by_cases he : e0 = 0
 rotate_left 1
 ·have heB : (e0 != 0) = true := by simpa using he
  go_enter Tryz.func15, Tryz.ntmps15
  go_wp2_with (go_at_call 39; go_loud (refine Calls.mono (by exact HC.out _ H0.out.1) ?_; rintro e w2 ⟨rfl, hb2⟩; have HB2 : Hid (Below w.heap.size w w2) := below_trans H0.out.1 hb2; have HX2 : Hid _ := H0.out.2.1.below hb2; have HR2 : Hid (w2.heap[w.heap.size]? = some (.cells #[.string ⟨#[]⟩, .slice none 0 0, .int .u8 0, .slice none 0 0, .slice none 0 0, .slice none 0 0] 28 (0, 0))) := (hb2.block _ H0.out.2.1.lt).trans H0.out.2.2; obtain ⟨z0, z1, z2, z3, z4, z5⟩ := box6 HX2.out; have zf := HX2.out.fz; have zlt := HX2.out.lt; clear hb2))
  obtain ⟨q1, q2, q3⟩ := six_end (r := w.heap.size) HB2.out (Nat.le_refl _) HR2.out (.string ⟨#[]⟩) (.slice none 0 0) (.int .u8 0) (.slice none 0 0) (.slice none 0 0) (.slice none 0 0)
  refine bodyPost_ret (results_row_tmp rfl _ _ w.heap.size 28 #[.string ⟨#[]⟩, .slice none 0 0, .int .u8 0, .slice none 0 0, .slice none 0 0, .slice none 0 0] _ _ rfl q2 Tryz.underlying28 (by rfl)) rfl ?_
  exact ⟨q1, fun _ => rfl, fun h => absurd h he, fun h => absurd h he⟩
 subst he
 by_cases hf : f < 0 ∨ (n : Int) ≤ f
 ·have hfB : f < 0 ∨ (¬ f < 0 ∧ (n : Int) ≤ f) := by omega
  rcases hfB with hf0 | ⟨hf0, hf1⟩
  all_goals
   go_enter Tryz.func15, Tryz.ntmps15
   go_wp2_with (go_at_call 39; go_loud (refine Calls.mono (by exact HC.out _ H0.out.1) ?_; rintro e w2 ⟨rfl, hb2⟩; have HB2 : Hid (Below w.heap.size w w2) := below_trans H0.out.1 hb2; have HX2 : Hid _ := H0.out.2.1.below hb2; have HR2 : Hid (w2.heap[w.heap.size]? = some (.cells #[.string ⟨#[]⟩, .slice none 0 0, .int .u8 0, .slice none 0 0, .slice none 0 0, .slice none 0 0] 28 (0, 0))) := (hb2.block _ H0.out.2.1.lt).trans H0.out.2.2; obtain ⟨z0, z1, z2, z3, z4, z5⟩ := box6 HX2.out; have zf := HX2.out.fz; have zlt := HX2.out.lt; clear hb2))
   obtain ⟨q1, q2, q3⟩ := six_end (r := w.heap.size) HB2.out (Nat.le_refl _) HR2.out (.string ⟨#[]⟩) (.slice none 0 0) (.int .u8 0) (.slice none 0 0) (.slice none 0 0) (.slice none 0 0)
   refine bodyPost_ret (results_row_tmp rfl _ _ w.heap.size 28 #[.string ⟨#[]⟩, .slice none 0 0, .int .u8 0, .slice none 0 0, .slice none 0 0, .slice none 0 0] _ _ rfl q2 Tryz.underlying28 (by rfl)) rfl ?_
   exact ⟨q1, fun h => absurd rfl h, fun _ _ => rfl, fun _ h1 h2 => by omega⟩
 ·obtain ⟨i, rfl⟩ : ∃ i : Nat, f = (i : Int) := ⟨f.toNat, by omega⟩
  have hin : i < n := by omega
  have hin' : (i : Int) < n := by omega
  have hi0 : ¬ (i : Int) < 0 := by omega
  have hi1 : ¬ (n : Int) ≤ i := by omega
  obtain ⟨g, o, pv, vv, av, bv, rfl, hg, c0, c1, c2, c3, c4, c5, hG⟩ := HG.out i hin
  have hGm := HMM.out i hin
  have hsz := HNN.out _ hGm
  have hal := HAL.out rfl _ hGm
  have hto : ((i : Int)).toNat = i := Int.toNat_natCast i
  rw [hto]
  have HND : Hid (∀ W, Below w.heap.size w W → Calls Tryz.prog 27 #[.agg #[.string (p.getD i default).name, pv, .int .u8 (p.getD i default).result, vv, av, bv]] W fun e w' => ∃ v, e = .returned v ∧ Below W.heap.size W w' ∧ OwnT w' W.heap.size v (needL (p.getD i default))) := fun W hW => dneeded_any (p.getD i default) pv vv av bv W (hG.below hW) (alone_inR hal) (alone_vars hal) ⟨hsz.1, hsz.2.1⟩
  have hh : headR (p.getD i default) = true := by unfold aloneG at hal; rw [Bool.and_eq_true] at hal; exact hal.1
  unfold headR at hh
  simp only [Bool.and_eq_true, decide_eq_true_eq] at hh
  have HAS : Hid (∀ W nv, Below w.heap.size w W → OwnT W w.heap.size nv (needL (p.getD i default)) → Calls Tryz.prog 40 #[.agg #[.string (p.getD i default).name, pv, .int .u8 (p.getD i default).result, vv, av, bv], nv] W fun e w' => ∃ pv' vv' av' bv' B ivs avss, e = .returned (.agg #[.string (p.getD i default).name, pv', .int .u8 (p.getD i default).result, vv', av', bv']) ∧ Below W.heap.size W w' ∧ CQ W w' (appD (p.getD i default)) B pv' vv' av' bv' ivs avss) := fun W nv hW ho => by
   have hnl := needL_len (p.getD i default)
   refine dasked_any (p.getD i default) pv vv av bv nv (needL (p.getD i default)) W (hG.below hW) (OwnT.at' ho (by rw [hnl]; exact hh.2.2.1)) (fun b hb x hx hk => by rw [hnl]; exact (alone_inR hal).dst b hb x hx hk) ⟨hsz.1, hsz.2.1⟩ hsz.2.2 (by omega) (by omega) (by omega)
  have HEQ : Hid (appD (p.getD i default) = appD (p.getD i default)) := rfl
  obtain ⟨pa, pc, va, vc, aa, ac, ba, bc, rfl, rfl, rfl, rfl, _, _, _, _⟩ := hG.openF
  generalize appD (p.getD i default) = AG at *
  clear hGm hsz hal hh HG HMM HNN HAL hG hf HEQ
  generalize hnl2 : needL (p.getD i default) = ND at *
  clear hnl2
  generalize (p.getD i default).name = nm at *
  generalize (p.getD i default).params.length = pl at *
  generalize (p.getD i default).vars.length = vl at *
  generalize (p.getD i default).arrs.length = al at *
  generalize (p.getD i default).blocks.length = bl at *
  generalize (p.getD i default).result = r at *
  have HCL : Hid (∀ W, Below w.heap.size w W → W.cell? ⟨g, o + i * 6, none⟩ = some (.string nm) ∧ W.cell? ⟨g, o + i * 6 + 1, none⟩ = some (.slice pa pl pc) ∧ W.cell? ⟨g, o + i * 6 + 2, none⟩ = some (.int .u8 r) ∧ W.cell? ⟨g, o + i * 6 + 3, none⟩ = some (.slice va vl vc) ∧ W.cell? ⟨g, o + i * 6 + 4, none⟩ = some (.slice aa al ac) ∧ W.cell? ⟨g, o + i * 6 + 5, none⟩ = some (.slice ba bl bc)) := fun W hW => by
   have hc : ∀ j, W.cell? ⟨g, j, none⟩ = w.cell? ⟨g, j, none⟩ := fun j => hW.cell (p := ⟨g, j, none⟩) hg
   exact ⟨(hc _).trans c0, (hc _).trans c1, (hc _).trans c2, (hc _).trans c3, (hc _).trans c4, (hc _).trans c5⟩
  clear c0 c1 c2 c3 c4 c5
  go_enter Tryz.func15, Tryz.ntmps15
  go_wp2_with (go_at_call 39; go_loud (refine Calls.mono (by exact HC.out _ H0.out.1) ?_; rintro e w2 ⟨rfl, hb2⟩; have HB2 : Hid (Below w.heap.size w w2) := below_trans H0.out.1 hb2; have HX2 : Hid _ := H0.out.2.1.below hb2; have HR2 : Hid (w2.heap[w.heap.size]? = some (.cells #[.string ⟨#[]⟩, .slice none 0 0, .int .u8 0, .slice none 0 0, .slice none 0 0, .slice none 0 0] 28 (0, 0))) := (hb2.block _ H0.out.2.1.lt).trans H0.out.2.2; clear hb2))
  clear HC H0
  refine wp_region_late (fun W => W.cell? ⟨g, o + i * 6, none⟩ = some (.string nm) ∧ W.cell? ⟨g, o + i * 6 + 1, none⟩ = some (.slice pa pl pc) ∧ W.cell? ⟨g, o + i * 6 + 2, none⟩ = some (.int .u8 r) ∧ W.cell? ⟨g, o + i * 6 + 3, none⟩ = some (.slice va vl vc) ∧ W.cell? ⟨g, o + i * 6 + 4, none⟩ = some (.slice aa al ac) ∧ W.cell? ⟨g, o + i * 6 + 5, none⟩ = some (.slice ba bl bc)) (fun _ => false) (by kernel_rfl) (HCL.out _ (below_drew HB2.out)) (fun hHeld => ?_)
  have HBD : Hid (Below w2.heap.size w2 w2.drew) := below_drew (Below.refl _ _)
  refine wpAnyL_take 0 (v := ?_) rfl (by kernel_rfl) (by kernel_rfl) (by kernel_rfl) (by kernel_rfl) (fun _ _ _ h => h) hHeld (Or.inl ⟨by rfl, ?_⟩) ?_
  rotate_left 1
  ·(intro w hSw; (try dsimp only at hSw); (try obtain ⟨s0, s1, s2, s3, s4, s5⟩ := hSw); first | (go_simp; done) | (go_simp; with_reducible rfl))
  simp only [Act.put, List.setIfInBounds_toArray]
  refine wpAnyL_take 1 (v := ?_) rfl (by kernel_rfl) (by kernel_rfl) (by kernel_rfl) (by kernel_rfl) (fun _ _ _ h => h) hHeld (Or.inl ⟨by rfl, ?_⟩) ?_
  rotate_left 1
  ·(intro w hSw; (try dsimp only at hSw); (try obtain ⟨s0, s1, s2, s3, s4, s5⟩ := hSw); first | (go_simp; done) | (go_simp; with_reducible rfl))
  simp only [Act.put]
  refine wpAnyL_take 2 (v := ?_) rfl (by kernel_rfl) (by kernel_rfl) (by kernel_rfl) (by kernel_rfl) (fun _ _ _ h => h) hHeld (Or.inl ⟨by rfl, ?_⟩) ?_
  rotate_left 1
  ·(intro w hSw; (try dsimp only at hSw); (try obtain ⟨s0, s1, s2, s3, s4, s5⟩ := hSw); first | (go_simp; done) | (go_simp; with_reducible rfl))
  simp only [Act.put]
  refine wpAnyL_take 3 (v := ?_) rfl (by kernel_rfl) (by kernel_rfl) (by kernel_rfl) (by kernel_rfl) (fun _ _ _ h => h) hHeld (Or.inl ⟨by rfl, ?_⟩) ?_
  rotate_left 1
  ·(intro w hSw; (try dsimp only at hSw); (try obtain ⟨s0, s1, s2, s3, s4, s5⟩ := hSw); first | (go_simp; done) | (go_simp; with_reducible rfl))
  simp only [Act.put]
  refine wpAnyL_take 4 (v := ?_) rfl (by kernel_rfl) (by kernel_rfl) (by kernel_rfl) (by kernel_rfl) (fun _ _ _ h => h) hHeld (Or.inl ⟨by rfl, ?_⟩) ?_
  rotate_left 1
  ·(intro w hSw; (try dsimp only at hSw); (try obtain ⟨s0, s1, s2, s3, s4, s5⟩ := hSw); first | (go_simp; done) | (go_simp; with_reducible rfl))
  simp only [Act.put]
  refine wpAnyL_take 5 (v := ?_) rfl (by kernel_rfl) (by kernel_rfl) (by kernel_rfl) (by kernel_rfl) (fun _ _ _ h => h) hHeld (Or.inl ⟨by rfl, ?_⟩) ?_
  rotate_left 1
  ·(intro w hSw; (try dsimp only at hSw); (try obtain ⟨s0, s1, s2, s3, s4, s5⟩ := hSw); first | (go_simp; done) | (go_simp; with_reducible rfl))
  simp only [Act.put]
  refine wpAnyL_take 6 (v := ?_) rfl (by kernel_rfl) (by kernel_rfl) (by kernel_rfl) (by kernel_rfl) (fun _ _ _ h => h) hHeld (Or.inl ⟨by rfl, ?_⟩) ?_
  rotate_left 1
  ·(intro w hSw; (try dsimp only at hSw); (try obtain ⟨s0, s1, s2, s3, s4, s5⟩ := hSw); first | (go_simp; done) | (go_simp; with_reducible rfl))
  simp only [Act.put]
  refine wpAnyL_take 7 (v := ?_) rfl (by kernel_rfl) (by kernel_rfl) (by kernel_rfl) (by kernel_rfl) (fun _ _ _ h => h) hHeld (Or.inl ⟨by rfl, ?_⟩) ?_
  rotate_left 1
  ·(intro w hSw; (try dsimp only at hSw); (try obtain ⟨s0, s1, s2, s3, s4, s5⟩ := hSw); first | (go_simp; done) | (go_simp; with_reducible rfl))
  simp only [Act.put]
  clear hHeld
  refine wpAnyL_one 8 (by kernel_rfl) rfl (fun K hK0 => ?_)
  have hK : Shut _ := hK0
  clear hK0
  go_simp
  refine Calls.mono (by exact HND.out _ (below_trans HB2.out HBD.out)) ?_
  rintro e w5 ⟨v5, rfl, hb5, ho5⟩
  obtain ⟨va5, vl5, vc5, rfl⟩ : ∃ va vl vc, v5 = .slice va vl vc := (by obtain ⟨ya, yc, hv, _⟩ := own_blk (Nat.le_refl _) ho5; exact ⟨ya, _, yc, hv⟩)
  have HB5 : Hid (Below w2.heap.size w2 w5) := below_trans HBD.out hb5
  have HO5 : Hid (OwnT w5 w.heap.size (.slice va5 vl5 vc5) ND) := own_mono ho5 (Nat.le_trans HB2.out.size HBD.out.size)
  clear hb5 ho5
  dsimp only
  refine hK.out _ _ (fun _ => HCL.out _ (below_trans HB2.out HB5.out)) ?_
  clear hK K
  refine wpAnyL_one 9 (by kernel_rfl) rfl (fun K hK0 => ?_)
  have hK : Shut _ := hK0
  clear hK0
  go_simp
  refine Calls.mono (by exact HAS.out w5 _ (below_trans HB2.out HB5.out) HO5.out) ?_
  rintro e w6 ⟨pv6, vv6, av6, bv6, B6, ivs6, avss6, rfl, hb6, hq6⟩
  have HB6 : Hid (Below w2.heap.size w2 w6) := below_trans HB5.out hb6
  have HQ6 : Hid _ := hq6
  have HX6 : Hid _ := HX2.out.below HB6.out
  have HR6 : Hid (w6.heap[w.heap.size]? = some (.cells #[.string ⟨#[]⟩, .slice none 0 0, .int .u8 0, .slice none 0 0, .slice none 0 0, .slice none 0 0] 28 (0, 0))) := (HB6.out.block _ HX2.out.lt).trans HR2.out
  obtain ⟨f1, f2, f3, f4, hf1, hf2, hf3, hf4⟩ : ∃ f1 f2 f3 f4 : Option Addr × Nat × Nat, pv6 = .slice f1.1 f1.2.1 f1.2.2 ∧ vv6 = .slice f2.1 f2.2.1 f2.2.2 ∧ av6 = .slice f3.1 f3.2.1 f3.2.2 ∧ bv6 = .slice f4.1 f4.2.1 f4.2.2 := (by obtain ⟨a1, a2, e1, _⟩ := own_blk (Nat.le_refl _) hq6.ps; obtain ⟨b1, b2, e2, _⟩ := own_blk (Nat.le_refl _) hq6.vs; obtain ⟨c1, c2, e3, _⟩ := own_blk (Nat.le_refl _) hq6.ars; obtain ⟨d1, d2, e4, _⟩ := own_blk (Nat.le_refl _) hq6.bs.row; exact ⟨⟨a1, _, a2⟩, ⟨b1, _, b2⟩, ⟨c1, _, c2⟩, ⟨d1, _, d2⟩, e1, e2, e3, e4⟩)
  obtain ⟨f11, f12, f13⟩ := f1
  obtain ⟨f21, f22, f23⟩ := f2
  obtain ⟨f31, f32, f33⟩ := f3
  obtain ⟨f41, f42, f43⟩ := f4
  dsimp only at hf1 hf2 hf3 hf4
  subst hf1; subst hf2; subst hf3; subst hf4
  clear hb6 hq6
  dsimp only
  refine hK.out _ _ (fun _ => HCL.out _ (below_trans HB2.out HB6.out)) ?_
  clear hK K
  obtain ⟨z0, z1, z2, z3, z4, z5⟩ := box6 HX6.out
  have zf := HX6.out.fz
  have zlt := HX6.out.lt
  have HFIN : Hid (∀ W7, W7 = setSix w6 w.heap.size (.string nm) (.slice f11 f12 f13) (.int .u8 r) (.slice f21 f22 f23) (.slice f31 f32 f33) (.slice f41 f42 f43) → Below w.heap.size w W7 ∧ W7.heap[w.heap.size]? = some (.cells #[.string nm, .slice f11 f12 f13, .int .u8 r, .slice f21 f22 f23, .slice f31 f32 f33, .slice f41 f42 f43] 28 (0, 0)) ∧ CQ w5 W7 AG B6 (.slice f11 f12 f13) (.slice f21 f22 f23) (.slice f31 f32 f33) (.slice f41 f42 f43) ivs6 avss6) := fun W7 h7 => by
   obtain ⟨q1, q2, q3⟩ := six_end (r := w.heap.size) (below_trans HB2.out HB6.out) (Nat.le_refl _) HR6.out (.string nm) (.slice f11 f12 f13) (.int .u8 r) (.slice f21 f22 f23) (.slice f31 f32 f33) (.slice f41 f42 f43)
   rw [← h7] at q1 q2 q3
   have hlw : w.heap.size < w5.heap.size := Nat.lt_of_lt_of_le HX2.out.lt HB5.out.size
   have hq := HQ6.out
   have hlo := hq.lo
   refine ⟨q1, q2, by rw [h7]; unfold setSix; simpa [World.setCell] using hq.sz, hq.lo, ?_, ?_, ?_, ?_, hq.low⟩
   ·exact owns_same hq.ps fun k hk => q3 k (by have := (hq.ps.lt k hk).1; omega)
   ·exact owns_same hq.vs fun k hk => q3 k (by have := (hq.vs.lt k hk).1; omega)
   ·exact owns_same hq.ars fun k hk => q3 k (by have := (hq.ars.lt k hk).1; omega)
   ·exact hq.bs.same fun k hk => q3 k (by omega)
  refine wpAnyL_one 10 (by kernel_rfl) rfl (fun K hK0 => ?_)
  have hK : Shut _ := hK0
  clear hK0
  go_simp
  refine hK.out _ _ (fun _ => HCL.out _ (HFIN.out _ rfl).1) ?_
  clear hK K
  refine wpAnyL_one 11 (by kernel_rfl) rfl (fun K hK0 => ?_)
  have hK : Shut _ := hK0
  clear hK0
  go_simp
  refine hK.out _ _ (fun _ => HCL.out _ (HFIN.out _ rfl).1) ?_
  clear hK K
  refine ⟨by kernel_rfl, ?_⟩
  go_simp
  obtain ⟨q1, q2, q3⟩ := HFIN.out _ rfl
  clear z0 z1 z2 z3 z4 z5 zf zlt HCL HAS HND
  (try go_wp2)
  refine bodyPost_ret (results_row_tmp rfl _ _ w.heap.size 28 #[.string nm, .slice f11 f12 f13, .int .u8 r, .slice f21 f22 f23, .slice f31 f32 f33, .slice f41 f42 f43] _ _ rfl q2 Tryz.underlying28 (by rfl)) rfl ?_
  exact ⟨q1, fun h => absurd rfl h, fun _ h => by omega, fun _ _ _ => ⟨w5, _, _, _, _, B6, ivs6, avss6, below_trans HB2.out HB5.out, rfl, q3⟩⟩
end Go.Proofs.YtajaijilfclhpaaGreatDoor
/- The law's example, and what is needed of it. -/
namespace Go.Proofs.YtajaijilfclhpaaGreatDoor
open Go.RowKit

def allocs (w : World) (os : List Obj) : World := os.foldl World.alloc w
theorem allocs_below : ∀ (os : List Obj) (w : World), Below w.heap.size w (allocs w os)
 | [], _ => Below.refl _ _
 | o :: os, w => below_trans (below_alloc (Below.refl _ _) o) (allocs_below os (w.alloc o))
theorem allocs_get : ∀ (os : List Obj) (w : World) (k : Nat) (o : Obj), os[k]? = some o → (allocs w os).heap[w.heap.size + k]? = some o
 | o' :: os, w, 0, o, h => by
  cases h
  have h1 := (allocs_below os (w.alloc o')).block w.heap.size (by simp)
  exact h1.trans (heap_alloc_new w o')
 | o' :: os, w, k + 1, o, h => by
  have h1 := allocs_get os (w.alloc o') k o (by simpa using h)
  rw [show (w.alloc o').heap.size = w.heap.size + 1 by simp, show w.heap.size + 1 + k = w.heap.size + (k + 1) by omega] at h1
  exact h1
theorem row_lit {W : World} {g : Nat} {cs : List Value} {t : TypeId} (n : Nat) (h : W.heap[g]? = some (.cells cs.toArray t)) (hn : n ≤ 1000) : RowAt W (.slice (some ⟨g, 0, none⟩) n n) n cs := by
 refine ⟨_, _, rfl, ⟨Nat.le_refl _, by omega⟩, .inr ⟨g, 0, rfl, (Array.getElem?_eq_some_iff.1 h).1, fun j u hj => ?_⟩⟩
 simp only [World.cell?, h]
 simpa using hj
theorem row_nil (W : World) (cs : List Value) : RowAt W (.slice none 0 0) 0 cs := ⟨_, _, rfl, ⟨Nat.le_refl _, by omega⟩, .inl rfl⟩
abbrev sl (g n : Nat) : Value := .slice (some ⟨g, 0, none⟩) n n
abbrev u64V (k : Int) : Value := .int .u64 k
def exI : List In := [⟨2, 0, 1, [], 5, 0⟩, ⟨4, 1, 2, [1, 1], 0, 0⟩, ⟨4, 1, 3, [0, 0], 0, 0⟩, ⟨10, 0, 0, [3], 0, 0⟩]
def exG : Gr := ⟨⟨#[]⟩, [0], 4, [4, 4, 4, 4], [], [⟨exI, ⟨3, 0, 0, 0, 0⟩⟩]⟩
def exO (N : Nat) : List Obj := [
 .cells #[.string ⟨#[]⟩, sl (N + 1) 1, bytV 4, sl (N + 2) 4, .slice none 0 0, sl (N + 7) 1] 28,
 .cells #[intV 0] 3,
 .cells #[bytV 4, bytV 4, bytV 4, bytV 4] 23,
 .cells #[intV 1, intV 1] 3,
 .cells #[intV 0, intV 0] 3,
 .cells #[intV 3] 3,
 .cells #[bytV 2, bytV 0, intV 1, .slice none 0 0, u64V 5, intV 0, bytV 4, bytV 1, intV 2, sl (N + 3) 2, u64V 0, intV 0, bytV 4, bytV 1, intV 3, sl (N + 4) 2, u64V 0, intV 0, bytV 10, bytV 0, intV 0, sl (N + 5) 1, u64V 0, intV 0] 55,
 .cells #[sl (N + 6) 4, bytV 3, intV 0, intV 0, intV 0, bytV 0] 63]
theorem ex_at (w : World) : GrAt (allocs w (exO w.heap.size)) (sl (w.heap.size + 1) 1) (sl (w.heap.size + 2) 4) (.slice none 0 0) (sl (w.heap.size + 7) 1) exG := by
 have g := fun k o (h : (exO w.heap.size)[k]? = some o) => allocs_get (exO w.heap.size) w k o h
 have i0 : InsAt (allocs w (exO w.heap.size)) (sl (w.heap.size + 6) 4) exI := by
  refine ⟨by decide, [.slice none 0 0, sl (w.heap.size + 3) 2, sl (w.heap.size + 4) 2, sl (w.heap.size + 5) 1], rfl, row_lit (t := 55) 4 (g 6 _ rfl) (by omega), fun i x a hx ha => ?_⟩
  rcases i with _ | _ | _ | _ | i
  ·cases hx; cases ha; exact row_nil _ _
  ·cases hx; cases ha; exact row_lit (t := 3) 2 (g 3 _ rfl) (by omega)
  ·cases hx; cases ha; exact row_lit (t := 3) 2 (g 4 _ rfl) (by omega)
  ·cases hx; cases ha; exact row_lit (t := 3) 1 (g 5 _ rfl) (by omega)
  ·simp [exI] at hx
 refine ⟨row_lit (t := 3) 1 (g 1 _ rfl) (by omega), row_lit (t := 23) 4 (g 2 _ rfl) (by omega), row_nil _ _, ⟨[sl (w.heap.size + 6) 4], rfl, row_lit (t := 63) 1 (g 7 _ rfl) (by omega), fun i x a hx ha => ?_⟩⟩
 rcases i with _ | i
 ·cases hx; cases ha; exact i0
 ·simp [exG] at hx
set_option maxRecDepth 100000 in
set_option maxHeartbeats 4000000 in
theorem ex_any (w : World) : Calls Tryz.prog 21 #[] w fun e w' => e = .returned (.agg #[.string ⟨#[]⟩, sl (w.heap.size + 1) 1, .int .u8 4, sl (w.heap.size + 2) 4, .slice none 0 0, sl (w.heap.size + 7) 1]) ∧ GrAt w' (sl (w.heap.size + 1) 1) (sl (w.heap.size + 2) 4) (.slice none 0 0) (sl (w.heap.size + 7) 1) exG ∧ Below w.heap.size w w' := by
 go_enter Tryz.func21, Tryz.ntmps21
 go_wp2
 change bodyPost _ _ _ _ _ (allocs w (exO w.heap.size))
 exact bodyPost_ret (results_cell_row rfl _ _ w.heap.size 28 #[.string ⟨#[]⟩, sl (w.heap.size + 1) 1, bytV 4, sl (w.heap.size + 2) 4, .slice none 0 0, sl (w.heap.size + 7) 1] _ _ rfl (allocs_get (exO w.heap.size) w 0 _ rfl) Tryz.underlying28 rfl (by rfl)) rfl ⟨rfl, ex_at w, allocs_below _ _⟩
theorem ex_need : needL exG = [true, false, false, true] := by
 refine (need_all (out := [true, false, false, true]) ⟨rfl, fun v hv => ?_⟩ ?_).symm
 ·rcases v with _ | _ | _ | _ | v
  ·exact NeedP.term (b := ⟨exI, ⟨3, 0, 0, 0, 0⟩⟩) (List.mem_singleton.2 rfl) rfl
  ·simp at hv
  ·simp at hv
  ·exact NeedP.stay (b := ⟨exI, ⟨3, 0, 0, 0, 0⟩⟩) (x := ⟨10, 0, 0, [3], 0, 0⟩) (List.mem_singleton.2 rfl) (by simp [exI]) rfl (List.mem_singleton.2 rfl)
  ·simp at hv
 ·intro b hb
  have e : b = ⟨exI, ⟨3, 0, 0, 0, 0⟩⟩ := List.mem_singleton.1 hb
  subst e
  decide
theorem ex_check : checkT [exG] = (0, 0) := by decide +kernel
theorem ex_alone : aloneG exG = true := by decide +kernel
theorem ex_app : appD exG = { exG with blocks := [⟨[⟨4, 1, 3, [0, 0], 0, 0⟩, ⟨10, 0, 0, [3], 0, 0⟩], ⟨3, 0, 0, 0, 0⟩⟩] } := by
 unfold appD
 rw [ex_need]
 rfl
end Go.Proofs.YtajaijilfclhpaaGreatDoor
/- The law is awake. -/
namespace Go.Proofs.YtajaijilfclhpaaGreatDoor
open Go.RowKit Go.Sort

set_option maxRecDepth 100000 in
theorem truths_yes (l : List Bool) (v1 v2 : Value) (w : World) (h1 : BosAt w v1 l) (h2 : BosAt w v2 l) : Calls Tryz.prog 11 #[v1, v2] w fun e w' => e = .returned (.bool true) ∧ Below w.heap.size w w' := by
 have HS : Hid _ := sameBo_yes l v1 v2 w h1 h2
 obtain ⟨a1, c1, rfl, _⟩ := row_form h1
 obtain ⟨a2, c2, rfl, _⟩ := row_form h2
 clear h1 h2
 generalize l.length = n at *
 go_enter Tryz.func11, Tryz.ntmps11
 go_wp2_with (go_at_call 31; go_loud (refine Calls.mono (by exact HS.out) ?_; rintro e w2 ⟨rfl, k, rfl⟩))
 go_ret
 exact ⟨rfl, below_drewN (Below.refl _ _) k⟩
theorem bos_lit (W : World) : BosAt (W.alloc (.cells #[.bool true, .bool false, .bool false, .bool true] 4)) (.slice (some ⟨W.heap.size, 0, none⟩) 4 4) [true, false, false, true] := row_lit (t := 4) 4 (heap_alloc_new W _) (by omega)
theorem ex_apply {W : World} {v : Value} (h : GrsAt W v [exG]) (hP : PartsAt W) : Calls Tryz.prog 15 #[v, .int .i64 0] W fun e w' => ∃ (pa va aa : Option Addr) (pl pc vl vc al ac gb cb gi ci : Nat), e = .returned (.tuple #[.agg #[.string ⟨#[]⟩, .slice pa pl pc, .int .u8 4, .slice va vl vc, .slice aa al ac, .slice (some ⟨gb, 0, none⟩) 1 cb], .int .i64 0]) ∧ Below W.heap.size W w' ∧ w'.cell? ⟨gb, 0, none⟩ = some (.slice (some ⟨gi, 0, none⟩) 2 ci) ∧ w'.cell? ⟨gi, 2, none⟩ = some (.int .i64 3) ∧ gb < w'.heap.size ∧ gi < w'.heap.size := by
 refine Calls.mono (dapply_any [exG] v 0 W h hP (fun G hG => ?_)) ?_
 ·rw [List.mem_singleton.1 hG]
  refine ⟨by decide, fun b hb => ?_, fun b hb x hx => ?_⟩
  ·rw [List.mem_singleton.1 hb]; decide
  ·rw [List.mem_singleton.1 hb] at hx
   have hx' : x ∈ exI := hx
   simp only [exI, List.mem_cons, List.not_mem_nil, or_false] at hx'
   rcases hx' with rfl | rfl | rfl | rfl <;> decide
 ·rintro e w' ⟨hb, _, _, h4⟩
  obtain ⟨W2, pv, vv, av, bv, B, ivs, avss, hb2, he, hq⟩ := h4 (by rw [ex_check]) (by decide) (by decide)
  have e1 : ([exG] : List Gr).getD (0 : Int).toNat default = exG := rfl
  rw [e1] at he hq
  rw [ex_app] at hq
  obtain ⟨pa, pc, rfl, _⟩ := own_blk (Nat.le_refl _) hq.ps
  obtain ⟨va, vc, rfl, _⟩ := own_blk (Nat.le_refl _) hq.vs
  obtain ⟨aa, ac, rfl, _⟩ := own_blk (Nat.le_refl _) hq.ars
  have hB := hq.bs
  have hrow : w'.ownsRow (W2.heap.size + 2) 63 6 bv (0 + 1) (blsCells [⟨[⟨4, 1, 3, [0, 0], 0, 0⟩, ⟨10, 0, 0, [3], 0, 0⟩], ⟨3, 0, 0, 0, 0⟩⟩] ivs) := hB.row
  obtain ⟨gb, cb, rfl, _⟩ := own_form hrow
  have hal := hB.al
  have hvl := hB.vl
  rcases ivs with _ | ⟨iv, _ | ⟨_, _⟩⟩
  ·simp at hal
  rotate_left 1
  ·simp at hal
  rcases avss with _ | ⟨avs, _ | ⟨_, _⟩⟩
  ·simp at hvl
  rotate_left 1
  ·simp at hvl
  have hk := hB.kid 0 _ iv avs rfl rfl rfl
  have hrow2 : w'.ownsRow (W2.heap.size + 2) 55 6 iv (1 + 1) (insCells [⟨4, 1, 3, [0, 0], 0, 0⟩, ⟨10, 0, 0, [3], 0, 0⟩] avs) := hk.row
  obtain ⟨gi, ci, rfl, _⟩ := own_form hrow2
  have hal2 := hk.al
  rcases avs with _ | ⟨a0, _ | ⟨a1, avs⟩⟩
  ·simp at hal2
  ·simp at hal2
  refine ⟨pa, va, aa, _, pc, _, vc, _, ac, gb, cb, gi, ci, he, hb, ?_, ?_, (hrow.lt gb rfl).2, (hrow2.lt gi rfl).2⟩
  ·exact (hrow.cellAt 0 (by omega)).trans rfl
  ·exact (hrow2.cellAt 2 (by omega)).trans rfl
set_option maxRecDepth 100000 in
set_option maxHeartbeats 4000000 in
theorem awake_any (w : World) (hP : PartsAt w) : Calls Tryz.prog 6 #[] w fun e w' => e = .returned (.bool true) ∧ Below w.heap.size w w' := by
 have HEX : Hid (∀ W, Calls Tryz.prog 21 #[] W fun e w' => ∃ N, e = .returned (.agg #[.string ⟨#[]⟩, sl (N + 1) 1, .int .u8 4, sl (N + 2) 4, .slice none 0 0, sl (N + 7) 1]) ∧ GrAt w' (sl (N + 1) 1) (sl (N + 2) 4) (.slice none 0 0) (sl (N + 7) 1) exG ∧ Below W.heap.size W w') := fun W => Calls.mono (ex_any W) fun e w' h => ⟨_, h⟩
 have HAP : Hid (∀ W N, GrAt W (sl (N + 1) 1) (sl (N + 2) 4) (.slice none 0 0) (sl (N + 7) 1) exG → Below w.heap.size w W → Calls Tryz.prog 15 #[.slice (some ⟨W.heap.size, 0, none⟩) 1 1, .int .i64 0] (W.alloc (.cells #[.string ⟨#[]⟩, sl (N + 1) 1, .int .u8 4, sl (N + 2) 4, .slice none 0 0, sl (N + 7) 1] 28)) fun e w' => ∃ (pa va aa : Option Addr) (pl pc vl vc al ac gb cb gi ci : Nat), e = .returned (.tuple #[.agg #[.string ⟨#[]⟩, .slice pa pl pc, .int .u8 4, .slice va vl vc, .slice aa al ac, .slice (some ⟨gb, 0, none⟩) 1 cb], .int .i64 0]) ∧ Below W.heap.size W w' ∧ w'.cell? ⟨gb, 0, none⟩ = some (.slice (some ⟨gi, 0, none⟩) 2 ci) ∧ w'.cell? ⟨gi, 2, none⟩ = some (.int .i64 3) ∧ gb < w'.heap.size ∧ gi < w'.heap.size) := fun W N h hb => by
  have hA : Below W.heap.size W (W.alloc (.cells #[.string ⟨#[]⟩, sl (N + 1) 1, .int .u8 4, sl (N + 2) 4, .slice none 0 0, sl (N + 7) 1] 28)) := below_alloc (Below.refl _ _) _
  refine Calls.mono (ex_apply (grs_one (G := exG) h) (hP.below (below_trans hb hA))) ?_
  rintro e w' ⟨pa, va, aa, pl, pc, vl, vc, al, ac, gb, cb, gi, ci, h1, h2, h3⟩
  exact ⟨pa, va, aa, pl, pc, vl, vc, al, ac, gb, cb, gi, ci, h1, below_trans hA h2, h3⟩
 have HND : Hid (∀ W N, GrAt W (sl (N + 1) 1) (sl (N + 2) 4) (.slice none 0 0) (sl (N + 7) 1) exG → Below w.heap.size w W → Calls Tryz.prog 9 #[.agg #[.string ⟨#[]⟩, sl (N + 1) 1, .int .u8 4, sl (N + 2) 4, .slice none 0 0, sl (N + 7) 1]] W fun e w' => ∃ a c, e = .returned (.slice a 4 c) ∧ Below W.heap.size W w' ∧ BosAt w' (.slice a 4 c) [true, false, false, true]) := fun W N h hb => by
  refine Calls.mono (dNeeded_any exG _ _ _ _ W h (hP.below hb) ⟨by decide, fun b hb2 => by rw [List.mem_singleton.1 hb2]; decide⟩) ?_
  rintro e w' ⟨v, he, hb2, ho, _⟩
  have h9 := (ho ex_alone).at' (by rw [needL_len]; decide)
  rw [ex_need] at h9
  obtain ⟨a, c, rfl, _⟩ := row_form h9
  exact ⟨a, c, he, hb2, h9⟩
 have HTR : Hid (∀ W a c, BosAt W (.slice a 4 c) [true, false, false, true] → Calls Tryz.prog 11 #[.slice a 4 c, .slice (some ⟨W.heap.size, 0, none⟩) 4 4] (W.alloc (.cells #[.bool true, .bool false, .bool false, .bool true] 4)) fun e w' => e = .returned (.bool true) ∧ Below W.heap.size W w') := fun W a c h => by
  have hA : Below W.heap.size W (W.alloc (.cells #[.bool true, .bool false, .bool false, .bool true] 4)) := below_alloc (Below.refl _ _) _
  exact Calls.mono (truths_yes [true, false, false, true] _ _ _ (h.below hA) (bos_lit W)) fun e w' ⟨h1, h2⟩ => ⟨h1, below_trans hA h2⟩
 clear hP
 go_enter Tryz.func6, Tryz.ntmps6
 go_wp2_with (first
  | (go_at_call 21; go_loud (refine Calls.mono (by exact HEX.out _) ?_; rintro e w1 ⟨N1, rfl, hG1, hb1⟩; have HG1 : Hid _ := hG1; have HB1 : Hid (Below w.heap.size w w1) := (by first | exact hb1 | exact below_trans (below_alloc HB3.out _) hb1); clear hG1 hb1))
  | (go_at_call 15; go_loud (refine Calls.mono (by exact HAP.out _ _ HG1.out HB1.out) ?_; rintro e w3 ⟨pa, va, aa, pl, pc, vl, vc, al, ac, gb, cb, gi, ci, rfl, hb3, k0, k1, k2, k3⟩; have HB3 : Hid (Below w.heap.size w w3) := below_trans HB1.out hb3; clear hb3))
  | (go_at_call 9; go_loud (refine Calls.mono (by exact HND.out _ _ HG1.out HB1.out) ?_; rintro e w5 ⟨na, nc, rfl, hb5, hn5⟩; have HB5 : Hid (Below w.heap.size w w5) := below_trans HB1.out hb5; have HN5 : Hid _ := hn5; clear hb5 hn5))
  | (go_at_call 11; go_loud (refine Calls.mono (by exact HTR.out _ _ _ HN5.out) ?_; rintro e w6 ⟨rfl, hb6⟩; have HB6 : Hid (Below w.heap.size w w6) := below_trans HB5.out hb6; clear hb6)))
 go_ret
 exact ⟨rfl, HB6.out⟩
end Go.Proofs.YtajaijilfclhpaaGreatDoor
