/- The document's side: what is live of all variables. -/
import Derived.Test.YtcggbedjhglmmaaGreatDoorLRo
import Derived.Test.YtcggbedjhglmmaaGreatDoorGRef3M
import Derived.Test.YtcggbedjhglmmaaGreatDoorGRAllM
import Derived.Test.YtcggbedjhglmmaaGreatDoorLLv
namespace Go.Proofs.YtcggbedjhglmmaaGreatDoor
open Go.RowKit

theorem heap_one {wr : World} {base : Nat} {s : Slot} (h : s.At wr base) : Heap wr base [s] := ⟨fun i t ht => by
    cases i with
    | zero => cases ht; exact h
    | succ i => simp at ht, fun i j a b g hij ha hb => by
    cases i with
    | zero => cases j with
      | zero => exact absurd rfl hij
      | succ j => simp at hb
    | succ i => simp at ha⟩
theorem rls_start {w1 wr : World} {gA gB n : Nat} (hb : Below w1.heap.size w1 wr) (oa : wr.ownsRow w1.heap.size 22 1 (.slice (some ⟨gA, 0, none⟩) n n) n (List.replicate n (.slice none 0 0))) (ob : wr.ownsRow w1.heap.size 22 1 (.slice (some ⟨gB, 0, none⟩) n n) n (List.replicate n (.slice none 0 0))) (hne : gA ≠ gB) :
    ∃ ss, RLs w1 wr gA gB n (List.replicate n (.slice none 0 0)) (List.replicate n (.slice none 0 0)) (List.replicate n []) (List.replicate n []) ss ∧ ss.length = 2 * n + 2 := by
  have hA : Heap wr w1.heap.size [hdS true (rowN gA n) n] := heap_one oa
  have hB : Heap wr w1.heap.size [hdS true (rowN gB n) n] := heap_one ob
  have hAB : Heap wr w1.heap.size ((hdS true (rowN gA n) n :: List.replicate n nilI) ++ (hdS true (rowN gB n) n :: List.replicate n nilI)) := by
    refine (hA.nils n).append' (hB.nils n) fun s hs t ht g hg hc => ?_
    have ns : ∀ u ∈ List.replicate n nilI, u.v.ownBlock ≠ some g := fun u hu e => by rw [List.eq_of_mem_replicate hu] at e; simp [nilI, Value.ownBlock] at e
    rcases List.mem_cons.1 hs with rfl | hs
    · rcases List.mem_cons.1 ht with rfl | ht
      · have e1 : gA = g := by simpa [hdS, rowN, Value.ownBlock] using hg
        have e2 : gB = g := by simpa [hdS, rowN, Value.ownBlock] using hc
        exact hne (e1.trans e2.symm)
      · exact ns t ht hc
    · exact ns s hs hg
  have a1 := ans_start [] (hdS true (rowN gB n) n :: List.replicate n nilI) gA n
  have a2 := ans_start (hdS true (rowN gA n) n :: List.replicate n nilI) [] gB n
  rw [List.append_nil] at a2
  rw [show (hdS true (rowN gA n) n :: List.replicate n nilI).length = n + 1 by simp] at a2
  exact ⟨_, ⟨hb, hAB, a1, a2⟩, by simp; omega⟩
/-- a row's cell: its form, its own row -/
theorem Ans.kid {w : World} {base : Nat} {ss : List Slot} (hh : Heap w base ss) {j G n : Nat} {kvs : List Value} {rows : List (List Int)} (ha : Ans ss j G n kvs rows) {i : Nat} {r : List Int} (hr : rows[i]? = some r) (hl : r.length ≤ 1000000) : ∃ (xa : Option Addr) (xc : Nat), kvs[i]? = some (.slice xa r.length xc) ∧ w.ownsRow base 3 1 (.slice xa r.length xc) r.length (r.map intV) ∧ w.cell? ⟨G, i, none⟩ = some (.slice xa r.length xc) := by
  have hi : i < kvs.length := by have := (List.getElem?_eq_some_iff.1 hr).1; rw [ha.rl] at this; rw [ha.kl]; exact this
  have hk : kvs[i]? = some kvs[i] := List.getElem?_eq_getElem hi
  generalize kvs[i] = kv at hk
  have ho := hh.own _ _ (ha.row i r kv hr hk)
  obtain ⟨xa, xc, e, _⟩ := (OwnI.at' (w := w) (base := base) (v := kv) (l := r) ho (by omega)).form
  subst e
  exact ⟨xa, xc, hk, ho, hh.cell ha.head (j := i) hk⟩
theorem RLi.rows {w1 wr : World} {gA gB n : Nat} {ka kb : List Value} {ra rb ra' rb' : List (List Int)} {hA hB : Nat} {a b : List Bool} {ss : List Slot} (h : RLi w1 wr gA gB n ka kb ra rb hA hB a b ss) (ea : ra' = ra) (eb : rb' = rb) : RLi w1 wr gA gB n ka kb ra' rb' hA hB a b ss := by
  subst ea eb; exact h
theorem own_told {w : World} {base : Nat} {v' : Value} {l : Nat} {R : List Int} {x : Int} (hl : R.length = l) (h : w.ownsRow base 3 1 v' (l + 1) (R.map intV ++ [intV x])) : OwnI w base v' (R ++ [x]) := by
  show World.ownsRow _ _ _ _ _ _ _
  rw [List.length_append, hl, List.map_append]
  exact h
theorem told_at {v' kv : Value} {z z' : Nat} (h : v'.ownBlock = kv.ownBlock ∨ v'.ownBlock = some z) (hz : z' = z) : ∀ g, v'.ownBlock = some g → kv.ownBlock = some g ∨ z' ≤ g := fun g hg => by
  subst hz
  rcases h with e | e
  · exact .inl (by rw [← e]; exact hg)
  · rw [hg] at e; cases e; exact .inr (Nat.le_refl _)
set_option maxRecDepth 100000 in
set_option maxHeartbeats 8000000 in
theorem rlive_any (G : Gr) (pv vv av bv : Value) (w : World) (h : GrAt w pv vv av bv G) (hsz : szB G.blocks ≤ 300000) (hnb : G.blocks.length ≤ 100000) (hnv : G.vars.length ≤ 800000) :
    Calls Tryz.prog 8 #[.agg #[.string G.name, pv, .int .u8 G.result, vv, av, bv]] w fun e w' => LvPost w (aloneG G) G.blocks (aheadT (tms G.blocks)) G.blocks.length G.vars.length e w' := by
  have HAL : Hid (∀ W, Below w.heap.size w W → Calls Tryz.prog 24 #[.agg #[.string G.name, pv, .int .u8 G.result, vv, av, bv]] W fun e w' => e = .returned (.bool (aloneG G)) ∧ Below W.heap.size W w') := fun W hb => raloneG_any G pv vv av bv W (h.below hb) hnb
  have HAH : Hid (∀ W, Below w.heap.size w W → _) := fun W hW => rahead_any G pv vv av bv W (h.below hW) hnb
  have hahl : (aheadT (tms G.blocks)).length = G.blocks.length := by rw [aheadT_len]; simp [tms]
  have HON : Hid (aloneG G = true → ∀ W, Below w.heap.size w W → ∀ ahv, NetAt W ahv (aheadT (tms G.blocks)) → ∀ v : Int, _) := fun ha W hb ahv hN v => rone_any G pv vv av bv ahv (aheadT (tms G.blocks)) v W (h.below hb) hN hahl hnb (fun to ht x hx hk => ((stp_ok ha hsz).resolve_right (fun c => c (by omega))).phi to ht x hx hk) (fun i hi t ht => rend_next (alone_ins ha _ (blk_mem hi)).1 t ht)
  have HLL : Hid (∀ r ∈ aheadT (tms G.blocks), r.length ≤ 140737488355328) := fun r hr => by
    obtain ⟨j, hj, he⟩ := List.mem_iff_getElem.1 hr
    have h9 := ahead_len (bs := G.blocks) j
    rw [getD_of hj, he] at h9
    omega
  obtain ⟨pa, pc, va, vc, aa, ac, ba, bc, rfl, rfl, rfl, rfl, _, _, _, _⟩ := h.openF
  clear h hsz hahl
  generalize aheadT (tms G.blocks) = ah at *
  generalize hAG : aloneG G = AG at *
  clear hAG
  obtain ⟨nm, ps, r, vs, ars, bs⟩ := G
  dsimp only at *
  generalize ps.length = pl at *
  generalize vs.length = m at *
  generalize ars.length = al at *
  generalize hbn : bs.length = n at *
  have HBN : Hid (bs.length = n) := hbn
  clear hbn
  have hn' : (n : Int) ≤ 100000 := by omega
  have hm' : (m : Int) ≤ 800000 := by omega
  have HBX0 : Hid (Box (w.alloc (.cells #[.string nm, .slice pa pl pc, .int .u8 r, .slice va m vc, .slice aa al ac, .slice ba n bc] 28)) w.heap.size [.string nm, .slice pa pl pc, .int .u8 r, .slice va m vc, .slice aa al ac, .slice ba n bc] ∧ Below w.heap.size w (w.alloc (.cells #[.string nm, .slice pa pl pc, .int .u8 r, .slice va m vc, .slice aa al ac, .slice ba n bc] 28))) := ⟨Box.new w [.string nm, .slice pa pl pc, .int .u8 r, .slice va m vc, .slice aa al ac, .slice ba n bc] 28, below_alloc (Below.refl _ _) _⟩
  cases AG with
  | false =>
    go_enter Tryz.func8, Tryz.ntmps8
    go_wp2_with (go_at_call 24; go_loud (refine Calls.mono (by exact HAL.out _ HBX0.out.2) ?_; rintro e w2 ⟨rfl, hb2⟩; have HB2 : Hid _ := below_trans HBX0.out.2 hb2; clear hb2))
    exact bodyPost_ret (results_tmp3 rfl _ _ _) rfl ⟨HB2.out, .inl ⟨rfl, rfl⟩⟩
  | true =>
  have HOX : Hid _ := HON.out rfl
  clear HON
  have hmk := make_rowsL n (by omega)
  have HN1 : Hid (n ≤ 1000000) := by show _ ≤ _; omega
  have hB1 : n ≤ 1000000 := by omega
  obtain ⟨i0, hi0, hz0, hz1, hz2⟩ := info_parts infoI
  go_enter Tryz.func8, Tryz.ntmps8
  go_wp2_with (first | (go_at_call 24; go_loud (refine Calls.mono (by exact HAL.out _ HBX0.out.2) ?_; rintro e w2 ⟨rfl, hb2⟩; obtain ⟨e0, e1, e2, e3, e4, e5⟩ := box6 (HBX0.out.1.below hb2); have HBX : Hid _ := HBX0.out.1.below hb2; have HB2 : Hid _ := below_trans HBX0.out.2 hb2; clear hb2)) | (go_at_call 25; go_loud (refine Calls.mono (by exact HAH.out _ HB2.out) ?_; rintro e w3 ⟨kvs, rfl, hr3, hb3⟩; have HR3 : Hid (NetAt w3 (.slice (some ⟨w2.heap.size + 1, 0, none⟩) n n) ah) := hr3.at' (by omega) HLL.out; have HB3 : Hid _ := below_trans HB2.out hb3; have HBX3 : Hid _ := HBX.out.below hb3; clear hr3 hb3)))
  clear e0 e1 e2 e3 e4 e5 HAL HAH HLL HBX0 HBX HB2
  have HS0 : Hid (∀ W, Below w3.heap.size w3 W → W.cell? ⟨w.heap.size, 5, none⟩ = some (.slice ba n bc)) := fun W hb => (HBX3.out.below hb).cell 5 _ rfl
  refine wp_region_late (fun wx => wx.cell? ⟨w.heap.size, 5, none⟩ = some (.slice ba n bc)) (fun _ => false) (by kernel_rfl) (HS0.out _ (below_drew (Below.refl _ _))) (fun hHeld => ?_)
  refine wpAnyL_take 0 (v := ?_) rfl (by kernel_rfl) (by kernel_rfl) (by kernel_rfl) (by kernel_rfl) (fun _ _ _ h => h) hHeld (Or.inl ⟨by rfl, ?_⟩) ?_
  rotate_left 1
  · (intro w hSw; (try dsimp only at hSw); first | (go_simp; done) | (go_simp; with_reducible rfl))
  simp only [Act.put, List.setIfInBounds_toArray]
  refine wpAnyL_take 1 (v := ?_) rfl (by kernel_rfl) (by kernel_rfl) (by kernel_rfl) (by kernel_rfl) (fun _ _ _ h => h) hHeld (Or.inl ⟨by rfl, ?_⟩) ?_
  rotate_left 1
  · (intro w hSw; (try dsimp only at hSw); first | (go_simp; done) | (go_simp; with_reducible rfl))
  simp only [Act.put]
  refine wpAnyL_take 2 (v := ?_) rfl (by kernel_rfl) (by kernel_rfl) (by kernel_rfl) (by kernel_rfl) (fun _ _ _ h => h) hHeld (Or.inl ⟨by rfl, ?_⟩) ?_
  rotate_left 1
  · (intro w hSw; (try dsimp only at hSw); first | (go_simp; done) | (go_simp; with_reducible rfl))
  simp only [Act.put]
  refine wpAnyL_take 4 (v := ?_) rfl (by kernel_rfl) (by kernel_rfl) (by kernel_rfl) (by kernel_rfl) (fun _ _ _ h => h) hHeld (Or.inl ⟨by rfl, ?_⟩) ?_
  rotate_left 1
  · (intro w hSw; (try dsimp only at hSw); first | (go_simp; done) | (go_simp; with_reducible rfl))
  simp only [Act.put]
  refine wpAnyL_take 5 (v := ?_) rfl (by kernel_rfl) (by kernel_rfl) (by kernel_rfl) (by kernel_rfl) (fun _ _ _ h => h) hHeld (Or.inl ⟨by rfl, ?_⟩) ?_
  rotate_left 1
  · (intro w hSw; (try dsimp only at hSw); first | (go_simp; done) | (go_simp; with_reducible rfl))
  simp only [Act.put]
  refine wpAnyL_take 6 (v := ?_) rfl (by kernel_rfl) (by kernel_rfl) (by kernel_rfl) (by kernel_rfl) (fun _ _ _ h => h) hHeld (Or.inl ⟨by rfl, ?_⟩) ?_
  rotate_left 1
  · (intro w hSw; (try dsimp only at hSw); first | (go_simp; done) | (go_simp; with_reducible rfl))
  simp only [Act.put]
  refine wpAnyL_inv (fun L a wr => ∃ (y0 y1 y2 y3 : Bool) (x0 x1 x2 x3 : Value), L = #[true, true, true, y0, true, true, true, y1, y2, y3] ∧ a = (⟨#[.agg #[.string nm, .slice pa pl pc, .int .u8 r, .slice va m vc, .slice aa al ac, .slice ba n bc], .pointer (some ⟨w.heap.size, 0, none⟩), .slice none 0 0, .slice none 0 0, .int .i64 0, .slice (some ⟨w2.heap.size + 1, 0, none⟩) n n, x2, x3, undef, undef, undef, undef, .agg #[.string nm, .slice pa pl pc, .int .u8 r, .slice va m vc, .slice aa al ac, .slice ba n bc], .bool true, .bool false, .agg #[.string nm, .slice pa pl pc, .int .u8 r, .slice va m vc, .slice aa al ac, .slice ba n bc], .slice (some ⟨w2.heap.size + 1, 0, none⟩) n n, .pointer (some ⟨w.heap.size, 5, none⟩), .slice ba n bc, .int .i64 (n : Int), x0, .pointer (some ⟨w.heap.size, 5, none⟩), .slice ba n bc, .int .i64 (n : Int), x1, undef, undef, undef, undef, undef, undef, undef, undef, undef, undef, undef, undef, undef, undef, undef, undef, undef, undef, undef, undef, undef, undef, undef, undef, undef, undef, undef, undef, undef, undef, undef, undef, undef, undef, undef, undef, undef, undef, undef, undef, undef, undef, undef, undef, undef, undef, undef, undef, undef, undef, undef], []⟩ : Act) ∧ Q2 22 (.slice none 0 0) w3 wr n y0 y1 y2 y3 x0 x1 x2 x3) ?hS ?hsz (by kernel_rfl) ?hend ?hstep _ _ _ _ ?hI (by rfl)
  case hS => rintro L a wr ⟨y0, y1, y2, y3, x0, x1, x2, x3, rfl, rfl, hR⟩; exact HS0.out _ hR.bel
  case hsz => rintro L a wr ⟨y0, y1, y2, y3, x0, x1, x2, x3, rfl, rfl, hR⟩; rfl
  case hI => exact ⟨false, false, false, false, undef, undef, undef, undef, rfl, rfl, Q2.start _ _ _ n _ _ _ _⟩
  case hstep =>
    rintro i o L a wr ho ⟨y0, y1, y2, y3, x0, x1, x2, x3, rfl, rfl, hR⟩ hu hd K hK0
    rcases i with _ | _ | _ | _ | _ | _ | _ | _ | _ | _ | i
    · exfalso; simp at hu
    · exfalso; simp at hu
    · exfalso; simp at hu
    · cases ho
      have hy : y0 = false := hu
      subst hy
      have HR2 : Hid _ := hR.make0 HN1.out
      have hK : Shut _ := hK0
      clear hK0 hd hR
      go_simp
      refine hK.out _ _ ?_
      exact ⟨true, y1, y2, y3, _, x1, x2, x3, rfl, rfl, HR2.out⟩
    · exfalso; simp at hu
    · exfalso; simp at hu
    · exfalso; simp at hu
    · cases ho
      have hy : y1 = false := hu
      subst hy
      have HR2 : Hid _ := hR.make1 HN1.out
      have hK : Shut _ := hK0
      clear hK0 hd hR
      go_simp
      refine hK.out _ _ ?_
      exact ⟨y0, true, y2, y3, x0, _, x2, x3, rfl, rfl, HR2.out⟩
    · cases ho
      have hy : y2 = false := hu
      subst hy
      have hz : y0 = true := hd ⟨3, .data⟩ (by simp) rfl
      subst hz
      have HR2 : Hid _ := hR.set0
      have hK : Shut _ := hK0
      clear hK0 hd hR
      go_simp
      refine hK.out _ _ ?_
      exact ⟨true, y1, true, y3, x0, x1, _, x3, rfl, rfl, HR2.out⟩
    · cases ho
      have hy : y3 = false := hu
      subst hy
      have hz : y1 = true := hd ⟨7, .data⟩ (by simp) rfl
      subst hz
      have HR2 : Hid _ := hR.set1
      have hK : Shut _ := hK0
      clear hK0 hd hR
      go_simp
      refine hK.out _ _ ?_
      exact ⟨y0, true, y2, true, x0, x1, x2, _, rfl, rfl, HR2.out⟩
    · exfalso; simp at ho
  case hend =>
    rintro L a w4 ⟨y0, y1, y2, y3, x0, x1, x2, x3, rfl, rfl, hR⟩ hall
    have q0 : y0 = true := hall 3 (by decide)
    have q1 : y1 = true := hall 7 (by decide)
    have q2 : y2 = true := hall 8 (by decide)
    have q3 : y3 = true := hall 9 (by decide)
    subst q0 q1 q2 q3
    obtain ⟨gA, gB, hne, rfl, rfl, rfl, rfl, oa, ob⟩ := hR.done
    obtain ⟨ss, hS, hsl⟩ := rls_start hR.bel oa ob hne
    have HST : Hid (RLs w3 w4 gA gB n (List.replicate n (.slice none 0 0)) (List.replicate n (.slice none 0 0)) (rowsQ (fun v i => liveIn bs ah v i) n 0) (rowsQ (fun v i => liveOut bs ah v i) n 0) ss ∧ ss.length = 2 * n + 2) := by rw [rowsQ_zero, rowsQ_zero]; exact ⟨hS, hsl⟩
    clear hR oa ob hne hS hsl hmk hall hHeld HS0
    go_wp2
    go_loopw [8] (fun vx wr => ∃ (v : Nat) (ka kb : List Value) (ss : List Slot), vx = .int .i64 v ∧ v ≤ m ∧ Hid (RLs w3 wr gA gB n ka kb (rowsQ (fun v i => liveIn bs ah v i) n v) (rowsQ (fun v i => liveOut bs ah v i) n v) ss ∧ ss.length = 2 * n + 2)) (fun vx _ => m - (intOf vx).toNat)
    case atStart => exact ⟨0, _, _, _, rfl, by omega, HST.out⟩
    case round =>
      obtain ⟨v, ka, kb, ss, rfl, hv, hr⟩ := hrel
      clear HST
      generalize wr = wo at *
      have HBW : Hid (Below w.heap.size w wo) := below_trans HB3.out hr.out.1.low
      obtain ⟨e0, e1, e2, e3, e4, e5⟩ := box6 (HBX3.out.below hr.out.1.low)
      have hwl := (HBX3.out.below hr.out.1.low).lt
      by_cases hvm : v < m
      · have hvm' : (v : Int) < m := by omega
        have HO1 : Hid _ := HOX.out wo HBW.out _ (HR3.out.below hr.out.1.low) (v : Int)
        have HRR : Hid _ := hr.out
        clear hr
        go_wp2_with (go_at_call 26; go_loud (refine Calls.mono (by exact HO1.out) ?_; rintro e w5 ⟨hA, hB, a, b, hne, rfl, oa, ob, hb5, hlv⟩; have HI0 : Hid _ := HRR.out.1.more HRR.out.2 hb5 oa ob hne; have HLV : Hid _ := hlv; clear oa ob hb5 hlv hne))
        have HI1 : Hid (RLi w3 w5 gA gB n ka kb (rowsP (fun v i => liveIn bs ah v i) n v 0) (rowsP (fun v i => liveOut bs ah v i) n v 0) hA hB a b (ss ++ [boS hA n a, boS hB n b]) ∧ (ss ++ [boS hA n a, boS hB n b]).length = 2 * n + 4) := ⟨HI0.out, by have h9 := HRR.out.2; simp; omega⟩
        clear HI0 HRR HO1 e0 e1 e2 e3 e4 e5
        go_loopw [11] (fun vi wr => ∃ (i : Nat) (ka kb : List Value) (ss : List Slot), vi = .int .i64 i ∧ i ≤ n ∧ Hid (RLi w3 wr gA gB n ka kb (rowsP (fun v i => liveIn bs ah v i) n v i) (rowsP (fun v i => liveOut bs ah v i) n v i) hA hB a b ss ∧ ss.length = 2 * n + 4)) (fun vi _ => n - (intOf vi).toNat)
        case atStart => exact ⟨0, _, _, _, rfl, by omega, HI1.out⟩
        case round =>
          obtain ⟨i, ka, kb, ss, rfl, hi, hq⟩ := hrel
          clear HI1
          generalize wr = wp at *
          obtain ⟨e0, e1, e2, e3, e4, e5⟩ := box6 (HBX3.out.below hq.out.1.st.low)
          have hwl := (HBX3.out.below hq.out.1.st.low).lt
          by_cases hin : i < n
          · have hin' : (i : Int) < n := by omega
            obtain ⟨ca, cb⟩ := hq.out.1.truths hin
            obtain ⟨la, lb⟩ := HLV.out i hin
            have er : (rowsP (fun v i => liveIn bs ah v i) n v i)[i]? = some (rowV (fun u => liveIn bs ah u i) v) := rowsP_get hin
            have es : (rowsP (fun v i => liveOut bs ah v i) n v i)[i]? = some (rowV (fun u => liveOut bs ah u i) v) := rowsP_get hin
            have hrl : (rowV (fun u => liveIn bs ah u i) v).length ≤ 800000 := Nat.le_trans (rowV_len _ _) (by omega)
            have hsl : (rowV (fun u => liveOut bs ah u i) v).length ≤ 800000 := Nat.le_trans (rowV_len _ _) (by omega)
            obtain ⟨xa, xc, kA, oA, cA⟩ := hq.out.1.st.aA.kid hq.out.1.st.heap er (by omega)
            obtain ⟨xb, xd, kB, oB, cB⟩ := hq.out.1.st.aB.kid hq.out.1.st.heap es (by omega)
            have fA : wp.frozen? ⟨gA, i, none⟩ = false := hq.out.1.st.heap.fz hq.out.1.st.aA.head i
            have fB : wp.frozen? ⟨gB, i, none⟩ = false := hq.out.1.st.heap.fz hq.out.1.st.aB.head i
            have HY : Hid (liveIn bs ah (v : Int) i → rowsP (fun v i => liveIn bs ah v i) n v (i + 1) = _) := fun hh => rowsP_yes (p := fun v i => liveIn bs ah v i) hh
            have HNO : Hid (¬ liveIn bs ah (v : Int) i → rowsP (fun v i => liveIn bs ah v i) n v (i + 1) = _) := fun hh => rowsP_no (p := fun v i => liveIn bs ah v i) hh
            have HY2 : Hid (liveOut bs ah (v : Int) i → rowsP (fun v i => liveOut bs ah v i) n v (i + 1) = _) := fun hh => rowsP_yes (p := fun v i => liveOut bs ah v i) hh
            have HNO2 : Hid (¬ liveOut bs ah (v : Int) i → rowsP (fun v i => liveOut bs ah v i) n v (i + 1) = _) := fun hh => rowsP_no (p := fun v i => liveOut bs ah v i) hh
            have HQ : Hid _ := hq.out
            have HER : Hid _ := er
            have HES : Hid _ := es
            have HKA : Hid _ := kA
            have HKB : Hid _ := kB
            have HOA : Hid (wp.ownsRow w3.heap.size 3 1 (.slice xa (rowV (fun u => liveIn bs ah u i) v).length xc) (rowV (fun u => liveIn bs ah u i) v).length ((rowV (fun u => liveIn bs ah u i) v).map intV)) := oA
            have HOB : Hid (wp.ownsRow w3.heap.size 3 1 (.slice xb (rowV (fun u => liveOut bs ah u i) v).length xd) (rowV (fun u => liveOut bs ah u i) v).length ((rowV (fun u => liveOut bs ah u i) v).map intV)) := oB
            have HLA : Hid _ := la
            have HLB : Hid _ := lb
            have HSZ3 : Hid (w3.heap.size ≤ wp.heap.size) := hq.out.1.st.low.size
            clear hq er es kA kB oA oB la lb HLV HOX
            generalize rowV (fun u => liveIn bs ah u i) v = R1 at *
            generalize rowV (fun u => liveOut bs ah u i) v = R2 at *
            generalize hl1 : R1.length = l1 at *
            generalize hl2 : R2.length = l2 at *
            have HL1 : Hid (R1.length = l1) := hl1
            have HL2 : Hid (R2.length = l2) := hl2
            clear hl1 hl2
            rcases hai : a.getD i false with _ | _ <;> rcases hbi : b.getD i false with _ | _
            · rw [hai] at ca
              rw [hbi] at cb
              have HRA : Hid _ := HNO.out (fun hc => by have h9 := HLA.out.2 hc; unfold onB at h9; rw [hai] at h9; cases h9)
              have HRB : Hid _ := HNO2.out (fun hc => by have h9 := HLB.out.2 hc; unfold onB at h9; rw [hbi] at h9; cases h9)
              clear HY HNO HY2 HNO2 HLA HLB
              go_wp2
              go_roundw
              case rel => exact ⟨i + 1, _, _, _, by first | rfl | (congr 1; omega), by omega, HQ.out.1.rows HRA.out HRB.out, HQ.out.2⟩
              case measure => simp [intOf]; omega
            · rw [hai] at ca
              rw [hbi] at cb
              have HRA : Hid _ := HNO.out (fun hc => by have h9 := HLA.out.2 hc; unfold onB at h9; rw [hai] at h9; cases h9)
              have HRB : Hid _ := HY2.out (HLB.out.1 hbi)
              clear HY HNO HY2 HNO2 HLA HLB
              go_wp2_with (at_builtin; go_loud (refine wpList_append_own_at _ rfl _ _ 22 rfl w3.heap.size 3 i0 (.int .i64 0) 1 8 Tryz.underlying22 hi0 hz0 hz1 hz2 rfl (by decide) _ l2 (R2.map intV) rfl (HOB.out.alloc _) ⟨wp.heap.size, 0, none⟩ 1 1 [intV (v : Int)] rfl rfl ?c1 ?c2 ?c3 ?c4 ?c5 ?_))
              case c1 => exact cell_one_new wp _ _
              case c2 => intro u hu; simp at hu; subst hu; rfl
              case c3 => unfold maxLen; omega
              case c4 => omega
              case c5 => have h9 := HQ.out.1.st.low.size; simp; omega
              intro vb2 wb ho hg2 _ hat
              obtain ⟨g_vb2, c_vb2, rfl, _, _, _, _⟩ := own_form ho
              obtain ⟨⟨ss_vb2, hR_vb2, hn_vb2⟩, q5, q6⟩ := (HQ.out.1.below (below_alloc (Below.refl _ _) (.cells #[intV (v : Int)] 3))).tellB HES.out HKB.out (own_told HL2.out ho) hg2 (told_at hat (by simp))
              have H_vb2 : Hid _ := And.intro hR_vb2 (hn_vb2.trans HQ.out.2)
              obtain ⟨p0, p1, p2, p3, p4, p5⟩ := box6 (HBX3.out.below hR_vb2.st.low)
              clear hR_vb2 hn_vb2 ho hg2 hat
              go_wp2
              go_roundw
              case rel => exact ⟨i + 1, _, _, _, by first | rfl | (congr 1; omega), by omega, H_vb2.out.1.rows HRA.out HRB.out, H_vb2.out.2⟩
              case measure => simp [intOf]; omega
            · rw [hai] at ca
              rw [hbi] at cb
              have HRA : Hid _ := HY.out (HLA.out.1 hai)
              have HRB : Hid _ := HNO2.out (fun hc => by have h9 := HLB.out.2 hc; unfold onB at h9; rw [hbi] at h9; cases h9)
              clear HY HNO HY2 HNO2 HLA HLB
              go_wp2_with (at_builtin; go_loud (refine wpList_append_own_at _ rfl _ _ 22 rfl w3.heap.size 3 i0 (.int .i64 0) 1 8 Tryz.underlying22 hi0 hz0 hz1 hz2 rfl (by decide) _ l1 (R1.map intV) rfl (HOA.out.alloc _) ⟨wp.heap.size, 0, none⟩ 1 1 [intV (v : Int)] rfl rfl ?c1 ?c2 ?c3 ?c4 ?c5 ?_))
              case c1 => exact cell_one_new wp _ _
              case c2 => intro u hu; simp at hu; subst hu; rfl
              case c3 => unfold maxLen; omega
              case c4 => omega
              case c5 => have h9 := HQ.out.1.st.low.size; simp; omega
              intro va2 wa ho hg2 _ hat
              obtain ⟨g_va2, c_va2, rfl, _, _, _, _⟩ := own_form ho
              obtain ⟨⟨ss_va2, hR_va2, hn_va2⟩, q5, q6⟩ := (HQ.out.1.below (below_alloc (Below.refl _ _) (.cells #[intV (v : Int)] 3))).tellA HER.out HKA.out (own_told HL1.out ho) hg2 (told_at hat (by simp))
              have H_va2 : Hid _ := And.intro hR_va2 (hn_va2.trans HQ.out.2)
              obtain ⟨ca2, cb2⟩ := hR_va2.truths hin
              rw [hbi] at cb2
              obtain ⟨xb2, xd2, kB2, oB2, cB2⟩ := hR_va2.st.aB.kid hR_va2.st.heap HES.out (by rw [HL2.out]; omega)
              have fB2 := hR_va2.st.heap.fz hR_va2.st.aB.head i
              rw [HL2.out] at kB2 oB2 cB2
              have HKB2 : Hid _ := kB2
              have HOB2 : Hid (World.ownsRow (wa.setCell ⟨gA, i, none⟩ (.slice (some ⟨g_va2, 0, none⟩) (l1 + 1) c_va2)) w3.heap.size 3 1 (.slice xb2 l2 xd2) l2 (R2.map intV)) := oB2
              obtain ⟨f0, f1, f2, f3, f4, f5⟩ := box6 (HBX3.out.below hR_va2.st.low)
              have hwl2 := (HBX3.out.below hR_va2.st.low).lt
              have HSC : Hid ((wa.setCell ⟨gA, i, none⟩ (.slice (some ⟨g_va2, 0, none⟩) (l1 + 1) c_va2)).heap.size = wa.heap.size) := by show _ = _; simp [World.setCell]
              clear hR_va2 hn_va2 ho hg2 hat kB2 oB2
              go_wp2
              go_roundw
              case rel => exact ⟨i + 1, _, _, _, by first | rfl | (congr 1; omega), by omega, H_va2.out.1.rows HRA.out HRB.out, H_va2.out.2⟩
              case measure => simp [intOf]; omega
            · rw [hai] at ca
              rw [hbi] at cb
              have HRA : Hid _ := HY.out (HLA.out.1 hai)
              have HRB : Hid _ := HY2.out (HLB.out.1 hbi)
              clear HY HNO HY2 HNO2 HLA HLB
              go_wp2_with (at_builtin; go_loud (refine wpList_append_own_at _ rfl _ _ 22 rfl w3.heap.size 3 i0 (.int .i64 0) 1 8 Tryz.underlying22 hi0 hz0 hz1 hz2 rfl (by decide) _ l1 (R1.map intV) rfl (HOA.out.alloc _) ⟨wp.heap.size, 0, none⟩ 1 1 [intV (v : Int)] rfl rfl ?c1 ?c2 ?c3 ?c4 ?c5 ?_))
              case c1 => exact cell_one_new wp _ _
              case c2 => intro u hu; simp at hu; subst hu; rfl
              case c3 => unfold maxLen; omega
              case c4 => omega
              case c5 => have h9 := HQ.out.1.st.low.size; simp; omega
              intro va2 wa ho hg2 _ hat
              obtain ⟨g_va2, c_va2, rfl, _, _, _, _⟩ := own_form ho
              obtain ⟨⟨ss_va2, hR_va2, hn_va2⟩, q5, q6⟩ := (HQ.out.1.below (below_alloc (Below.refl _ _) (.cells #[intV (v : Int)] 3))).tellA HER.out HKA.out (own_told HL1.out ho) hg2 (told_at hat (by simp))
              have H_va2 : Hid _ := And.intro hR_va2 (hn_va2.trans HQ.out.2)
              obtain ⟨ca2, cb2⟩ := hR_va2.truths hin
              rw [hbi] at cb2
              obtain ⟨xb2, xd2, kB2, oB2, cB2⟩ := hR_va2.st.aB.kid hR_va2.st.heap HES.out (by rw [HL2.out]; omega)
              have fB2 := hR_va2.st.heap.fz hR_va2.st.aB.head i
              rw [HL2.out] at kB2 oB2 cB2
              have HKB2 : Hid _ := kB2
              have HOB2 : Hid (World.ownsRow (wa.setCell ⟨gA, i, none⟩ (.slice (some ⟨g_va2, 0, none⟩) (l1 + 1) c_va2)) w3.heap.size 3 1 (.slice xb2 l2 xd2) l2 (R2.map intV)) := oB2
              obtain ⟨f0, f1, f2, f3, f4, f5⟩ := box6 (HBX3.out.below hR_va2.st.low)
              have hwl2 := (HBX3.out.below hR_va2.st.low).lt
              have HSC : Hid ((wa.setCell ⟨gA, i, none⟩ (.slice (some ⟨g_va2, 0, none⟩) (l1 + 1) c_va2)).heap.size = wa.heap.size) := by show _ = _; simp [World.setCell]
              clear hR_va2 hn_va2 ho hg2 hat kB2 oB2
              go_wp2_with (at_builtin; go_loud (refine wpList_append_own_at _ rfl _ _ 22 rfl w3.heap.size 3 i0 (.int .i64 0) 1 8 Tryz.underlying22 hi0 hz0 hz1 hz2 rfl (by decide) _ l2 (R2.map intV) rfl (HOB2.out.alloc _) ⟨wa.heap.size, 0, none⟩ 1 1 [intV (v : Int)] rfl rfl ?c1 ?c2 ?c3 ?c4 ?c5 ?_))
              case c1 => have h8 := cell_one_new (wa.setCell ⟨gA, i, none⟩ (.slice (some ⟨g_va2, 0, none⟩) (l1 + 1) c_va2)) (intV (v : Int)) 3; rw [HSC.out] at h8; exact h8
              case c2 => intro u hu; simp at hu; subst hu; rfl
              case c3 => unfold maxLen; omega
              case c4 => omega
              case c5 => have h9 := H_va2.out.1.st.low.size; rw [HSC.out] at h9; simp; omega
              intro vb2 wb ho hg2 _ hat
              obtain ⟨g_vb2, c_vb2, rfl, _, _, _, _⟩ := own_form ho
              obtain ⟨⟨ss_vb2, hR_vb2, hn_vb2⟩, q7, q8⟩ := (H_va2.out.1.below (below_alloc (Below.refl _ _) (.cells #[intV (v : Int)] 3))).tellB HES.out HKB2.out (own_told HL2.out ho) hg2 (told_at hat (by simp))
              have H_vb2 : Hid _ := And.intro hR_vb2 (hn_vb2.trans H_va2.out.2)
              obtain ⟨p0, p1, p2, p3, p4, p5⟩ := box6 (HBX3.out.below hR_vb2.st.low)
              clear hR_vb2 hn_vb2 ho hg2 hat
              go_wp2
              go_roundw
              case rel => exact ⟨i + 1, _, _, _, by first | rfl | (congr 1; omega), by omega, H_vb2.out.1.rows HRA.out HRB.out, H_vb2.out.2⟩
              case measure => simp [intOf]; omega
          · obtain rfl : i = n := by omega
            obtain ⟨hS, hsl⟩ := hq.out.1.less (by have := hq.out.2; omega)
            rw [rowsP_full, rowsP_full] at hS
            have HS : Hid _ := hS
            have HSL : Hid _ := hsl
            clear hq hS hsl HLV HOX
            go_wp2
            go_roundw
            case rel => exact ⟨v + 1, _, _, _, by first | rfl | (congr 1; omega), by omega, HS.out, HSL.out⟩
            case measure => simp [intOf]; omega
      · obtain rfl : v = m := by omega
        have HRR : Hid _ := hr.out
        clear hr HOX
        go_wp2
        refine bodyPost_ret (results_tmp3 rfl _ _ _) rfl ⟨HBW.out, .inr ⟨rfl, gA, gB, ka, kb, rfl, ?_, ?_⟩⟩
        · exact ans_rows HRR.out.1.heap HB3.out.size HRR.out.1.aA
        · exact ans_rows HRR.out.1.heap HB3.out.size HRR.out.1.aB
end Go.Proofs.YtcggbedjhglmmaaGreatDoor
