/- The program's places, whether a net may be, going up a list. -/
import Derived.Test.YtogjjmbcbnceoaaGreatDOkM
import Derived.Test.YtogjjmbcbnceoaaGreatDMay
namespace Go.Proofs.YtogjjmbcbnceoaaGreat
open Go.RowKit

theorem place_yes (i n : Int) (h0 : 0 ≤ i) (h1 : i < n) (w : World) : Calls Tryz.prog 34 #[.int .i64 i, .int .i64 n] w fun e w' => e = .returned (.bool true) ∧ w = w' := by
  go_enter Tryz.func34, Tryz.ntmps34
  go_wp2
  go_ret
  exact ⟨rfl, rfl⟩
theorem place_no (i n : Int) (h : ¬ (0 ≤ i ∧ i < n)) (w : World) : Calls Tryz.prog 34 #[.int .i64 i, .int .i64 n] w fun e w' => e = .returned (.bool false) ∧ w = w' := by
  by_cases h0 : 0 ≤ i
  · have h1 : ¬ i < n := fun h1 => h ⟨h0, h1⟩
    clear h
    go_enter Tryz.func34, Tryz.ntmps34
    go_wp2
    go_ret
    exact ⟨rfl, rfl⟩
  · clear h
    go_enter Tryz.func34, Tryz.ntmps34
    go_wp2
    go_ret
    exact ⟨rfl, rfl⟩
theorem overF_one {t : List Int} {a b : Int} : overF t a 1 b = decide (a = b) := by
  unfold overF
  by_cases h : a = b
  · rw [if_pos h]; simp [h]
  · rw [if_neg h]
    simp only [overF_zero]
    simp [h]
set_option maxRecDepth 100000 in
set_option maxHeartbeats 1000000 in
theorem over_any' (t : List Int) (a b : Int) (v : Value) (w : World) (h : IntsAt w v t) : Calls Tryz.prog 11 #[v, .int .i64 a, .int .i64 b] w fun e w' => e = .returned (.bool (overL t a b)) ∧ ∃ k, w' = w.drewN k := by
  obtain ⟨ta, tc, rfl, hll⟩ := h.form
  have HI : Hid (∀ i, i < t.length → _) := fun i hi => h.get (i := i) hi
  have HQ : Hid (∀ f, overF t a (f + 1) a = true) := fun f => overF_eq t a f
  have HU : Hid (∀ (b : Int) (f : Nat), a ≠ b → 0 ≤ t.getD b.toNat 0 ∧ t.getD b.toNat 0 < (t.length : Int) → _) := fun b f hn h => overF_up (f := f) hn h
  have HX : Hid (∀ (b : Int) (f : Nat), a ≠ b → ¬ (0 ≤ t.getD b.toNat 0 ∧ t.getD b.toNat 0 < (t.length : Int)) → _) := fun b f hn h => overF_out (f := f) hn h
  have HO : Hid (∀ b, overF t a 1 b = decide (a = b)) := fun b => overF_one
  unfold overL
  obtain ⟨n, hn⟩ : ∃ n, n = t.length := ⟨_, rfl⟩
  rw [← hn] at HI hll HU HX
  rw [← hn]
  clear h hn
  by_cases ha : 0 ≤ a ∧ a < (n : Int)
  case neg =>
    rw [if_neg (fun hc => ha hc.1)]
    have HP : Hid (∀ W, Calls Tryz.prog 34 #[.int .i64 a, .int .i64 (n : Int)] W fun e w' => e = .returned (.bool false) ∧ W = w') := fun W => place_no a n ha W
    clear HI HQ HU HX HO
    go_enter Tryz.func11, Tryz.ntmps11
    go_wp2_with (go_at_call 34; go_loud (refine Calls.mono (HP.out _) ?_; rintro e w1 ⟨rfl, rfl⟩))
    go_ret
    exact ⟨rfl, 0, rfl⟩
  have HP : Hid (∀ W, Calls Tryz.prog 34 #[.int .i64 a, .int .i64 (n : Int)] W fun e w' => e = .returned (.bool true) ∧ W = w') := fun W => place_yes a n ha.1 ha.2 W
  obtain ⟨R, hR⟩ : ∃ R, R = (if (0 ≤ a ∧ a < (n : Int)) ∧ (0 ≤ b ∧ b < (n : Int)) then overF t a (n + 1) b else false) := ⟨_, rfl⟩
  rw [← hR]
  have HR : Hid ((0 ≤ b ∧ b < (n : Int) → overF t a (n - 0 + 1) b = R) ∧ (¬ (0 ≤ b ∧ b < (n : Int)) → R = false)) := ⟨fun hb => by rw [hR, if_pos ⟨ha, hb⟩]; rfl, fun hb => by rw [hR, if_neg (fun hc => hb hc.2)]⟩
  have HA : Hid _ := ha
  clear hR ha
  go_enter Tryz.func11, Tryz.ntmps11
  go_wp2_with (go_at_call 34; go_loud (refine Calls.mono (HP.out _) ?_; rintro e w1 ⟨rfl, rfl⟩))
  clear HP
  go_loopw [2, 14] (fun vb vi wr => ∃ (i : Nat) (b : Int), vi = .int .i64 i ∧ i ≤ n ∧ vb = .int .i64 b ∧ Hid ((0 ≤ b ∧ b < (n : Int) → overF t a (n - i + 1) b = R) ∧ (¬ (0 ≤ b ∧ b < (n : Int)) → R = false)) ∧ ∃ k, wr = w.drewN k) (fun _ vi _ => n - (intOf vi).toNat)
  case atStart => exact ⟨0, b, rfl, by omega, rfl, HR.out, 0, rfl⟩
  case round =>
    obtain ⟨i, b1, rfl, hi, rfl, hr, hw⟩ := hrel
    have HW : Hid _ := hw
    clear HR hw
    by_cases hin : i < n
    · have hin' : (i : Int) < n := by omega
      by_cases hab : a = b1
      · subst hab
        have HT : Hid (R = true) := by show R = true; rw [← hr.out.1 HA.out]; exact HQ.out _
        clear HI HQ HU HX HO hr HA
        go_wp2
        go_ret
        exact ⟨ret_bool (by rw [HT.out]; try simp), HW.out⟩
      · have habf : (a == b1) = false := beq_false_of_ne hab
        by_cases hb : 0 ≤ b1 ∧ b1 < (n : Int)
        · have HP : Hid (∀ W, Calls Tryz.prog 34 #[.int .i64 b1, .int .i64 (n : Int)] W fun e w' => e = .returned (.bool true) ∧ W = w') := fun W => place_yes b1 n hb.1 hb.2 W
          have hRR := hr.out.1 hb
          have HRR : Hid (overF t a (n - i + 1) b1 = R) := hRR
          obtain ⟨b2, hb2⟩ : ∃ b2 : Nat, b1 = (b2 : Int) := Int.eq_ofNat_of_zero_le hb.1
          subst hb2
          have hb2n : b2 < n := by have := hb.2; omega
          obtain ⟨g, o, rfl, hg, c0⟩ := HI.out b2 hb2n
          have hb2n' : (b2 : Int) < n := by omega
          have HU1 : Hid _ := HU.out (b2 : Int) (n - i) hab
          have HX1 : Hid _ := HX.out (b2 : Int) (n - i) hab
          rw [Int.toNat_natCast] at HU1 HX1
          clear HI HQ HU HX hr hb hRR
          generalize t.getD b2 0 = y at *
          have HN : Hid ((0 ≤ y ∧ y < (n : Int) → overF t a (n - (i + 1) + 1) y = R) ∧ (¬ (0 ≤ y ∧ y < (n : Int)) → R = false)) := ⟨fun hy => by rw [show n - (i + 1) + 1 = n - i by omega, ← HRR.out]; exact (HU1.out hy).symm, fun hy => by rw [← HRR.out]; exact HX1.out hy⟩
          obtain ⟨k0, hk0⟩ := HW.out
          have c1 : wr.cell? ⟨g, o + b2, none⟩ = some (.int .i64 y) := by rw [hk0]; exact c0
          have HW2 : Hid (wr = w.drewN k0) := hk0
          clear HU1 HX1 HRR HW hk0 c0
          go_wp2_with (go_at_call 34; go_loud (refine Calls.mono (HP.out _) ?_; rintro e w1 ⟨rfl, rfl⟩))
          go_roundw
          case rel => exact ⟨i + 1, y, by first | rfl | (congr 1; omega), by omega, rfl, HN.out, k0, HW2.out⟩
          case measure => simp [intOf]; omega
        · have HP : Hid (∀ W, Calls Tryz.prog 34 #[.int .i64 b1, .int .i64 (n : Int)] W fun e w' => e = .returned (.bool false) ∧ W = w') := fun W => place_no b1 n hb W
          have HT : Hid (R = false) := hr.out.2 hb
          clear HI HQ HU HX HO hr HA hb
          go_wp2_with (go_at_call 34; go_loud (refine Calls.mono (HP.out _) ?_; rintro e w1 ⟨rfl, rfl⟩))
          go_ret
          exact ⟨ret_bool (by rw [HT.out]; try simp [hab]), HW.out⟩
    · obtain rfl : i = n := by omega
      have HT : Hid (R = decide (a = b1)) := by
        show R = _
        by_cases hb : 0 ≤ b1 ∧ b1 < (i : Int)
        · rw [← hr.out.1 hb, Nat.sub_self]; exact HO.out _
        · rw [hr.out.2 hb]
          symm
          exact decide_eq_false (fun e => hb (e ▸ HA.out))
      clear HI HQ HU HX HO hr HA
      go_wp2
      go_ret
      exact ⟨ret_bool (by rw [HT.out]; try (first | rfl | simp)), HW.out⟩
theorem over_ok : OverOk := fun t a b v w h => over_any' t a b v w h
end Go.Proofs.YtogjjmbcbnceoaaGreat
/- The program: whether a net may be; what stands under each place. -/
namespace Go.Proofs.YtogjjmbcbnceoaaGreat
open Go.RowKit

set_option maxRecDepth 100000 in
set_option maxHeartbeats 1000000 in
theorem maybe_any (nx : List (List Int)) (v : Value) (w : World) (h : NetAt w v nx) : Calls Tryz.prog 30 #[v] w fun e w' => e = .returned (.bool (dec (May nx))) ∧ Below w.heap.size w w' := by
  obtain ⟨a, c, rfl, hll⟩ := h.form
  have HI : Hid (∀ i, i < nx.length → _) := fun i hi => h.get (i := i) hi
  have HN : Hid (∀ i k, i < nx.length → k < (nx.getD i []).length → ¬ (0 ≤ (nx.getD i []).getD k 0 ∧ (nx.getD i []).getD k 0 < (nx.length : Int)) → dec (May nx) = false) := fun i k hi hk hn => dec_false fun hm => hn (hm.row hi hk)
  have HT : Hid (MayTo nx nx.length → 0 < nx.length → dec (May nx) = true) := fun h h0 => dec_true (h.all h0)
  have H0 : Hid (nx.length = 0 → dec (May nx) = false) := fun h0 => dec_false fun hm => by have := hm.1; omega
  have HS : Hid (∀ i, MayTo nx i → RowTo nx.length (nx.getD i []) (nx.getD i []).length → MayTo nx (i + 1)) := fun i h1 h2 => h1.next h2
  obtain ⟨R, hR⟩ : ∃ R, R = dec (May nx) := ⟨_, rfl⟩
  rw [← hR] at HN HT H0
  rw [← hR]
  clear hR h
  obtain ⟨n, hn⟩ : ∃ n, n = nx.length := ⟨_, rfl⟩
  rw [← hn] at HI HN HT H0 HS hll
  rw [← hn]
  clear hn
  go_enter Tryz.func30, Tryz.ntmps30
  go_wp2
  go_loopw [9] (fun vi wr => ∃ i : Nat, vi = .int .i64 i ∧ i ≤ n ∧ Hid (MayTo nx i ∧ Below w.heap.size w wr)) (fun vi _ => n - (intOf vi).toNat)
  case atStart => exact ⟨0, rfl, by omega, fun q hq => by omega, Below.refl _ _⟩
  case round =>
    obtain ⟨i, rfl, hi, hr⟩ := hrel
    generalize wr = wo at *
    by_cases hin : i < n
    · obtain ⟨g, o, ra, rc, rfl, hg, c0, hI⟩ := HI.out i hin
      have hin' : (i : Int) < n := by omega
      have c9 : wo.cell? ⟨g, o + i, none⟩ = some (.slice ra (nx.getD i []).length rc) := (hr.out.2.cell (p := ⟨g, o + i, none⟩) hg).trans c0
      obtain ⟨_, _, _, hml⟩ := hI.form
      have HS' : Hid _ := HS.out i hr.out.1
      have HN' : Hid (∀ k, k < (nx.getD i []).length → _) := fun k hk => HN.out i k hin hk
      have HR : Hid (∀ k, k < (nx.getD i []).length → _) := fun k hk => hI.get (i := k) hk
      clear HI HT H0 HS HN hI
      generalize nx.getD i [] = r at *
      obtain ⟨m, hm⟩ : ∃ m, m = r.length := ⟨_, rfl⟩
      rw [← hm] at HR HS' HN' c9 hml
      clear hm c0
      go_wp2
      go_loopw [15] (fun vk wq => ∃ k : Nat, vk = .int .i64 k ∧ k ≤ m ∧ Hid (RowTo n r k ∧ Below w.heap.size w wq)) (fun vk _ => m - (intOf vk).toNat)
      case atStart => exact ⟨0, rfl, by omega, fun q hq => by omega, hr.out.2⟩
      case round =>
        obtain ⟨k, rfl, hk, hq⟩ := hrel
        by_cases hkm : k < m
        · obtain ⟨gr, or, rfl, hgr, cr⟩ := HR.out k hkm
          have hkm' : (k : Int) < m := by omega
          have cr' : wr.cell? ⟨gr, or + k, none⟩ = some (.int .i64 (r.getD k 0)) := (hq.out.2.cell (p := ⟨gr, or + k, none⟩) hgr).trans cr
          have HX : Hid _ := HN'.out k hkm
          have HY : Hid (0 ≤ r.getD k 0 ∧ r.getD k 0 < (n : Int) → RowTo n r (k + 1)) := fun h12 q hq2 => by
            rcases Nat.lt_or_ge q k with h3 | h3
            · exact hq.out.1 q h3
            · have : q = k := by omega
              subst this; exact h12
          clear HR HN' HS' cr
          generalize r.getD k 0 = x at *
          by_cases hx : 0 ≤ x ∧ x < (n : Int)
          · have HP : Hid (∀ W, Calls Tryz.prog 34 #[.int .i64 x, .int .i64 (n : Int)] W fun e w' => e = .returned (.bool true) ∧ W = w') := fun W => place_yes x n hx.1 hx.2 W
            have HF : Hid _ := HY.out hx
            clear HX HY hx
            go_wp2_with (go_at_call 34; go_loud (refine Calls.mono (HP.out _) ?_; rintro e w1 ⟨rfl, rfl⟩))
            go_roundw
            case rel => exact ⟨k + 1, by first | rfl | (congr 1; omega), by omega, HF.out, by first | exact hq.out.2 | exact below_drewN hq.out.2 _⟩
            case measure => simp [intOf]; omega
          · have HP : Hid (∀ W, Calls Tryz.prog 34 #[.int .i64 x, .int .i64 (n : Int)] W fun e w' => e = .returned (.bool false) ∧ W = w') := fun W => place_no x n hx W
            have HF : Hid (R = false) := HX.out hx
            clear HX HY hx
            go_wp2_with (go_at_call 34; go_loud (refine Calls.mono (HP.out _) ?_; rintro e w1 ⟨rfl, rfl⟩))
            go_ret
            exact ⟨ret_bool HF.out.symm, by first | exact hq.out.2 | exact below_drewN hq.out.2 _⟩
        · obtain rfl : k = m := by omega
          have HF : Hid _ := HS'.out hq.out.1
          clear HR HN' HS'
          go_wp2
          go_roundw
          case rel => exact ⟨i + 1, by first | rfl | (congr 1; omega), by omega, HF.out, by first | exact hq.out.2 | exact below_drewN hq.out.2 _⟩
          case measure => simp [intOf]; omega
    · obtain rfl : i = n := by omega
      by_cases h0 : i = 0
      · have HF : Hid (R = false) := H0.out h0
        have h0' : ¬ (0 : Int) < i := by omega
        clear HI HT H0 HS HN
        go_wp2
        go_ret
        exact ⟨ret_bool (by rw [HF.out]; try (first | (simp; done) | (simp; omega))), hr.out.2⟩
      · have HF : Hid (R = true) := HT.out hr.out.1 (by omega)
        have h0' : (0 : Int) < i := by omega
        clear HI HT H0 HS HN
        go_wp2
        go_ret
        exact ⟨ret_bool (by rw [HF.out]; try (first | (simp; done) | (simp; omega))), hr.out.2⟩
theorem rows_new2 (w : World) (base n : Nat) (hb : base ≤ w.heap.size) (hn : n ≤ 1000000000) : RowsIn (w.alloc (.cells (madeCells #[.slice none 0 0] n) 23)) base w.heap.size n (List.replicate n (.slice none 0 0)) (List.replicate n []) := by
  have r1 := World.ownsRow_lit (base := base) (e := 23) (size := 1) w (madeCells #[.slice none 0 0] n) n hb (by unfold maxLen; omega) (by simp [size_madeCells])
  rw [toList_madeCells_one] at r1
  refine ⟨by simp, by simp, r1, ?_, ?_⟩
  · intro i r kv h1 h2
    rw [List.getElem?_replicate] at h1 h2
    split at h1
    · rename_i hi
      rw [if_pos hi] at h2
      cases h1; cases h2
      exact ⟨World.ownsRow_nil _ _ _ _, by simp [Value.ownBlock]⟩
    · cases h1
  · intro i j a b g _ ha _ hg
    rw [List.getElem?_replicate] at ha
    split at ha
    · cases ha; simp [Value.ownBlock] at hg
    · cases ha
set_option maxRecDepth 100000 in
set_option maxHeartbeats 2000000 in
theorem under_any' (t : List Int) (v : Value) (w : World) (h : IntsAt w v t) (hn : t.length ≤ 10000000) :
    Calls Tryz.prog 10 #[v] w fun e w' => ∃ kvs, e = .returned (.slice (some ⟨w.heap.size, 0, none⟩) t.length t.length) ∧ RowsIn w' w.heap.size w.heap.size t.length kvs (underT t) ∧ Below w.heap.size w w' := by
  obtain ⟨ta, tc, rfl, _⟩ := h.form
  have HI : Hid (∀ i, i < t.length → _) := fun i hi => h.get (i := i) hi
  obtain ⟨R, hR⟩ : ∃ R, R = underT t := ⟨_, rfl⟩
  have HD : Hid (∀ i, i < t.length → ∀ rows, _) := fun i hi rows => under_drop (t := t) (i := i) hi rows
  have HR : Hid (underF (t.drop 0) 0 (List.replicate t.length []) = R) := hR.symm
  have HZ : Hid (∀ rows, underF (t.drop t.length) t.length rows = rows) := fun rows => by rw [List.drop_length]; rfl
  rw [← hR]
  obtain ⟨n, hnn⟩ : ∃ n, n = t.length := ⟨_, rfl⟩
  rw [← hnn] at HI HD HR HZ hn
  rw [← hnn]
  clear h hR hnn
  have hmk := run_make_row' (P := Tryz.prog) 22 23 (.slice none 0 0) 24 Tryz.underlying22 infoS rfl .i64 .i64 n (by omega) (by omega)
  have HRN : Hid _ := rows_new2 w w.heap.size n (Nat.le_refl _) (by omega)
  obtain ⟨i0, hi0, hz0, hz1, hz2⟩ := info_parts infoI
  go_enter Tryz.func10, Tryz.ntmps10
  go_wp2
  go_loopw [11] (fun vi wr => ∃ (i : Nat) (kvs : List Value) (rows : List (List Int)), vi = .int .i64 i ∧ i ≤ n ∧ Hid (Below w.heap.size w wr ∧ RowsIn wr w.heap.size w.heap.size n kvs rows ∧ underF (t.drop i) i rows = R ∧ lensA rows ≤ i)) (fun vi _ => n - (intOf vi).toNat)
  case atStart => exact ⟨0, _, _, rfl, by omega, below_alloc (Below.refl _ _) _, HRN.out, HR.out, by rw [lens_rep]; omega⟩
  case round =>
    obtain ⟨i, kvs, rows, rfl, hi, hq⟩ := hrel
    clear HRN HR hmk
    by_cases hin : i < n
    · obtain ⟨gv, ov, rfl, hgv, cv⟩ := HI.out i hin
      have hin' : (i : Int) < n := by omega
      have cv' : wr.cell? ⟨gv, ov + i, none⟩ = some (.int .i64 (t.getD i 0)) := (hq.out.1.cell (p := ⟨gv, ov + i, none⟩) hgv).trans cv
      have HDD : Hid _ := HD.out i hin rows
      have hrl := hq.out.2.1.rlen
      have hkl := hq.out.2.1.klen
      clear HI HD HZ cv
      generalize t.getD i 0 = to at *
      by_cases hb : inB to n = true
      · obtain ⟨k, hk⟩ : ∃ k : Nat, to = (k : Int) := Int.eq_ofNat_of_zero_le (inB_iff.1 hb).1
        subst hk
        have htn : k < n := by have := (inB_iff.1 hb).2; omega
        have htn' : (k : Int) < n := by omega
        have HP : Hid (∀ W, Calls Tryz.prog 34 #[.int .i64 (k : Int), .int .i64 (n : Int)] W fun e w' => e = .returned (.bool true) ∧ W = w') := fun W => place_yes k n (by omega) htn' W
        have er : rows[k]? = some (rows[k]'(by omega)) := List.getElem?_eq_getElem _
        have ek : kvs[k]? = some (kvs[k]'(by omega)) := List.getElem?_eq_getElem _
        have hrm : rows[k]'(by omega) ∈ rows := List.getElem_mem _
        generalize rows[k]'(by omega) = rw at er hrm
        generalize kvs[k]'(by omega) = kv at ek
        have hrw0 : rw.length ≤ i := by have := lens_mem hrm; have := hq.out.2.2.2; omega
        obtain ⟨ka, kc, rfl, _⟩ := (OwnI.at' (hq.out.2.1.kid k rw kv er ek).1 (by omega)).form
        have cG := hq.out.2.1.cellG ek
        have fG := hq.out.2.1.fzG k
        have HX : Hid (underF (t.drop (i + 1)) (i + 1) (rows.modify k (· ++ [(i : Int)])) = R) := by
          show _ = R
          rw [← hq.out.2.2.1, HDD.out]
          congr 1
          unfold putA
          rw [hrl, if_pos hb, Int.toNat_natCast]
        have HL0 : Hid (lensA (rows.modify k (· ++ [(i : Int)])) ≤ i + 1) := by
          show _ ≤ _
          rw [lens_modify _ _ _ (by omega)]
          have := hq.out.2.2.2
          omega
        have HER : Hid _ := er
        have HEK : Hid _ := ek
        have hwr : w.heap.size < wr.heap.size := hq.out.2.1.ltG.2
        have HA1 : Hid (Below wr.heap.size wr (wr.alloc (.cells #[.int .i64 (i : Int)] 3))) := below_alloc (Below.refl _ _) _
        have hok0 := (hq.out.2.1.kid k rw _ er ek).1
        generalize hrl0 : rw.length = rl at *
        have HOK : Hid (wr.ownsRow w.heap.size 3 1 (.slice ka rl kc) rl (rw.map intV)) := by
          have h9 : wr.ownsRow w.heap.size 3 1 (.slice ka rl kc) rw.length (rw.map intV) := hok0
          rw [hrl0] at h9
          exact h9
        have HRL : Hid (rw.length = rl) := hrl0
        have hbf : inB (k : Int) n = true := hb
        clear hok0 hrl0 er ek hrm hrl hkl HDD hb hbf
        go_wp2_with (first
          | (go_at_call 34; go_loud (refine Calls.mono (HP.out _) ?_; rintro e w1 ⟨rfl, rfl⟩))
          | (at_builtin; go_loud (refine wpList_append_own_at _ rfl _ _ 23 rfl w.heap.size 3 i0 (.int .i64 0) 1 8 Tryz.underlying23 hi0 hz0 hz1 hz2 rfl (by decide) (.slice ka rl kc) rl (rw.map intV) rfl (HOK.out.alloc _) ⟨wr.heap.size, 0, none⟩ 1 1 [intV i] rfl rfl ?c1 ?c2 ?c3 ?c4 ?c5 ?_)))
        case c1 => exact cell_one_new wr (intV i) 3
        case c2 => intro u hu; simp at hu; subst hu; rfl
        case c3 => unfold maxLen; omega
        case c4 => omega
        case c5 => simp; omega
        intro v2 w2 ho hg2 _ hat
        obtain ⟨g2, cc2, rfl, _, _, _, _⟩ := own_form ho
        obtain ⟨hP, q3, q4, hF, hZ⟩ := (hq.out.2.1.below HA1.out).push HER.out HEK.out (by rw [HRL.out]; exact ho) hg2 (by simpa using hat)
        have HP2 : Hid _ := hP
        have HFR : Hid (Below w.heap.size w (w2.setCell ⟨w.heap.size, k, none⟩ (.slice (some ⟨g2, 0, none⟩) (rl + 1) cc2))) := by
          refine below_set ?_ (Nat.le_refl _) _ _
          exact below_grown (below_trans hq.out.1 HA1.out) hg2 (fun q hqq => (HOK.out.lt q hqq).1)
        clear hP hF hZ ho hg2 hat
        go_wp2
        go_roundw
        case rel => exact ⟨i + 1, _, _, by first | rfl | (congr 1; omega), by omega, HFR.out, HP2.out, HX.out, HL0.out⟩
        case measure => simp [intOf]; omega
      · have HX : Hid (underF (t.drop (i + 1)) (i + 1) rows = R) := by
          show _ = R
          rw [← hq.out.2.2.1, HDD.out]
          congr 1
          unfold putA
          rw [hrl, if_neg hb]
        have hb' : ¬ (0 ≤ to ∧ to < (n : Int)) := fun h9 => hb (inB_iff.2 h9)
        have HP : Hid (∀ W, Calls Tryz.prog 34 #[.int .i64 to, .int .i64 (n : Int)] W fun e w' => e = .returned (.bool false) ∧ W = w') := fun W => place_no to n hb' W
        clear HDD hb hb'
        go_wp2_with (go_at_call 34; go_loud (refine Calls.mono (HP.out _) ?_; rintro e w1 ⟨rfl, rfl⟩))
        go_roundw
        case rel => exact ⟨i + 1, kvs, rows, by first | rfl | (congr 1; omega), by omega, hq.out.1, hq.out.2.1, HX.out, by have := hq.out.2.2.2; omega⟩
        case measure => simp [intOf]; omega
    · obtain rfl : i = n := by omega
      have HX : Hid (rows = R) := by show rows = R; rw [← hq.out.2.2.1]; exact (HZ.out rows).symm
      clear HI HD HZ
      go_wp2
      go_ret
      exact ⟨kvs, rfl, by rw [← HX.out]; exact hq.out.2.1, hq.out.1⟩
theorem under_ok {t : List Int} (hn : t.length ≤ 10000000) : UnderOk t := fun v w h => (under_any' t v w h hn).mono fun e w' hh => by
  obtain ⟨kvs, e1, h1, h2⟩ := hh
  refine ⟨_, e1, ?_, h2⟩
  refine h1.at' (by omega) fun r hr => ?_
  have := lens_mem hr
  have := lens_underT t
  omega
end Go.Proofs.YtogjjmbcbnceoaaGreat
