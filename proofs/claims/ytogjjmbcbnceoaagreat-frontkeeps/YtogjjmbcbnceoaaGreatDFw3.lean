/- The program's Fronts, whole. -/
import Derived.Test.YtogjjmbcbnceoaaGreatDFw2
import Derived.Test.YtogjjmbcbnceoaaGreatDTree
import Derived.Test.YtogjjmbcbnceoaaGreatDAwMN
namespace Go.Proofs.YtogjjmbcbnceoaaGreat
open Go.RowKit

abbrev aW (w1 : World) (tv : Value) (n : Nat) : World := ((w1.alloc (.cells #[tv] 23)).alloc (.cells (madeCells #[.slice none 0 0] n) 23)).alloc (.cells #[.slice (some ⟨w1.heap.size + 1, 0, none⟩) n n] 22)
/-- What there is ahead of the loops. -/
structure F0 (w1 w3 : World) (nx : List (List Int)) (tv : Value) (rowsA : List (List Int)) : Prop where
  bel : Below w1.heap.size w1 w3
  ahd : AhdTo nx nx.length 0 rowsA
  row : ∀ b, b < nx.length → ∃ ra rc, w3.cell? ⟨w1.heap.size + 3, b, none⟩ = some (.slice ra (rowsA.getD b []).length rc) ∧ (rowsA.getD b []).length ≤ 4000000000000 ∧ ∀ k, k < (rowsA.getD b []).length → ∃ g, ra = some ⟨g, 0, none⟩ ∧ w1.heap.size + 3 ≤ g ∧ g < w3.heap.size ∧ w3.cell? ⟨g, k, none⟩ = some (.int .i64 ((rowsA.getD b []).getD k 0))
  fs : FS w3 w3 (w1.heap.size + 1) nx.length (List.replicate nx.length (.slice none 0 0)) (List.replicate nx.length [])
  tb : w3.cell? ⟨w1.heap.size, 0, none⟩ = some tv
  fb : w3.cell? ⟨w1.heap.size + 2, 0, none⟩ = some (.slice (some ⟨w1.heap.size + 1, 0, none⟩) nx.length nx.length)
  tr : IntsAt w3 tv (treeL nx)
  sz : w1.heap.size + 3 < w3.heap.size
theorem front_init (nx : List (List Int)) (v tv : Value) (w1 : World) (hN : NetAt w1 v nx) (hT : IntsAt w1 tv (treeL nx)) (hmay : May nx) (hb1 : nx.length ≤ 2000000) (hb2 : ∀ r ∈ nx, r.length ≤ 2000000) :
    Calls Tryz.prog 42 #[v, tv] (aW w1 tv nx.length) fun e w3 => e = .returned (.slice (some ⟨w1.heap.size + 3, 0, none⟩) nx.length nx.length) ∧ ∃ rowsA, F0 w1 w3 nx tv rowsA := by
  obtain ⟨wa, hwa⟩ : ∃ wa, wa = w1.alloc (.cells #[tv] 23) := ⟨_, rfl⟩
  obtain ⟨wb, hwb⟩ : ∃ wb, wb = wa.alloc (.cells (madeCells #[.slice none 0 0] nx.length) 23) := ⟨_, rfl⟩
  obtain ⟨wc, hwc⟩ : ∃ wc, wc = wb.alloc (.cells #[.slice (some ⟨w1.heap.size + 1, 0, none⟩) nx.length nx.length] 22) := ⟨_, rfl⟩
  have hW : aW w1 tv nx.length = wc := by rw [hwc, hwb, hwa]
  have sa : wa.heap.size = w1.heap.size + 1 := by rw [hwa]; simp
  have sb : wb.heap.size = w1.heap.size + 2 := by rw [hwb]; simp [sa]
  have sc : wc.heap.size = w1.heap.size + 3 := by rw [hwc]; simp [sb]
  have ba : Below w1.heap.size w1 wa := by rw [hwa]; exact below_alloc (Below.refl _ _) _
  have bb : Below wa.heap.size wa wb := by rw [hwb]; exact below_alloc (Below.refl _ _) _
  have bc : Below wb.heap.size wb wc := by rw [hwc]; exact below_alloc (Below.refl _ _) _
  have b3 : Below w1.heap.size w1 wc := below_trans (below_trans ba bb) bc
  rw [hW]
  refine (aheadf_any nx v tv wc (hN.below b3) (hT.below b3) hmay hb1 hb2).mono fun e w3 hh => ?_
  obtain ⟨kvs, rows, e1, hR, hA, hL, hB⟩ := hh
  rw [sc] at e1 hR
  refine ⟨e1, rows, ?_⟩
  have x1 : Box wa w1.heap.size [tv] := by rw [hwa]; exact Box.new w1 [tv] 23
  have x2 : Box w3 w1.heap.size [tv] := ((x1.below bb).below bc).below hB
  have x3 : Box wc wb.heap.size [.slice (some ⟨w1.heap.size + 1, 0, none⟩) nx.length nx.length] := by rw [hwc]; exact Box.new wb [_] 22
  have x4 := x3.below hB
  rw [sb] at x4
  have r1 := rows_new2 wa (w1.heap.size + 1) nx.length (by omega) (by omega)
  rw [← hwb, sa] at r1
  have hs3 : w1.heap.size + 3 < w3.heap.size := hR.ltG.2
  refine ⟨below_trans b3 hB, hA, fun b hb => ?_, ⟨(r1.below bc).below hB, fun kv hkv g hg => ?_, fun _ _ _ => rfl, Nat.le_refl _, rfl, rfl, rfl⟩, x2.cell 0 _ rfl, x4.cell 0 _ rfl, (hT.below b3).below hB, hs3⟩
  · have hrl := hR.rlen
    have hkl := hR.klen
    have er : rows[b]? = some (rows.getD b []) := by rw [getD_of (by omega), List.getElem?_eq_getElem]
    have ek : kvs[b]? = some (kvs[b]'(by omega)) := List.getElem?_eq_getElem _
    have hm : rows.getD b [] ∈ rows := List.mem_of_getElem? er
    have h1 := hL _ hm
    have h2 := (hR.kid b _ _ er ek).1
    have h3 := hR.cellG ek
    rcases own_shape h2 with ⟨h4, h5⟩ | ⟨g, c, h4, _, _, h6, h7⟩
    · refine ⟨none, 0, ?_, h1, fun k hk => by omega⟩
      rw [h3, h4, h5]
    · refine ⟨some ⟨g, 0, none⟩, c, by rw [h3, h4], h1, fun k hk => ⟨g, rfl, h6, h7, ?_⟩⟩
      have h8 : w3.ownsRow (w1.heap.size + 3) 3 1 (.slice (some ⟨g, 0, none⟩) (rows.getD b []).length c) (rows.getD b []).length ((rows.getD b []).map intV) := by rw [← h4]; exact h2
      rw [h8.cellAt k (by omega)]
      exact map_get (getD_some hk)
  · have := List.eq_of_mem_replicate hkv
    subst this
    simp [Value.ownBlock] at hg
theorem FS.belowR {w w1 w3 wr : World} {nx : List (List Int)} {tv : Value} {rowsA : List (List Int)} (hF : F0 w1 w3 nx tv rowsA) (h1 : Below w.heap.size w w1) {kvs : List Value} {rows : List (List Int)} (h : FS w3 wr (w1.heap.size + 1) nx.length kvs rows) : Below w.heap.size w wr := by
  have h2 := below_trans h1 hF.bel
  refine ⟨h.os.trans h2.os, h.tape.trans h2.tape, h.output.trans h2.output, Nat.le_trans h2.size h.size, fun k hk => ?_⟩
  rw [h.keep k (by have := h2.size; omega) (by have := h1.size; omega)]
  exact h2.block k hk
theorem own_slice {w : World} {base : Nat} {e : TypeId} {sz : Nat} {v : Value} {n : Nat} {xs : List Value} (h : w.ownsRow base e sz v n xs) : ∃ a c, v = .slice a n c := by
  rcases own_shape h with ⟨h1, h2⟩ | ⟨g, c, h1, _⟩
  · exact ⟨none, 0, by rw [h1, h2]⟩
  · exact ⟨_, _, h1⟩
set_option maxRecDepth 100000 in
set_option maxHeartbeats 2000000 in
theorem fronts_yes (nx : List (List Int)) (v : Value) (w : World) (hN : NetAt w v nx) (hmay : May nx) (hb1 : nx.length ≤ 2000000) (hb2 : ∀ r ∈ nx, r.length ≤ 2000000) :
    Calls Tryz.prog 24 #[v] w fun e w' => (∃ G kvs, e = .returned (.tuple #[.slice (some ⟨G, 0, none⟩) nx.length nx.length, .int .i64 0]) ∧ w.heap.size ≤ G ∧ RowsIn w' G G nx.length kvs (frontsL nx) ∧ ∀ r ∈ frontsL nx, r.length ≤ 2000001) ∧ Below w.heap.size w w' := by
  obtain ⟨a, c, rfl, hll⟩ := hN.form
  have HT : Hid _ := (tree_ok hb1 hb2) _ w hN
  have HM : Hid _ := hmay
  have HI : Hid (∀ w1 tv, Below w.heap.size w w1 → IntsAt w1 tv (treeL nx) → _) := fun w1 tv h1 h2 => front_init nx _ tv w1 (hN.below h1) h2 hmay hb1 hb2
  have HST : Hid _ := FrTo.start nx
  have HG : Hid (∀ (w1 w3 : World) (tv : Value) (rowsA : List (List Int)), F0 w1 w3 nx tv rowsA → ∀ (wr : World) (kvs : List Value) (rows : List (List Int)) (b c k : Nat), b < nx.length → (∀ g o n c, tv = .slice (some ⟨g, o, none⟩) n c → g ≠ w1.heap.size + 1) → FS w3 wr (w1.heap.size + 1) nx.length kvs rows → FrTo nx b (Fk nx (rowsA.getD b []) b k) rows → (rowsA.getD b [])[k]? = some (c : Int) → Calls Tryz.prog 40 #[.int .i64 (c : Int), .int .i64 (b : Int), ptr w1.heap.size, ptr (w1.heap.size + 2)] wr fun e w' => e = .returned (.tuple #[]) ∧ ∃ kvs' rows', FS w3 w' (w1.heap.size + 1) nx.length kvs' rows' ∧ FrTo nx b (Fk nx (rowsA.getD b []) b (k + 1)) rows') := fun w1 w3 tv rowsA F wr kvs rows b c k hb hne hS hF hk => by
    obtain ⟨q, e1, e2, e3⟩ := (F.ahd.all hb _).1 (List.mem_of_getElem? hk)
    have : c = q := by omega
    subst this
    have := F.sz
    exact gather_any nx hmay hb1 w3 wr (w1.heap.size + 1) w1.heap.size (w1.heap.size + 2) b c k (rowsA.getD b []) tv kvs rows (by omega) F.tb (by omega) (by omega) F.tr hne F.fb (by omega) (by omega) hS hF hk e2 e3
  obtain ⟨n, hnn⟩ : ∃ n, n = nx.length := ⟨_, rfl⟩
  have HNN : Hid _ := hnn
  rw [← hnn] at HT HI HST hb1 hll HG
  rw [← hnn]
  have hmk := run_make_row' (P := Tryz.prog) 22 23 (.slice none 0 0) 24 Tryz.underlying22 infoS rfl .i64 .i64 n (by omega) (by omega)
  have hsf := fun (a : Addr) (fn : Fn) (f c : Array Value) (m : Mode) (w : World) => run_store Tryz.prog w a (.func fn f c) m rfl
  clear hN hmay hb2 hnn
  go_enter Tryz.func24, Tryz.ntmps24
  go_wp2_with (first
    | (go_at_call 9; go_loud (refine Calls.mono (by exact HT.out) ?_; rintro e w1 ⟨ht, _, hb1w⟩; obtain ⟨tv, rfl, ho⟩ := ht HM.out; have HO1 : Hid _ := ho; obtain ⟨ta, tc, htv⟩ := own_slice ho; subst htv; have HB1 : Hid _ := hb1w; clear ht ho hb1w))
    | (go_at_call 42; go_loud (refine Calls.mono (by exact HI.out w1 _ HB1.out (OwnI.at' HO1.out (by rw [treeL_len, ← HNN.out]; omega))) ?_; rintro e w3 ⟨rfl, rowsA, hF0⟩; have HF0 : Hid _ := hF0; clear hF0)))
  obtain ⟨tv, htv⟩ : ∃ tv, tv = Value.slice ta (treeL nx).length tc := ⟨_, rfl⟩
  rw [← htv] at HF0 HO1
  have HNE : Hid (∀ g o n c, tv = .slice (some ⟨g, o, none⟩) n c → g ≠ w1.heap.size + 1) := fun g o n c e => by
    have h8 : w1.ownsRow w.heap.size 3 1 tv (treeL nx).length ((treeL nx).map intV) := HO1.out
    have h9 := h8.lt g (by
      rcases own_shape h8 with ⟨h1, _⟩ | ⟨g', c', h1, _⟩
      · rw [h1] at e; cases e
      · rw [h1] at e; cases e; rw [h1]; rfl)
    omega
  have HGG : Hid _ := HG.out w1 w3 tv rowsA HF0.out
  clear htv HT HI HG
  go_loopw [28] (fun vb wr => ∃ (b : Nat) (kvs : List Value) (rows : List (List Int)), vb = .int .i64 b ∧ b ≤ n ∧ Hid (FS w3 wr (w1.heap.size + 1) n kvs rows ∧ FrTo nx b (fun _ => False) rows)) (fun vb _ => n - (intOf vb).toNat)
  case atStart => exact ⟨0, _, _, rfl, by omega, by have := HF0.out.fs; rw [← HNN.out] at this; exact this, HST.out⟩
  case round =>
    obtain ⟨b, kvs, rows, rfl, hb, hq⟩ := hrel
    generalize wr = wo at *
    clear HST hmk
    have hsz3 := HF0.out.sz
    by_cases hbn : b < n
    · have hbn' : (b : Int) < n := by omega
      obtain ⟨ra, rc, ca, hal, hcell⟩ := HF0.out.row b (by rw [← HNN.out]; exact hbn)
      have ca' : wo.cell? ⟨w1.heap.size + 3, b, none⟩ = some (.slice ra (rowsA.getD b []).length rc) := hq.out.1.cell (by omega) (by omega) ca
      have HCL : Hid _ := hcell
      have HS0 : Hid _ := hq.out.1
      have HF1 : Hid _ := hq.out.2.begin (rowsA.getD b [])
      have HNX : Hid (∀ rows, FrTo nx b (Fk nx (rowsA.getD b []) b (rowsA.getD b []).length) rows → _) := fun rows h => FrTo.next HF0.out.ahd (by rw [← HNN.out]; exact hbn) h
      have HGB : Hid (∀ (wr : World) (kvs : List Value) (rows : List (List Int)) (c k : Nat), FS w3 wr (w1.heap.size + 1) n kvs rows → FrTo nx b (Fk nx (rowsA.getD b []) b k) rows → (rowsA.getD b [])[k]? = some (c : Int) → _) := fun wr kvs rows c k h1 h2 h3 => HGG.out wr kvs rows b c k hbn HNE.out h1 h2 h3
      have HRC : Hid (∀ k, k < (rowsA.getD b []).length → ∃ c : Nat, (rowsA.getD b []).getD k 0 = (c : Int) ∧ (rowsA.getD b [])[k]? = some (c : Int)) := fun k hk => by
        obtain ⟨q, e1, _⟩ := (HF0.out.ahd.all (show b < nx.length by rw [← HNN.out]; exact hbn) _).1 (getD_mem hk)
        exact ⟨q, e1, by rw [getD_some hk, e1]⟩
      clear hq hcell ca HGG HF0
      generalize rowsA.getD b [] = row at *
      obtain ⟨m, hm⟩ : ∃ m, m = row.length := ⟨_, rfl⟩
      have HMM : Hid _ := hm
      rw [← hm] at ca' hal HCL HRC HNX
      clear hm
      go_wp2
      go_loopw [35] (fun vk wr => ∃ (k : Nat) (kvs : List Value) (rows : List (List Int)), vk = .int .i64 k ∧ k ≤ m ∧ Hid (FS w3 wr (w1.heap.size + 1) n kvs rows ∧ FrTo nx b (Fk nx row b k) rows)) (fun vk _ => m - (intOf vk).toNat)
      case atStart => exact ⟨0, kvs, rows, rfl, by omega, HS0.out, HF1.out⟩
      case round =>
        obtain ⟨k, kvs, rows, rfl, hk, hq⟩ := hrel
        clear HS0 HF1
        by_cases hkm : k < m
        · have hkm' : (k : Int) < m := by omega
          obtain ⟨g, rfl, hg1, hg2, cg⟩ := HCL.out k hkm
          obtain ⟨c1, ec, hkc⟩ := HRC.out k hkm
          rw [ec] at cg
          have cg' : wr.cell? ⟨g, k, none⟩ = some (.int .i64 (c1 : Int)) := hq.out.1.cell hg2 (by omega) cg
          have HCA : Hid _ := HGB.out wr kvs rows c1 k hq.out.1 hq.out.2 hkc
          clear HGB HNX HRC HCL cg ec hkc hq
          go_wp2_with (go_at_call 40; go_loud (refine Calls.mono (by exact HCA.out) ?_; rintro e w5 ⟨rfl, kvs5, rows5, h51, h52⟩; have H51 : Hid _ := h51; have H52 : Hid _ := h52; clear h51 h52))
          go_roundw
          case rel => exact ⟨k + 1, _, _, by first | rfl | (congr 1; omega), by omega, H51.out, H52.out⟩
          case measure => simp [intOf]; omega
        · obtain rfl : k = m := by omega
          have HX : Hid _ := HNX.out rows hq.out.2
          clear HGB HNX HRC HCL
          go_wp2
          go_roundw
          case rel => exact ⟨b + 1, kvs, rows, by first | rfl | (congr 1; omega), by omega, hq.out.1, HX.out⟩
          case measure => simp [intOf]; omega
    · obtain rfl : b = n := by omega
      have cf : wo.cell? ⟨w1.heap.size + 2, 0, none⟩ = some (.slice (some ⟨w1.heap.size + 1, 0, none⟩) b b) := by
        have := hq.out.1.cell (by omega) (by omega) HF0.out.fb
        rw [← HNN.out] at this
        exact this
      have HX : Hid (rows = frontsL nx) := by
        have := hq.out.2
        rw [HNN.out] at this
        exact this.done
      have HSM : Hid (∀ r ∈ rows, r.length ≤ 2000001) := fun r hr => by
        obtain ⟨i, hi, e⟩ := List.getElem_of_mem hr
        have h1 := hq.out.2.small (a := i) (by rw [← hq.out.2.len]; exact hi)
        rw [getD_of hi, e] at h1
        omega
      have HBL : Hid (Below w.heap.size w wo) := FS.belowR HF0.out HB1.out (by have := hq.out.1; rw [HNN.out] at this; exact this)
      clear HGG
      go_wp2
      go_ret2
      refine ⟨⟨_, kvs, rfl, ?_, ?_, ?_⟩, HBL.out⟩
      · have := HB1.out.size; omega
      · rw [← HX.out]; exact hq.out.1.rows
      · rw [← HX.out]; exact HSM.out
set_option maxRecDepth 100000 in
set_option maxHeartbeats 1000000 in
theorem fronts_no (nx : List (List Int)) (v : Value) (w : World) (hN : NetAt w v nx) (hmay : ¬ May nx) (hb1 : nx.length ≤ 2000000) (hb2 : ∀ r ∈ nx, r.length ≤ 2000000) :
    Calls Tryz.prog 24 #[v] w fun e w' => e = .returned (.tuple #[.slice none 0 0, .int .i64 4]) ∧ Below w.heap.size w w' := by
  obtain ⟨a, c, rfl, hll⟩ := hN.form
  have HT : Hid _ := (tree_ok hb1 hb2) _ w hN
  have HM : Hid _ := hmay
  clear hN hmay hb2
  go_enter Tryz.func24, Tryz.ntmps24
  go_wp2_with (go_at_call 9; go_loud (refine Calls.mono (by exact HT.out) ?_; rintro e w1 ⟨_, ht, hb1w⟩; have he := ht HM.out; subst he; have HB1 : Hid _ := hb1w; clear ht hb1w))
  go_ret2
  exact ⟨rfl, by first | exact HB1.out | exact below_alloc HB1.out _⟩
theorem fronts_ok {nx : List (List Int)} (hb1 : nx.length ≤ 2000000) (hb2 : ∀ r ∈ nx, r.length ≤ 2000000) : FrontsOk nx := fun v w hN => by
  by_cases hm : May nx
  · exact (fronts_yes nx v w hN hm hb1 hb2).mono fun e w' hh => ⟨fun _ => by
      obtain ⟨G, kvs, e1, _, h2, h3⟩ := hh.1
      exact ⟨_, e1, h2.at' (by omega) fun r hr => by have := h3 r hr; omega⟩, fun h => absurd hm h, hh.2⟩
  · exact (fronts_no nx v w hN hm hb1 hb2).mono fun e w' hh => ⟨fun h => absurd h hm, fun _ => hh.1, hh.2⟩
end Go.Proofs.YtogjjmbcbnceoaaGreat
