/- The walk of TokenJoined. -/
import Derived.Test.YtcinlpiidgbnaaaJoinMem
namespace Go.Proofs.Ytcinlpiidgbnaaa
open Go.RowKit

theorem reach_ofJ {s : ByteArray} (z : s.data.toList.length ≤ reachBytes) : s.size ≤ 140737488351232 := by
  unfold reachBytes at z
  have : s.data.toList.length = s.size := by simp
  omega
theorem infoB : (Try.prog.info? 5).map (fun i => (i.zero, i.size, i.bytes)) = some (some (.int .u8 0), 1, 1) := by kernel_rfl

theorem cov_pos {l : List UInt8} : ∀ (ts : List Tok) (k : Nat), cov l k ts → ∀ (i : Nat) (t : Tok), ts[i]? = some t → i + 1 < ts.length → t.2.1 < t.2.2
  | [], _, h, _, _, _, _ => h.elim
  | [_], _, _, i, _, _, h => by simp at h
  | t :: u :: us, k, h, i, x, hx, hi => by
    obtain ⟨_, h2, _, _, _, h6⟩ := h
    match i, hx, hi with
    | 0, hx, _ => simp at hx; subst hx; exact h2
    | i + 1, hx, hi => exact cov_pos (u :: us) _ h6 i x (by simpa using hx) (by simpa using hi)
/-- What holds at the head of each round in which the texts are gathered. -/
def Gathers (l gap : List UInt8) (ts : List Tok) (w1 : World) (o : Obj) (v : Value) (k : Nat) (wr : World) : Prop :=
  wr.ownsRow (w1.heap.size + 1) 5 1 v (joined l gap (ts.take k)).length (byteCells (joined l gap (ts.take k))) ∧ Below (w1.heap.size + 1) (w1.alloc o) wr

set_option maxRecDepth 100000 in
set_option maxHeartbeats 4000000 in
theorem joined_ok (s G : ByteArray) (b : Bool) (ts : List Tok) (hG : Gap G.data.toList) (hb : (b = false ∧ G = ⟨#[32]⟩) ∨ (b = true ∧ G = ⟨#[32, 47, 47, 43, 49, 10]⟩)) (hs : s.size ≤ 8000) (hsc : scanS true s.data.toList = .ok ts) (w : World) :
    Calls Try.prog 7 #[.string s, .bool b] w fun e w' => e = .returned (.bool true) ∧ Below w.heap.size w w' := by
  have hs' : (s.size : Int) ≤ 8000 := by omega
  have hs2 : s.size ≤ 65536 := by omega
  have HL : Hid (s.data.toList.length = s.size) := by show _ = _; simp
  have hC := fun w => scan_good hs2 hsc w
  have hn0 : 0 < ts.length := by
    have := scanL_ne hsc
    cases ts with
    | nil => exact absurd rfl this
    | cons t us => simp
  have hlen := scanL_len _ _ _ ts hsc
  rw [drop_len, show s.data.toList.length = s.size by simp] at hlen
  have hn1 : ts.length ≤ 8001 := by omega
  have hin : Hid (∀ t ∈ ts, t.2.1 ≤ t.2.2 ∧ t.2.2 ≤ s.size) := by
    have := toks_in _ _ ts hsc (skipL_le _ _)
    rw [HL.out] at this; exact this
  have hJ := join_all hG hsc
  have hJl := join_len (gap := G.data.toList) _ _ ts hsc (skipL_le _ _)
  rw [HL.out] at hJl
  have hGl := gap_len hG
  have hJn : (joined s.data.toList G.data.toList ts).length ≤ 56006 := by
    have : ts.length * G.data.toList.length ≤ 8001 * 6 := Nat.mul_le_mul (by omega) hGl.2
    omega
  have HSC : Hid (scanS true s.data.toList = .ok ts) := hsc
  clear hsc hlen hJl
  obtain ⟨i0, hi, hz0, hz1, hz2⟩ := info_parts infoB
  have hpre : ∀ k, (joined s.data.toList G.data.toList (ts.take k)).length ≤ 56006 := by
    intro k
    have : joined s.data.toList G.data.toList ts = joined s.data.toList G.data.toList (ts.take k) ++ joined s.data.toList G.data.toList (ts.drop k) := by
      unfold joined
      rw [← List.flatMap_append, List.take_append_drop]
    have h2 := congrArg List.length this
    rw [List.length_append] at h2
    omega
  have HPRE : Hid _ := hpre
  have HJN : Hid _ := hJn
  clear hpre hJn
  rcases hb with ⟨rfl, hGd⟩ | ⟨rfl, hGd⟩
  · go_enter Try.func7, Try.ntmps7
    rw [← hGd]
    generalize hT : (ByteArray.mk #[32, 47, 47, 43, 49, 10]) = T
    clear hGd hT
    go_wp2_with (first | (go_at_call 9; refine (awake_any _).mono ?_; rintro e w0 ⟨rfl, hb0⟩) | (go_at_call 10; refine (hC _).mono ?_; rintro e w1 ⟨v, rfl, hl1, hb1⟩; obtain ⟨ad, cap, rfl, hcells⟩ := hl1; obtain ⟨g, rfl, hcells2⟩ := hcells hn0; clear hcells2))
    have HC : Hid (Lies w1 (.slice (some ⟨g, 0, none⟩) ts.length cap) ts) := ⟨_, cap, rfl, hcells⟩
    have hB1 : Hid (Below w.heap.size w w1) := hb0.trans (hb1.mono hb0.size)
    have hzw : Hid (w.heap.size ≤ w1.heap.size) := hB1.out.size
    clear hcells hb0 hb1 hC
    obtain ⟨n, hn⟩ : ∃ n, ts.length = n := ⟨_, rfl⟩
    have HN : Hid (ts.length = n) := hn
    rw [hn] at hn0 hn1 ⊢
    clear hn
    go_loopw [8, 9] (fun v i wr => ∃ k : Nat, k ≤ n ∧ i = .int .i64 k ∧ Hid (Gathers s.data.toList G.data.toList ts w1 (.cells #[.int .i64 0, .int .i64 0] 26) v k wr)) (fun _ i _ => n - (intOf i).toNat)
    case atStart => exact ⟨0, Nat.zero_le _, rfl, World.ownsRow_nil _ _ _ _, Below.refl _ _⟩
    case round =>
      obtain ⟨k, hk, rfl, hr⟩ := hrel
      by_cases hlt : k < n
      · have hlt' : (k : Int) < n := by omega
        obtain ⟨⟨kd, A, E⟩, ht⟩ : ∃ t, ts[k]? = some t := ⟨_, List.getElem?_eq_getElem (by rw [HN.out]; exact hlt)⟩
        obtain ⟨hA, hE⟩ := hin.out _ (List.mem_of_getElem? ht)
        simp only at hA hE
        have hW : Below w1.heap.size w1 wr := ((Below.refl _ _).alloc (Nat.le_refl _) _).trans (hr.out.2.mono (by omega))
        obtain ⟨c0, c1, c2⟩ := lies_at HC.out hW ht
        simp only at c0 c1 c2
        have hX : (s.extract A E).data.toList = txt s.data.toList (kd, A, E) := Lib.extract_data _ _ _
        have hsz1 : (s.extract A E).size ≤ 8000 := by
          rw [Lib.size_eq, hX]; unfold txt; simp; omega
        have hpk := HPRE.out k
        have hbw : w1.heap.size + 1 ≤ wr.heap.size := by have := hr.out.2.size; simp at this; omega
        have HOWN : Hid (wr.drew.ownsRow (w1.heap.size + 1) 5 1 u8 (joined s.data.toList G.data.toList (ts.take k)).length (byteCells (joined s.data.toList G.data.toList (ts.take k)))) := hr.out.1
        have HM1 : Hid ((joined s.data.toList G.data.toList (ts.take k)).length + (s.extract A E).size ≤ maxLen) := by show _ ≤ _; unfold maxLen; omega
        have HM2 : Hid ((joined s.data.toList G.data.toList (ts.take k)).length + (s.extract A E).size ≤ 140737488355328) := by show _ ≤ _; omega
        have HM3 : Hid (w1.heap.size + 1 ≤ wr.drew.heap.size) := hbw
        have HX : Hid ((s.extract A E).data.toList = txt s.data.toList (kd, A, E)) := hX
        have HT : Hid (ts[k]? = some (kd, A, E)) := ht
        clear hX hsz1 hpk hbw hW ht
        go_wp2_with fail
        go_region_law (refine step_append_str rfl (.tmp 36) (.tmp 48) 31 9 rfl (w1.heap.size + 1) 5 i0 Try.underlying31 Try.underlying9 hi hz0 hz1 hz2 u8 _ _ ?e1 HOWN.out (s.extract A E) ?e2 HM1.out HM2.out HM3.out ?_; (case e1 => simp [Act.eval, Act.put]); (case e2 => simp [Act.eval, Act.put]); intro v2 w2 hown2 hgrow2)
        all_goals
          have y2 : w1.heap.size + 1 ≤ w2.heap.size := Nat.le_trans HM3.out hgrow2.size
          have B2 : Below (w1.heap.size + 1) (w1.alloc (.cells #[.int .i64 0, .int .i64 0] 26)) w2 := (hr.out.2.drew).grown hgrow2 HM3.out (fun q hq => (HOWN.out.lt q hq).1)
          have HB2 : Hid _ := B2
          have HM4 : Hid ((joined s.data.toList G.data.toList (ts.take k)).length + (s.extract A E).size + G.size ≤ maxLen) := by
            have := HPRE.out (k + 1)
            rw [joined_snoc HT.out, List.length_append, List.length_append, ← HX.out, ← Lib.size_eq, ← Lib.size_eq] at this
            show _ ≤ _
            unfold maxLen; omega
          have HM5 : Hid ((joined s.data.toList G.data.toList (ts.take k)).length + (s.extract A E).size + G.size ≤ 140737488355328) := by
            have := HPRE.out (k + 1)
            rw [joined_snoc HT.out, List.length_append, List.length_append, ← HX.out, ← Lib.size_eq, ← Lib.size_eq] at this
            show _ ≤ _
            omega
          have HO2 : Hid _ := hown2
          clear B2 hown2 hgrow2
          go_wp2_with (at_builtin; refine Lib.wpList_append_own_string _ rfl _ _ 31 9 rfl (w1.heap.size + 1) 5 i0 Try.underlying31 Try.underlying9 hi hz0 hz1 hz2 v2 _ _ rfl HO2.out G rfl HM4.out HM5.out y2 ?_; intro v3 w3 hown3 hgrow3 _)
          go_roundw
          case rel =>
            refine ⟨k + 1, by omega, by go_num, ?_, HB2.out.grown hgrow3 y2 (fun q hq => (own_lt HO2.out q hq).1)⟩
            rw [joined_snoc HT.out, List.length_append, List.length_append, ← HX.out, ← Lib.size_eq, ← Lib.size_eq, byteCells_app, byteCells_app]
            exact hown3
          case measure => simp [intOf]; omega
      · have hkn : k = n := by omega
        subst hkn
        have hg2 : wr.ownsRow (w1.heap.size + 1) 5 1 u8 (joined s.data.toList G.data.toList ts).length (byteCells (joined s.data.toList G.data.toList ts)) := by
          have := hr.out.1
          rw [List.take_of_length_le (by rw [HN.out]; exact Nat.le_refl _)] at this
          exact this
        have hW : Below (w1.heap.size + 1) (w1.alloc (.cells #[.int .i64 0, .int .i64 0] 26)) wr := hr.out.2
        have hjn := HJN.out
        have hat := join_at (l := s.data.toList) (gap := G.data.toList) ts (by rw [HL.out]; exact hin.out) []
        have hj0 : 0 < (joined s.data.toList G.data.toList ts).length := by
          cases ts with
          | nil => have := HN.out; simp at this; omega
          | cons t us => unfold joined; rw [List.flatMap_cons, List.length_append, List.length_append]; omega
        simp only [List.nil_append, List.length_nil] at hat
        obtain ⟨J, hJd⟩ : ∃ J, joined s.data.toList G.data.toList ts = J := ⟨_, rfl⟩
        rw [hJd] at hg2 hjn hat hj0 hJ
        obtain ⟨gb, cb, hv, hgb⟩ : ∃ gb cb, u8 = .slice (some ⟨gb, 0, none⟩) J.length cb ∧ J.length ≤ cb := by
          rcases hg2.2 with ⟨_, h0⟩ | ⟨gb, cb, cur, hv, _, _, hle, _⟩
          · omega
          · exact ⟨gb, cb, hv, hle⟩
        subst hv
        have hgbl := (hg2.lt gb rfl)
        have hcv1 := conv_own hg2 wr (fun _ _ => rfl) 0 J.length cb (by omega)
        rw [List.drop_zero, List.take_of_length_le (Nat.le_refl _)] at hcv1
        obtain ⟨S, hS⟩ : ∃ S : ByteArray, (⟨J.toArray⟩ : ByteArray) = S := ⟨_, rfl⟩
        rw [hS] at hcv1
        have hSl : S.data.toList = J := by rw [← hS]
        rw [← hSl] at hJ
        have hC2 := fun w => scan_good (s := S) (by rw [Lib.size_eq, hSl]; omega) hJ w
        have hel := expT_len G.data.toList.length ts 0
        generalize hm : expT G.data.toList.length 0 ts = ms at hC2 hel hat
        have hmn : 0 < ms.length := by rw [hel, HN.out]; exact hn0
        have HG2 : Hid _ := hg2
        have HW : Hid _ := hW
        have HAT : Hid _ := hat
        have HEL : Hid (ms.length = k) := by show _ = _; rw [hel, HN.out]
        have HJC : Hid (J.length ≤ cb ∧ J.length ≤ 56006) := ⟨hgb, hjn⟩
        have HGB : Hid (gb < wr.heap.size) := hgbl.2
        clear hg2 hW hat hel hJ hJd hS hSl hm hjn hgb hgbl hr hlt
        go_wp2_with (go_at_call 10; refine (hC2 _).mono ?_; rintro e w5 ⟨v5, rfl, hl5, hb5⟩; obtain ⟨ad5, cap5, rfl, hcells5⟩ := hl5; obtain ⟨g5, rfl, hcells6⟩ := hcells5 hmn; clear hcells6; rw [HEL.out])
        have z5 := hb5.size
        have H5 : Hid (Lies w5 (.slice (some ⟨g5, 0, none⟩) ms.length cap5) ms) := ⟨_, cap5, rfl, hcells5⟩
        have hz1 : w1.heap.size + 1 ≤ wr.heap.size := by have := HW.out.size; simp at this; omega
        have C1 : Below w1.heap.size w1 (w5.alloc (.cells #[.int .i64 0, .int .i64 0] 26)) := (((((Below.refl _ _).alloc (Nat.le_refl _) _).trans (HW.out.mono (by omega))).trans (hb5.mono (by omega))).alloc (by omega) _)
        have C5 : Below w5.heap.size w5 (w5.alloc (.cells #[.int .i64 0, .int .i64 0] 26)) := (Below.refl _ _).alloc (Nat.le_refl _) _
        have BF : Hid (Below w.heap.size w (w5.alloc (.cells #[.int .i64 0, .int .i64 0] 26))) := hB1.out.trans (C1.mono hzw.out)
        have hcB : ∀ j, j < J.length → (w5.alloc (.cells #[.int .i64 0, .int .i64 0] 26)).cell? ⟨gb, j, none⟩ = wr.cell? ⟨gb, j, none⟩ := by
          intro j _
          have hgb := HGB.out
          exact (past1 (show gb < w5.heap.size by omega) _ j).trans (hb5.cell (p := ⟨gb, j, none⟩) hgb)
        have HCB : Hid _ := hcB
        have HC1 : Hid _ := C1
        have HC5 : Hid _ := C5
        clear hcB C1 C5 hcells5 hb5 hC2 hcv1
        go_loopw [12] (fun i wr2 => ∃ (j q : Nat), j ≤ k ∧ i = .int .i64 j ∧ wr2 = (w5.alloc (.cells #[.int .i64 0, .int .i64 0] 26)).drewN q) (fun i _ => k - (intOf i).toNat)
        case atStart => exact ⟨0, 0, Nat.zero_le _, rfl, rfl⟩
        case round =>
          obtain ⟨j, q, hj, rfl, rfl⟩ := hrel
          by_cases hlt : j + 1 < k
          · have hlt' : (j : Int) + 1 < k := by omega
            have hjk : (j : Int) < k := by omega
            obtain ⟨⟨kd, A, E⟩, ht⟩ : ∃ t, ts[j]? = some t := ⟨_, List.getElem?_eq_getElem (by rw [HN.out]; omega)⟩
            obtain ⟨hA, hE⟩ := hin.out _ (List.mem_of_getElem? ht)
            simp only at hA hE
            obtain ⟨a, he1, he2, he3⟩ := HAT.out j (by rw [HN.out]; omega) (by rw [HN.out]; omega)
            have htk : ts[j]'(by rw [HN.out]; omega) = (kd, A, E) := by
              rw [List.getElem?_eq_getElem (by rw [HN.out]; omega)] at ht; exact Option.some.inj ht
            rw [htk] at he1 he2 he3
            simp only at he1 he2 he3
            obtain ⟨c0, c1, c2⟩ := lies_at HC.out HC1.out ht
            obtain ⟨d0, d1, d2⟩ := lies_at H5.out HC5.out he1
            simp only at c0 c1 c2 d0 d1 d2
            have hpos : A < E := cov_pos ts 0 (covers HSC.out) j _ ht (by rw [HN.out]; omega)
            obtain ⟨e, he⟩ : ∃ e, a + (E - A) = e := ⟨_, rfl⟩
            rw [he] at he1 he2 d2
            have hae : a < e := by omega
            have hae' : (a : Int) < e := by omega
            have hecb : e ≤ cb := Nat.le_trans he2 HJC.out.1
            have hJs := HJC.out.2
            have hacb : a ≠ cb := by omega
            have hEA : E - A = e - a := by omega
            have hk01 : ((kd : Int) != kd) = false := by simp
            have hel2 : Try.prog.elem 31 = 5 := by kernel_rfl
            have hsl : ∀ W, (Instr.slice 31 (.slice (some ⟨gb, 0, none⟩) J.length cb) (some (.int .i64 (a : Int))) (some (.int .i64 (e : Int))) none).run Try.prog W = .ok (.slice (some ⟨gb, a, none⟩) (e - a) (cb - a)) W := by
              intro W
              rw [run_slice_lh (w := W) 31 (some ⟨gb, 0, none⟩) J.length cb (by kernel_rfl) .i64 .i64 a e (by omega) (by omega) (by omega)]
              have hsz : (sizeOf (Try.prog.elem 31)).run Try.prog W = .ok 1 W := by rw [hel2]; exact Try.sizeOf5 W
              rw [hsz]
              simp [Result.andThen, sliced, Ne.symm hacb, Addr.add_lit]
            have hcv : ∀ x, (convert 31 9 (.slice (some ⟨gb, a, none⟩) (e - a) (cb - a))).run Try.prog ((w5.alloc (.cells #[.int .i64 0, .int .i64 0] 26)).drewN x) = .ok (.string (s.extract A E)) ((w5.alloc (.cells #[.int .i64 0, .int .i64 0] 26)).drewN x) := by
              intro x
              rw [conv_own HG2.out ((w5.alloc (.cells #[.int .i64 0, .int .i64 0] 26)).drewN x) (fun i hi => HCB.out i hi) a (e - a) (cb - a) (by omega)]
              congr 2
              rw [← hEA, he3]
              have : (s.extract A E).data.toList = txt s.data.toList (kd, A, E) := Lib.extract_data _ _ _
              rw [← this]
            clear ht htk he he1 he3 hel2
            go_wp2_with fail
            go_quiet (fail)
            go_wp2
            go_roundw
            case rel => first | exact ⟨j + 1, _, by omega, by go_num, rfl⟩ | ((repeat apply Exists.intro); exact ⟨⟨j + 1, _, by omega, by go_num, rfl⟩, rfl⟩)
            case measure => simp [intOf]; omega
          · have hlt' : ¬ (j : Int) + 1 < k := by omega
            go_wp2
            go_ret
            exact ⟨rfl, ⟨BF.out.os, BF.out.tape, BF.out.output, BF.out.size, BF.out.block⟩⟩
  · go_enter Try.func7, Try.ntmps7
    rw [← hGd]
    generalize hT : (ByteArray.mk #[32]) = T
    clear hGd hT
    go_wp2_with (first | (go_at_call 9; refine (awake_any _).mono ?_; rintro e w0 ⟨rfl, hb0⟩) | (go_at_call 10; refine (hC _).mono ?_; rintro e w1 ⟨v, rfl, hl1, hb1⟩; obtain ⟨ad, cap, rfl, hcells⟩ := hl1; obtain ⟨g, rfl, hcells2⟩ := hcells hn0; clear hcells2))
    have HC : Hid (Lies w1 (.slice (some ⟨g, 0, none⟩) ts.length cap) ts) := ⟨_, cap, rfl, hcells⟩
    have hB1 : Hid (Below w.heap.size w w1) := hb0.trans (hb1.mono hb0.size)
    have hzw : Hid (w.heap.size ≤ w1.heap.size) := hB1.out.size
    clear hcells hb0 hb1 hC
    obtain ⟨n, hn⟩ : ∃ n, ts.length = n := ⟨_, rfl⟩
    have HN : Hid (ts.length = n) := hn
    rw [hn] at hn0 hn1 ⊢
    clear hn
    go_loopw [8, 9] (fun v i wr => ∃ k : Nat, k ≤ n ∧ i = .int .i64 k ∧ Hid (Gathers s.data.toList G.data.toList ts w1 (.cells #[.int .i64 0, .int .i64 0] 26) v k wr)) (fun _ i _ => n - (intOf i).toNat)
    case atStart => exact ⟨0, Nat.zero_le _, rfl, World.ownsRow_nil _ _ _ _, Below.refl _ _⟩
    case round =>
      obtain ⟨k, hk, rfl, hr⟩ := hrel
      by_cases hlt : k < n
      · have hlt' : (k : Int) < n := by omega
        obtain ⟨⟨kd, A, E⟩, ht⟩ : ∃ t, ts[k]? = some t := ⟨_, List.getElem?_eq_getElem (by rw [HN.out]; exact hlt)⟩
        obtain ⟨hA, hE⟩ := hin.out _ (List.mem_of_getElem? ht)
        simp only at hA hE
        have hW : Below w1.heap.size w1 wr := ((Below.refl _ _).alloc (Nat.le_refl _) _).trans (hr.out.2.mono (by omega))
        obtain ⟨c0, c1, c2⟩ := lies_at HC.out hW ht
        simp only at c0 c1 c2
        have hX : (s.extract A E).data.toList = txt s.data.toList (kd, A, E) := Lib.extract_data _ _ _
        have hsz1 : (s.extract A E).size ≤ 8000 := by
          rw [Lib.size_eq, hX]; unfold txt; simp; omega
        have hpk := HPRE.out k
        have hbw : w1.heap.size + 1 ≤ wr.heap.size := by have := hr.out.2.size; simp at this; omega
        have HOWN : Hid (wr.drew.ownsRow (w1.heap.size + 1) 5 1 u8 (joined s.data.toList G.data.toList (ts.take k)).length (byteCells (joined s.data.toList G.data.toList (ts.take k)))) := hr.out.1
        have HM1 : Hid ((joined s.data.toList G.data.toList (ts.take k)).length + (s.extract A E).size ≤ maxLen) := by show _ ≤ _; unfold maxLen; omega
        have HM2 : Hid ((joined s.data.toList G.data.toList (ts.take k)).length + (s.extract A E).size ≤ 140737488355328) := by show _ ≤ _; omega
        have HM3 : Hid (w1.heap.size + 1 ≤ wr.drew.heap.size) := hbw
        have HX : Hid ((s.extract A E).data.toList = txt s.data.toList (kd, A, E)) := hX
        have HT : Hid (ts[k]? = some (kd, A, E)) := ht
        clear hX hsz1 hpk hbw hW ht
        go_wp2_with fail
        go_region_law (refine step_append_str rfl (.tmp 36) (.tmp 48) 31 9 rfl (w1.heap.size + 1) 5 i0 Try.underlying31 Try.underlying9 hi hz0 hz1 hz2 u8 _ _ ?e1 HOWN.out (s.extract A E) ?e2 HM1.out HM2.out HM3.out ?_; (case e1 => simp [Act.eval, Act.put]); (case e2 => simp [Act.eval, Act.put]); intro v2 w2 hown2 hgrow2)
        all_goals
          have y2 : w1.heap.size + 1 ≤ w2.heap.size := Nat.le_trans HM3.out hgrow2.size
          have B2 : Below (w1.heap.size + 1) (w1.alloc (.cells #[.int .i64 0, .int .i64 0] 26)) w2 := (hr.out.2.drew).grown hgrow2 HM3.out (fun q hq => (HOWN.out.lt q hq).1)
          have HB2 : Hid _ := B2
          have HM4 : Hid ((joined s.data.toList G.data.toList (ts.take k)).length + (s.extract A E).size + G.size ≤ maxLen) := by
            have := HPRE.out (k + 1)
            rw [joined_snoc HT.out, List.length_append, List.length_append, ← HX.out, ← Lib.size_eq, ← Lib.size_eq] at this
            show _ ≤ _
            unfold maxLen; omega
          have HM5 : Hid ((joined s.data.toList G.data.toList (ts.take k)).length + (s.extract A E).size + G.size ≤ 140737488355328) := by
            have := HPRE.out (k + 1)
            rw [joined_snoc HT.out, List.length_append, List.length_append, ← HX.out, ← Lib.size_eq, ← Lib.size_eq] at this
            show _ ≤ _
            omega
          have HO2 : Hid _ := hown2
          clear B2 hown2 hgrow2
          go_wp2_with (at_builtin; refine Lib.wpList_append_own_string _ rfl _ _ 31 9 rfl (w1.heap.size + 1) 5 i0 Try.underlying31 Try.underlying9 hi hz0 hz1 hz2 v2 _ _ rfl HO2.out G rfl HM4.out HM5.out y2 ?_; intro v3 w3 hown3 hgrow3 _)
          go_roundw
          case rel =>
            refine ⟨k + 1, by omega, by go_num, ?_, HB2.out.grown hgrow3 y2 (fun q hq => (own_lt HO2.out q hq).1)⟩
            rw [joined_snoc HT.out, List.length_append, List.length_append, ← HX.out, ← Lib.size_eq, ← Lib.size_eq, byteCells_app, byteCells_app]
            exact hown3
          case measure => simp [intOf]; omega
      · have hkn : k = n := by omega
        subst hkn
        have hg2 : wr.ownsRow (w1.heap.size + 1) 5 1 u8 (joined s.data.toList G.data.toList ts).length (byteCells (joined s.data.toList G.data.toList ts)) := by
          have := hr.out.1
          rw [List.take_of_length_le (by rw [HN.out]; exact Nat.le_refl _)] at this
          exact this
        have hW : Below (w1.heap.size + 1) (w1.alloc (.cells #[.int .i64 0, .int .i64 0] 26)) wr := hr.out.2
        have hjn := HJN.out
        have hat := join_at (l := s.data.toList) (gap := G.data.toList) ts (by rw [HL.out]; exact hin.out) []
        have hj0 : 0 < (joined s.data.toList G.data.toList ts).length := by
          cases ts with
          | nil => have := HN.out; simp at this; omega
          | cons t us => unfold joined; rw [List.flatMap_cons, List.length_append, List.length_append]; omega
        simp only [List.nil_append, List.length_nil] at hat
        obtain ⟨J, hJd⟩ : ∃ J, joined s.data.toList G.data.toList ts = J := ⟨_, rfl⟩
        rw [hJd] at hg2 hjn hat hj0 hJ
        obtain ⟨gb, cb, hv, hgb⟩ : ∃ gb cb, u8 = .slice (some ⟨gb, 0, none⟩) J.length cb ∧ J.length ≤ cb := by
          rcases hg2.2 with ⟨_, h0⟩ | ⟨gb, cb, cur, hv, _, _, hle, _⟩
          · omega
          · exact ⟨gb, cb, hv, hle⟩
        subst hv
        have hgbl := (hg2.lt gb rfl)
        have hcv1 := conv_own hg2 wr (fun _ _ => rfl) 0 J.length cb (by omega)
        rw [List.drop_zero, List.take_of_length_le (Nat.le_refl _)] at hcv1
        obtain ⟨S, hS⟩ : ∃ S : ByteArray, (⟨J.toArray⟩ : ByteArray) = S := ⟨_, rfl⟩
        rw [hS] at hcv1
        have hSl : S.data.toList = J := by rw [← hS]
        rw [← hSl] at hJ
        have hC2 := fun w => scan_good (s := S) (by rw [Lib.size_eq, hSl]; omega) hJ w
        have hel := expT_len G.data.toList.length ts 0
        generalize hm : expT G.data.toList.length 0 ts = ms at hC2 hel hat
        have hmn : 0 < ms.length := by rw [hel, HN.out]; exact hn0
        have HG2 : Hid _ := hg2
        have HW : Hid _ := hW
        have HAT : Hid _ := hat
        have HEL : Hid (ms.length = k) := by show _ = _; rw [hel, HN.out]
        have HJC : Hid (J.length ≤ cb ∧ J.length ≤ 56006) := ⟨hgb, hjn⟩
        have HGB : Hid (gb < wr.heap.size) := hgbl.2
        clear hg2 hW hat hel hJ hJd hS hSl hm hjn hgb hgbl hr hlt
        go_wp2_with (go_at_call 10; refine (hC2 _).mono ?_; rintro e w5 ⟨v5, rfl, hl5, hb5⟩; obtain ⟨ad5, cap5, rfl, hcells5⟩ := hl5; obtain ⟨g5, rfl, hcells6⟩ := hcells5 hmn; clear hcells6; rw [HEL.out])
        have z5 := hb5.size
        have H5 : Hid (Lies w5 (.slice (some ⟨g5, 0, none⟩) ms.length cap5) ms) := ⟨_, cap5, rfl, hcells5⟩
        have hz1 : w1.heap.size + 1 ≤ wr.heap.size := by have := HW.out.size; simp at this; omega
        have C1 : Below w1.heap.size w1 (w5.alloc (.cells #[.int .i64 0, .int .i64 0] 26)) := (((((Below.refl _ _).alloc (Nat.le_refl _) _).trans (HW.out.mono (by omega))).trans (hb5.mono (by omega))).alloc (by omega) _)
        have C5 : Below w5.heap.size w5 (w5.alloc (.cells #[.int .i64 0, .int .i64 0] 26)) := (Below.refl _ _).alloc (Nat.le_refl _) _
        have BF : Hid (Below w.heap.size w (w5.alloc (.cells #[.int .i64 0, .int .i64 0] 26))) := hB1.out.trans (C1.mono hzw.out)
        have hcB : ∀ j, j < J.length → (w5.alloc (.cells #[.int .i64 0, .int .i64 0] 26)).cell? ⟨gb, j, none⟩ = wr.cell? ⟨gb, j, none⟩ := by
          intro j _
          have hgb := HGB.out
          exact (past1 (show gb < w5.heap.size by omega) _ j).trans (hb5.cell (p := ⟨gb, j, none⟩) hgb)
        have HCB : Hid _ := hcB
        have HC1 : Hid _ := C1
        have HC5 : Hid _ := C5
        clear hcB C1 C5 hcells5 hb5 hC2 hcv1
        go_loopw [12] (fun i wr2 => ∃ (j q : Nat), j ≤ k ∧ i = .int .i64 j ∧ wr2 = (w5.alloc (.cells #[.int .i64 0, .int .i64 0] 26)).drewN q) (fun i _ => k - (intOf i).toNat)
        case atStart => exact ⟨0, 0, Nat.zero_le _, rfl, rfl⟩
        case round =>
          obtain ⟨j, q, hj, rfl, rfl⟩ := hrel
          by_cases hlt : j + 1 < k
          · have hlt' : (j : Int) + 1 < k := by omega
            have hjk : (j : Int) < k := by omega
            obtain ⟨⟨kd, A, E⟩, ht⟩ : ∃ t, ts[j]? = some t := ⟨_, List.getElem?_eq_getElem (by rw [HN.out]; omega)⟩
            obtain ⟨hA, hE⟩ := hin.out _ (List.mem_of_getElem? ht)
            simp only at hA hE
            obtain ⟨a, he1, he2, he3⟩ := HAT.out j (by rw [HN.out]; omega) (by rw [HN.out]; omega)
            have htk : ts[j]'(by rw [HN.out]; omega) = (kd, A, E) := by
              rw [List.getElem?_eq_getElem (by rw [HN.out]; omega)] at ht; exact Option.some.inj ht
            rw [htk] at he1 he2 he3
            simp only at he1 he2 he3
            obtain ⟨c0, c1, c2⟩ := lies_at HC.out HC1.out ht
            obtain ⟨d0, d1, d2⟩ := lies_at H5.out HC5.out he1
            simp only at c0 c1 c2 d0 d1 d2
            have hpos : A < E := cov_pos ts 0 (covers HSC.out) j _ ht (by rw [HN.out]; omega)
            obtain ⟨e, he⟩ : ∃ e, a + (E - A) = e := ⟨_, rfl⟩
            rw [he] at he1 he2 d2
            have hae : a < e := by omega
            have hae' : (a : Int) < e := by omega
            have hecb : e ≤ cb := Nat.le_trans he2 HJC.out.1
            have hJs := HJC.out.2
            have hacb : a ≠ cb := by omega
            have hEA : E - A = e - a := by omega
            have hk01 : ((kd : Int) != kd) = false := by simp
            have hel2 : Try.prog.elem 31 = 5 := by kernel_rfl
            have hsl : ∀ W, (Instr.slice 31 (.slice (some ⟨gb, 0, none⟩) J.length cb) (some (.int .i64 (a : Int))) (some (.int .i64 (e : Int))) none).run Try.prog W = .ok (.slice (some ⟨gb, a, none⟩) (e - a) (cb - a)) W := by
              intro W
              rw [run_slice_lh (w := W) 31 (some ⟨gb, 0, none⟩) J.length cb (by kernel_rfl) .i64 .i64 a e (by omega) (by omega) (by omega)]
              have hsz : (sizeOf (Try.prog.elem 31)).run Try.prog W = .ok 1 W := by rw [hel2]; exact Try.sizeOf5 W
              rw [hsz]
              simp [Result.andThen, sliced, Ne.symm hacb, Addr.add_lit]
            have hcv : ∀ x, (convert 31 9 (.slice (some ⟨gb, a, none⟩) (e - a) (cb - a))).run Try.prog ((w5.alloc (.cells #[.int .i64 0, .int .i64 0] 26)).drewN x) = .ok (.string (s.extract A E)) ((w5.alloc (.cells #[.int .i64 0, .int .i64 0] 26)).drewN x) := by
              intro x
              rw [conv_own HG2.out ((w5.alloc (.cells #[.int .i64 0, .int .i64 0] 26)).drewN x) (fun i hi => HCB.out i hi) a (e - a) (cb - a) (by omega)]
              congr 2
              rw [← hEA, he3]
              have : (s.extract A E).data.toList = txt s.data.toList (kd, A, E) := Lib.extract_data _ _ _
              rw [← this]
            clear ht htk he he1 he3 hel2
            go_wp2_with fail
            go_quiet (fail)
            go_wp2
            go_roundw
            case rel => first | exact ⟨j + 1, _, by omega, by go_num, rfl⟩ | ((repeat apply Exists.intro); exact ⟨⟨j + 1, _, by omega, by go_num, rfl⟩, rfl⟩)
            case measure => simp [intOf]; omega
          · have hlt' : ¬ (j : Int) + 1 < k := by omega
            go_wp2
            go_ret
            exact ⟨rfl, ⟨BF.out.os, BF.out.tape, BF.out.output, BF.out.size, BF.out.block⟩⟩

set_option maxRecDepth 100000 in
set_option maxHeartbeats 400000 in
theorem joined_walk (s : ByteArray) (z : s.data.toList.length ≤ reachBytes) (b : Bool) (w : World) : Calls Try.prog 7 #[.string s, .bool b] w fun e w' => e = .returned (.bool true) ∧ Below w.heap.size w w' := by
  have zs := reach_ofJ z
  clear z
  by_cases hs : 8000 < s.size
  · have hs' : (8000 : Int) < s.size := by omega
    go_enter Try.func7, Try.ntmps7
    go_wp2_with (go_at_call 9; refine (awake_any _).mono ?_; rintro e w0 ⟨rfl, hb0⟩)
    go_ret
    exact ⟨rfl, hb0⟩
  · have hs' : (s.size : Int) ≤ 8000 := by omega
    have hs2 : s.size ≤ 65536 := by omega
    clear zs
    rcases hsc : scanS true s.data.toList with p | ⟨ts⟩
    · have hC := fun w => scan_bad hs2 hsc w
      clear hsc
      go_enter Try.func7, Try.ntmps7
      go_wp2_with (first | (go_at_call 9; refine (awake_any _).mono ?_; rintro e w0 ⟨rfl, hb0⟩) | (go_at_call 10; refine (hC _).mono ?_; rintro e w1 ⟨ad, cap, rfl, hb1⟩))
      go_ret
      exact ⟨rfl, ((hb0.trans (hb1.mono hb0.size)).alloc (by have := hb0.size; have := hb1.size; omega) _)⟩
    · cases b
      · exact joined_ok s ⟨#[32]⟩ false ts (.inl rfl) (.inl ⟨rfl, rfl⟩) (by omega) hsc w
      · exact joined_ok s ⟨#[32, 47, 47, 43, 49, 10]⟩ true ts (.inr rfl) (.inr ⟨rfl, rfl⟩) (by omega) hsc w
end Go.Proofs.Ytcinlpiidgbnaaa
