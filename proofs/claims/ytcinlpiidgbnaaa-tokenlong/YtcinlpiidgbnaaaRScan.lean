/- The document's Scan: it tells the tokens and the fault of the plain scan; they lie in new memory. -/
import Derived.Test.YtcinlpiidgbnaaaRExp
import Derived.Test.YtcinlpiidgbnaaaRSign
import Derived.Test.YtcinlpiidgbnaaaRWord
import Derived.Test.YtcinlpiidgbnaaaScan
namespace Go.Proofs.Ytcinlpiidgbnaaa
open Go.RowKit

theorem rlit_any (s : ByteArray) (k : Nat) (w : World) (hs : s.size ≤ 65536) (hk : k ≤ s.size) :
    Calls Try.prog 26 #[.string s, .int .i64 (k : Int)] w fun e w' => e = .returned (rlitV k (litL true (s.data.toList.drop k))) ∧ Below w.heap.size w w' := by
  cases h46 : hasL s.data.toList (k + rowL digitB (s.data.toList.drop k)) 46
  · exact rlit_int s k w hs hk h46
  · by_cases hm0 : rowL digitB (s.data.toList.drop (k + rowL digitB (s.data.toList.drop k) + 1)) = 0
    · exact rlit_flt s k w hs hk h46 (fun h => absurd hm0 h)
    · cases h101 : hasL s.data.toList (k + rowL digitB (s.data.toList.drop k) + 1 + rowL digitB (s.data.toList.drop (k + rowL digitB (s.data.toList.drop k) + 1))) 101
      · exact rlit_flt s k w hs hk h46 (fun _ => h101)
      · exact rlit_exp s k w hs hk h46 hm0 h101
theorem cut_letter {s : ByteArray} {k : Nat} (h : k < s.size) (hl : letterB s[k] = true) : cutL true (s.data.toList.drop k) = nameL (s.data.toList.drop k) := by
  rw [drop_at h]; simp [cutL, hl]
theorem cut_digit {s : ByteArray} {k : Nat} (h : k < s.size) (hl : letterB s[k] = false) (hd : digitB s[k] = true) : cutL true (s.data.toList.drop k) = litL true (s.data.toList.drop k) := by
  rw [drop_at h]; simp [cutL, hl, hd]
theorem cut_sign {s : ByteArray} {k : Nat} (h : k < s.size) (hl : letterB s[k] = false) (hd : digitB s[k] = false) : cutL true (s.data.toList.drop k) = if rsignN (s.data.toList.drop k) = 0 then .error 0 else .ok (6, rsignN (s.data.toList.drop k)) := by
  rw [drop_at h]
  generalize s.data.toList.drop (k + 1) = t
  have h2 : twoB ((s[k] :: t).take 2) = true → markB s[k] = true := by
    intro h2
    unfold twoB at h2
    rw [List.contains_eq_mem] at h2
    simp only [decide_eq_true_eq] at h2
    obtain ⟨c, d, e, hm⟩ := two_one _ h2
    match t, e with
    | [], e => simp at e
    | x :: u, e => simp at e; rw [e.1]; exact hm
  simp only [cutL, hl, hd, rsignN, signL]
  cases ht : twoB ((s[k] :: t).take 2)
  · cases hm : markB s[k] <;> simp
  · simp [h2 ht]
theorem owns_set {w : World} {base : Nat} {e : TypeId} {sz : Nat} {v : Value} {n : Nat} {xs : List Value} (h : w.ownsRow base e sz v n xs) {a : Addr} (hne : ∀ q, v.ownBlock = some q → q ≠ a.block) (u : Value) : (w.setCell a u).ownsRow base e sz v n xs := by
  refine ⟨h.1, ?_⟩
  rcases h.2 with h0 | ⟨g, cap, cur, hv, h1, hh, h2⟩
  · exact .inl h0
  · refine .inr ⟨g, cap, cur, hv, h1, ?_, h2⟩
    rw [Below.heap_setCell w a u g (hne g (by rw [hv]; rfl))]; exact hh
theorem owns_drewN {w : World} {base : Nat} {e : TypeId} {sz : Nat} {v : Value} {n : Nat} {xs : List Value} (h : w.ownsRow base e sz v n xs) (m : Nat) : (w.drewN m).ownsRow base e sz v n xs := h
theorem below_drewN {B : Nat} {w w' : World} (h : Below B w w') (n : Nat) : Below B w (w'.drewN n) := ⟨h.os, h.tape, h.output, h.size, h.block⟩
/-- The world in which the document's loop begins: the result's cell. -/
def W1 (w : World) : World := w.alloc (.cells #[.int .i64 0, .int .i64 0] 26)
theorem w1_size (w : World) : (W1 w).heap.size = w.heap.size + 1 := by simp [W1]
theorem w1_below (w : World) : Below w.heap.size w (W1 w) := (Below.refl _ _).alloc (Nat.le_refl _) _
theorem w1_res {w wr : World} (h : Below (w.heap.size + 1) (W1 w) wr) :
    wr.cell? ⟨w.heap.size, 0, none⟩ = some (.int .i64 0) ∧ wr.cell? ⟨w.heap.size, 1, none⟩ = some (.int .i64 0) ∧ wr.frozen? ⟨w.heap.size, 0, none⟩ = false ∧ wr.frozen? ⟨w.heap.size, 1, none⟩ = false ∧ w.heap.size < wr.heap.size := by
  have hz := h.size
  rw [w1_size] at hz
  have e : (W1 w).heap[w.heap.size]? = some (.cells #[.int .i64 0, .int .i64 0] 26) := heap_alloc_new w _
  have e2 := (h.block w.heap.size (by omega)).trans e
  refine ⟨?_, ?_, ?_, ?_, by omega⟩
  · simp only [World.cell?, e2]; rfl
  · simp only [World.cell?, e2]; rfl
  · simp only [World.frozen?, e2]; rfl
  · simp only [World.frozen?, e2]; rfl
/-- Behind the append of a token: all that is old is as it was, and a cell that is not of the row. -/
theorem grown_any {B : Nat} {W wX w3 : World} {v : Value} {n : Nat} {xs : List Value} {o : Obj} {g : Nat} {c : Value} (hown : wX.ownsRow B 35 3 v n xs) (hB : Below B W wX) (hBw : B ≤ wX.heap.size) (hc : (wX.alloc o).cell? ⟨g, 2, none⟩ = some c) (hne : ∀ q, v.ownBlock = some q → q ≠ g)
    (hg : (wX.alloc o).grownBy w3 v.ownBlock) : w3.cell? ⟨g, 2, none⟩ = some c ∧ Below B W w3 :=
  ⟨hg.cell hc (fun he => hne g he.symm rfl), (hB.alloc hBw o).grown hg (by simp; omega) (fun q hq => (own_lt hown q hq).1)⟩
theorem own_ne {w : World} {base : Nat} {e : TypeId} {sz : Nat} {v : Value} {n : Nat} {xs : List Value} (h : w.ownsRow base e sz v n xs) {g : Nat} (hg : w.heap.size ≤ g) : ∀ q, v.ownBlock = some q → q ≠ g := by
  intro q hq
  have := own_lt h q hq
  omega
theorem rsign_below (s : ByteArray) (k : Nat) (w : World) (hs : s.size ≤ 65536) (hk : k < s.size) :
    Calls Try.prog 27 #[.string s, .int .i64 (k : Int)] w fun e w' => e = .returned (.int .i64 (rsignN (s.data.toList.drop k) : Int)) ∧ Below w.heap.size w w' := by
  refine (rsign_any s k w hs hk).mono ?_
  rintro e w' ⟨rfl, n, rfl⟩
  exact ⟨rfl, below_drewN (Below.refl _ _) n⟩
theorem ret_fault {F : Func} {R : Ending → World → Prop} {t : Array Value} {Wf : World} {b : Nat} {v x y : Value} (h0 : Wf.cell? ⟨b, 0, none⟩ = some x) (h1 : Wf.cell? ⟨b, 1, none⟩ = some y)
    (hr : ∀ Wf : World, Wf.cell? ⟨b, 0, none⟩ = some x → Wf.cell? ⟨b, 1, none⟩ = some y → (results F t).run Try.prog Wf = .ok (.tuple #[v, .agg #[x, y]]) Wf) (hR : R (.returned (.tuple #[v, .agg #[x, y]])) Wf) :
    bodyPost Try.prog F R .ret { tmps := t, defers := [] } Wf := bodyPost_ret (hr Wf h0 h1) rfl hR
theorem res_alloc {w : World} {b : Nat} {x y p q : Value} (hb : b < w.heap.size) (d0 : w.cell? ⟨b, 0, none⟩ = some p) (d1 : w.cell? ⟨b, 1, none⟩ = some q) (o : Obj) :
    (((w.setCell ⟨b, 0, none⟩ x).setCell ⟨b, 1, none⟩ y).alloc o).cell? ⟨b, 0, none⟩ = some x ∧ (((w.setCell ⟨b, 0, none⟩ x).setCell ⟨b, 1, none⟩ y).alloc o).cell? ⟨b, 1, none⟩ = some y := by
  have h := (Below.refl ((w.setCell ⟨b, 0, none⟩ x).setCell ⟨b, 1, none⟩ y).heap.size _).alloc (Nat.le_refl _) o
  have hs : ((w.setCell ⟨b, 0, none⟩ x).setCell ⟨b, 1, none⟩ y).heap.size = w.heap.size := by simp
  rw [h.cell (p := ⟨b, 0, none⟩) (by rw [hs]; exact hb), h.cell (p := ⟨b, 1, none⟩) (by rw [hs]; exact hb)]
  simp [go_sem, d0, d1]
theorem res_set {w : World} {b : Nat} {x y p q : Value} (d0 : w.cell? ⟨b, 0, none⟩ = some p) (d1 : w.cell? ⟨b, 1, none⟩ = some q) :
    ((w.setCell ⟨b, 0, none⟩ x).setCell ⟨b, 1, none⟩ y).cell? ⟨b, 0, none⟩ = some x ∧ ((w.setCell ⟨b, 0, none⟩ x).setCell ⟨b, 1, none⟩ y).cell? ⟨b, 1, none⟩ = some y := by
  simp [go_sem, d0, d1]
theorem end_sign {w : World} {g : Nat} {x y z : Value} (hg : g < w.heap.size) (t2 : w.cell? ⟨g, 2, none⟩ = some z) (o : Obj) : (((w.setCell ⟨g, 0, none⟩ x).setCell ⟨g, 2, none⟩ y).alloc o).cell? ⟨g, 2, none⟩ = some y := by
  have h := (Below.refl ((w.setCell ⟨g, 0, none⟩ x).setCell ⟨g, 2, none⟩ y).heap.size _).alloc (Nat.le_refl _) o
  rw [h.cell (p := ⟨g, 2, none⟩) (by simpa using hg)]
  simp [go_sem, t2]
theorem end_lit {w : World} {g : Nat} {x u y z : Value} (hg : g < w.heap.size) (t2 : w.cell? ⟨g, 2, none⟩ = some z) (o1 o2 : Obj) : (((((w.setCell ⟨g, 0, none⟩ x).setCell ⟨g, 1, none⟩ u).setCell ⟨g, 2, none⟩ y).alloc o1).alloc o2).cell? ⟨g, 2, none⟩ = some y := by
  have h := ((Below.refl (((w.setCell ⟨g, 0, none⟩ x).setCell ⟨g, 1, none⟩ u).setCell ⟨g, 2, none⟩ y).heap.size _).alloc (Nat.le_refl _) o1).alloc (by simp) o2
  rw [h.cell (p := ⟨g, 2, none⟩) (by simpa using hg)]
  simp [go_sem, t2]
theorem lit_world {w wr w2 : World} {a b c : Value} (h : Below (w.heap.size + 1) (W1 w) wr) (hb2 : Below (wr.alloc (.cells #[a, b, c] 35)).heap.size (wr.alloc (.cells #[a, b, c] 35)) w2) :
    Below (w.heap.size + 1) (W1 w) w2 ∧ w2.cell? ⟨wr.heap.size, 0, none⟩ = some a ∧ w2.cell? ⟨wr.heap.size, 1, none⟩ = some b ∧ w2.cell? ⟨wr.heap.size, 2, none⟩ = some c ∧ w2.frozen? ⟨wr.heap.size, 0, none⟩ = false ∧ w2.frozen? ⟨wr.heap.size, 1, none⟩ = false ∧ w2.frozen? ⟨wr.heap.size, 2, none⟩ = false ∧ wr.heap.size < w2.heap.size := by
  have hz := h.size
  rw [w1_size] at hz
  have hz2 := hb2.size
  have hsz : (wr.alloc (.cells #[a, b, c] 35)).heap.size = wr.heap.size + 1 := by simp
  have e := (hb2.block wr.heap.size (by omega)).trans (heap_alloc_new wr _)
  refine ⟨(h.alloc hz _).trans (hb2.mono (by omega)), ?_, ?_, ?_, ?_, ?_, ?_, by omega⟩
  · simp only [World.cell?, e]; rfl
  · simp only [World.cell?, e]; rfl
  · simp only [World.cell?, e]; rfl
  · simp only [World.frozen?, e]; rfl
  · simp only [World.frozen?, e]; rfl
  · simp only [World.frozen?, e]; rfl

set_option maxRecDepth 100000 in
set_option maxHeartbeats 2000000 in
theorem rscan_any (s : ByteArray) (w : World) (hmax : s.size ≤ maxLen) : Calls Try.prog 11 #[.string s] w (Told s.data.toList w) := by
  unfold maxLen at hmax
  have hlen : s.data.toList.length = s.size := by simp
  by_cases hs : 65536 < s.size
  · have hT := of_long (l := s.data.toList) (by omega)
    have hs' : (65536 : Int) < s.size := by omega
    clear hlen hmax
    go_enter Try.func11, Try.ntmps11
    go_wp2
    refine bodyPost_ret (v := .tuple #[.slice none 0 0, .agg #[.int .i64 3, .int .i64 0]]) (by simp [results, Try.results11, go_sem]) rfl ⟨.slice none 0 0, ?_, ?_, ?_⟩
    · rw [hT.2.1, hT.2.2]
    · rw [hT.1]; exact World.ownsRow_nil _ _ _ _
    · exact (Below.refl _ _).alloc (Nat.le_refl _) _
  · have hs2 : s.size ≤ 65536 := by omega
    have hs' : (s.size : Int) ≤ 65536 := by omega
    have hg := skip_any s 0 0 rfl
    have hA : Hid (At true s.data.toList [] (skipL false s.data.toList)) := at_start _ _
    rw [List.drop_zero, Nat.zero_add] at hg
    have hk1s := skipL_le s.data.toList false
    rw [hlen] at hk1s
    obtain ⟨k1, hk1⟩ : ∃ k1, skipL false s.data.toList = k1 := ⟨_, rfl⟩
    rw [hk1] at hg hA hk1s
    have HL : Hid (s.data.toList.length = s.size) := hlen
    clear hk1 hs hmax hlen
    obtain ⟨i0, hi, hz0, hz1, hz2⟩ := info_parts info35
    go_enter Try.func11, Try.ntmps11
    go_wp2_with (go_at_call 22; refine (hg _ hs2 (by omega)).mono ?_; rintro e w1 ⟨rfl, rfl⟩)
    clear hg
    go_loopw [4, 5] (fun v i wr => ∃ (k : Nat) (ts : List Tok), k ≤ s.size ∧ ts.length ≤ k ∧ i = .int .i64 k ∧ Hid (At true s.data.toList ts k ∧ wr.ownsRow (w.heap.size + 1) 35 3 v ts.length (tokCells ts) ∧ Below (w.heap.size + 1) (W1 w) wr)) (fun _ i _ => s.size - (intOf i).toNat)
    case atStart => exact ⟨k1, [], hk1s, Nat.zero_le _, rfl, hA.out, World.ownsRow_nil _ _ _ _, Below.refl _ _⟩
    case round =>
      clear hA hk1s
      obtain ⟨k, ts, hk, htk, rfl, hr⟩ := hrel
      obtain ⟨d0, d1, f0, f1, hzz⟩ := w1_res hr.out.2.2
      by_cases hlt : k < s.size
      · have hlt' : (k : Int) < s.size := by omega
        cases hl : letterB s[k]
        · cases hd : digitB s[k]
          · have hc0 := cut_sign hlt hl hd
            have hSg := rsign_below s k
            obtain ⟨e, he⟩ : ∃ e, rsignN (s.data.toList.drop k) = e := ⟨_, rfl⟩
            rw [he] at hc0 hSg
            have hNE := own_ne hr.out.2.1 (Nat.le_refl _)
            have HNE : Hid _ := hNE
            clear hNE
            by_cases he0 : e = 0
            · rw [if_pos he0] at hc0
              have hE : Hid (scanS true s.data.toList = .error (k + 0)) := at_err hr.out.1 (by rw [HL.out]; exact hlt) hc0
              have hT := of_err (l := s.data.toList) (by rw [HL.out]; omega) hE.out
              have HT : Hid _ := hT
              subst he0
              clear hc0 hE hT he d0 d1 f0 f1
              go_wp2_with (first | (go_at_call 23; refine (letter_any _ _).mono ?_; rintro e w' ⟨rfl, rfl⟩) | (go_at_call 25; refine (digit_any _ _).mono ?_; rintro e w' ⟨rfl, rfl⟩) | (go_at_call 27; refine (hSg _ hs2 hlt).mono ?_; rintro e w2 ⟨rfl, hb2⟩; obtain ⟨hB2, t0, t1, t2, t3, t4, t5, hz3⟩ := lit_world hr.out.2.2 hb2; obtain ⟨d0, d1, f0, f1, hzz2⟩ := w1_res hB2))
              refine ret_fault (b := w.heap.size) (v := .slice none 0 0) (x := .int .i64 120) (y := .int .i64 (k : Int)) ?h0 ?h1 ?hr ⟨.slice none 0 0, ?_, ?_, ?_⟩
              case h0 => first | exact (res_alloc (by omega) d0 d1 _).1 | exact (res_set d0 d1).1
              case h1 => first | exact (res_alloc (by omega) d0 d1 _).2 | exact (res_set d0 d1).2
              case hr => intro Wf h0 h1; simp [results, Try.results11, go_sem, h0, h1]
              · first | (rw [HT.out.2.1, HT.out.2.2]; done) | (rw [HT.out.2.1, HT.out.2.2]; rfl)
              · rw [HT.out.1]; exact World.ownsRow_nil _ _ _ _
              · exact ((((w1_below w).trans (hB2.mono (by omega))).setCell (Nat.le_refl _) _).setCell (Nat.le_refl _) _)
            · rw [if_neg he0] at hc0
              obtain ⟨j, hj⟩ : ∃ j, k + e = j := ⟨_, rfl⟩
              have hS := at_step hr.out.1 (by rw [HL.out]; exact hlt) hc0
              rw [HL.out] at hS
              have hg2 := fun w => skip_any s ((k + e : Nat) : Int) (k + e) rfl w hs2 hS.2.2.1
              obtain ⟨k2, hk2⟩ : ∃ k2, k + e + skipL false (s.data.toList.drop (k + e)) = k2 := ⟨_, rfl⟩
              rw [hk2] at hS hg2
              rw [hj] at hS hg2
              have hkj : k < j := by omega
              have hjk : j ≤ k2 := by omega
              have hk2s : k2 ≤ s.size := hS.2.2.2
              have HS : Hid (At true s.data.toList (ts ++ [(6, k, j)]) k2) := hS.1
              have hjs : j ≤ s.size := by omega
              have hei : (k : Int) + e = j := by omega
              have he1 : ((e : Int) == 0) = false := by simp; omega
              clear hc0 hS he he0 hk2 hj d0 d1 f0 f1
              go_wp2_with (first | (go_at_call 23; refine (letter_any _ _).mono ?_; rintro e w' ⟨rfl, rfl⟩) | (go_at_call 25; refine (digit_any _ _).mono ?_; rintro e w' ⟨rfl, rfl⟩) | (go_at_call 27; refine (hSg _ hs2 hlt).mono ?_; rintro e w2 ⟨rfl, hb2⟩; obtain ⟨hB2, t0, t1, t2, t3, t4, t5, hz3⟩ := lit_world hr.out.2.2 hb2) | (at_builtin; refine wpList_append_own _ rfl _ _ 23 rfl (w.heap.size + 1) 35 i0 (.agg #[.int .u8 0, .int .i64 0, .int .i64 0]) 3 24 Try.underlying23 hi hz0 hz1 hz2 rfl (by decide) _ _ _ rfl ((owns_set (owns_set (owns_below (hr.out.2.1.alloc _) hb2) HNE.out _) HNE.out _).alloc _) ⟨w2.heap.size, 0, none⟩ 1 1 [.int .u8 (6 : Int), .int .i64 (k : Int), .int .i64 (j : Int)] rfl rfl ?c1 ?c2 ?c3 ?c4 ?c5 ?_))
              case c1 => exact cells3_new (by simp) _ _ _ _
              case c2 => intro u hu; simp at hu; rcases hu with rfl | rfl | rfl <;> rfl
              case c3 => unfold maxLen; omega
              case c4 => omega
              case c5 => simp; omega
              intro v' w3 hown' hgrow _
              have hG := grown_any (g := wr.heap.size) (c := .int .i64 (j : Int)) (owns_set (owns_set (owns_below (hr.out.2.1.alloc _) hb2) HNE.out _) HNE.out _) ((hB2.setCell (by first | omega | (simp <;> omega)) _).setCell (by first | omega | (simp <;> omega)) _) (by first | omega | (simp <;> omega)) (end_sign hz3 t2 _) (own_ne hr.out.2.1 (Nat.le_refl _)) hgrow
              have hcj := hG.1
              have hB3 : Hid (Below (w.heap.size + 1) (W1 w) w3) := hG.2
              have hO3 : Hid (w3.ownsRow (w.heap.size + 1) 35 3 v' (ts ++ [(6, k, j)]).length (tokCells (ts ++ [(6, k, j)]))) := by
                rw [tokCells_snoc, List.length_append]; exact hown'
              clear hG hown' hgrow hr hb2 hB2
              go_wp2_with (go_at_call 22; refine (hg2 _).mono ?_; rintro e w4 ⟨rfl, rfl⟩)
              go_roundw
              case rel => exact ⟨k2, _, hk2s, by simp; omega, rfl, HS.out, hO3.out, hB3.out⟩
              case measure => simp [intOf]; omega
          · have hc0 := cut_digit hlt hl hd
            have hLi := fun w => rlit_any s k w hs2 hk
            have hNE := own_ne hr.out.2.1 (Nat.le_refl _)
            have HNE : Hid _ := hNE
            clear hNE
            rcases hlr : litL true (s.data.toList.drop k) with p | ⟨kd, e⟩
            · rw [hlr] at hc0 hLi
              have hE : Hid (scanS true s.data.toList = .error (k + p)) := at_err hr.out.1 (by rw [HL.out]; exact hlt) hc0
              have hT := of_err (l := s.data.toList) (by rw [HL.out]; omega) hE.out
              obtain ⟨i, hiv⟩ : ∃ i : Int, ((k + p : Nat) : Int) = i := ⟨_, rfl⟩
              have hLi' : ∀ w, Calls Try.prog 26 #[.string s, .int .i64 (k : Int)] w fun e w' => e = .returned (.tuple #[.agg #[.int .u8 0, .int .i64 0, .int .i64 0], .int .i64 i, .bool false]) ∧ Below w.heap.size w w' := by rw [← hiv]; exact hLi
              rw [hiv] at hT
              have HT : Hid _ := hT
              clear hc0 hE hT hlr hLi hiv d0 d1 f0 f1
              go_wp2_with (first | (go_at_call 23; refine (letter_any _ _).mono ?_; rintro e w' ⟨rfl, rfl⟩) | (go_at_call 25; refine (digit_any _ _).mono ?_; rintro e w' ⟨rfl, rfl⟩) | (go_at_call 26; refine (hLi' _).mono ?_; rintro e w2 ⟨rfl, hb2⟩; obtain ⟨hB2, t0, t1, t2, t3, t4, t5, hz3⟩ := lit_world hr.out.2.2 hb2; obtain ⟨d0, d1, f0, f1, hzz2⟩ := w1_res hB2))
              refine ret_fault (b := w.heap.size) (v := .slice none 0 0) (x := .int .i64 120) (y := .int .i64 i) ?h0 ?h1 ?hr ⟨.slice none 0 0, ?_, ?_, ?_⟩
              case h0 => first | exact (res_alloc (by omega) d0 d1 _).1 | exact (res_set d0 d1).1
              case h1 => first | exact (res_alloc (by omega) d0 d1 _).2 | exact (res_set d0 d1).2
              case hr => intro Wf h0 h1; simp [results, Try.results11, go_sem, h0, h1]
              · first | (rw [HT.out.2.1, HT.out.2.2]; done) | (rw [HT.out.2.1, HT.out.2.2]; rfl)
              · rw [HT.out.1]; exact World.ownsRow_nil _ _ _ _
              · exact ((((w1_below w).trans (hB2.mono (by omega))).setCell (Nat.le_refl _) _).setCell (Nat.le_refl _) _).alloc (by first | omega | (simp <;> omega)) _
            · rw [hlr] at hc0 hLi
              obtain ⟨j, hj⟩ : ∃ j, k + e = j := ⟨_, rfl⟩
              have hLi' : ∀ w, Calls Try.prog 26 #[.string s, .int .i64 (k : Int)] w fun e w' => e = .returned (.tuple #[.agg #[.int .u8 (kd : Int), .int .i64 (k : Int), .int .i64 (j : Int)], .int .i64 0, .bool true]) ∧ Below w.heap.size w w' := by rw [← hj]; exact hLi
              have hS := at_step hr.out.1 (by rw [HL.out]; exact hlt) hc0
              rw [HL.out] at hS
              have hg2 := fun w => skip_any s ((k + e : Nat) : Int) (k + e) rfl w hs2 hS.2.2.1
              obtain ⟨k2, hk2⟩ : ∃ k2, k + e + skipL false (s.data.toList.drop (k + e)) = k2 := ⟨_, rfl⟩
              rw [hk2] at hS hg2
              rw [hj] at hS hg2
              have hkj : k < j := by omega
              have hjk : j ≤ k2 := by omega
              have hk2s : k2 ≤ s.size := hS.2.2.2
              have HS : Hid (At true s.data.toList (ts ++ [(kd, k, j)]) k2) := hS.1
              clear hc0 hS hlr hLi hk2 hj d0 d1 f0 f1
              go_wp2_with (first | (go_at_call 23; refine (letter_any _ _).mono ?_; rintro e w' ⟨rfl, rfl⟩) | (go_at_call 25; refine (digit_any _ _).mono ?_; rintro e w' ⟨rfl, rfl⟩) | (go_at_call 26; refine (hLi' _).mono ?_; rintro e w2 ⟨rfl, hb2⟩; obtain ⟨hB2, t0, t1, t2, t3, t4, t5, hz3⟩ := lit_world hr.out.2.2 hb2) | (at_builtin; refine wpList_append_own _ rfl _ _ 23 rfl (w.heap.size + 1) 35 i0 (.agg #[.int .u8 0, .int .i64 0, .int .i64 0]) 3 24 Try.underlying23 hi hz0 hz1 hz2 rfl (by decide) _ _ _ rfl (((owns_set (owns_set (owns_set (owns_below (hr.out.2.1.alloc _) hb2) HNE.out _) HNE.out _) HNE.out _).alloc _).alloc _) ⟨w2.heap.size + 1, 0, none⟩ 1 1 [.int .u8 (kd : Int), .int .i64 (k : Int), .int .i64 (j : Int)] rfl rfl ?c1 ?c2 ?c3 ?c4 ?c5 ?_))
              case c1 => exact cells3_new (by simp) _ _ _ _
              case c2 => intro u hu; simp at hu; rcases hu with rfl | rfl | rfl <;> rfl
              case c3 => unfold maxLen; omega
              case c4 => omega
              case c5 => simp; omega
              intro v' w3 hown' hgrow _
              have hG := grown_any (g := wr.heap.size) (c := .int .i64 (j : Int)) ((owns_set (owns_set (owns_set (owns_below (hr.out.2.1.alloc _) hb2) HNE.out _) HNE.out _) HNE.out _).alloc _) ((((hB2.setCell (by first | omega | (simp <;> omega)) _).setCell (by first | omega | (simp <;> omega)) _).setCell (by first | omega | (simp <;> omega)) _).alloc (by first | omega | (simp <;> omega)) _) (by first | omega | (simp <;> omega)) (end_lit hz3 t2 _ _) (own_ne hr.out.2.1 (Nat.le_refl _)) hgrow
              have hcj := hG.1
              have hB3 : Hid (Below (w.heap.size + 1) (W1 w) w3) := hG.2
              have hO3 : Hid (w3.ownsRow (w.heap.size + 1) 35 3 v' (ts ++ [(kd, k, j)]).length (tokCells (ts ++ [(kd, k, j)]))) := by
                rw [tokCells_snoc, List.length_append]; exact hown'
              clear hG hown' hgrow hr hb2 hB2
              go_wp2_with (go_at_call 22; refine (hg2 _).mono ?_; rintro e w4 ⟨rfl, rfl⟩)
              go_roundw
              case rel => exact ⟨k2, _, hk2s, by simp; omega, rfl, HS.out, hO3.out, hB3.out⟩
              case measure => simp [intOf]; omega
        · have hc0 := cut_letter hlt hl
          obtain ⟨e, hn⟩ : ∃ n, rowL ldB (s.data.toList.drop k) = n := ⟨_, rfl⟩
          have hns := row_le_size ldB s k hk
          obtain ⟨j, hj⟩ : ∃ j, k + rowL ldB (s.data.toList.drop k) = j := ⟨_, rfl⟩
          have hR := rrow_in s k j true hs2 hk hj
          unfold nameL at hc0
          rw [hn] at hc0 hns hj
          by_cases h32 : 32 < e
          · rw [if_pos h32] at hc0
            have hE : Hid (scanS true s.data.toList = .error (k + 0)) := at_err hr.out.1 (by rw [HL.out]; exact hlt) hc0
            have hT := of_err (l := s.data.toList) (by rw [HL.out]; omega) hE.out
            have HT : Hid _ := hT
            have h32' : 32 < (j : Int) - k := by omega
            have hjs : j ≤ s.size := by omega
            clear hc0 hE hT hn hns hj h32
            go_wp2_with (first | (go_at_call 23; refine (letter_any _ _).mono ?_; rintro e w' ⟨rfl, rfl⟩) | (go_at_call 24; refine (hR _ ?a1 _ ?b1 _).mono ?_; (case a1 => rfl); (case b1 => rfl); rintro e w' ⟨rfl, rfl⟩))
            refine ret_fault (b := w.heap.size) (v := .slice none 0 0) (x := .int .i64 120) (y := .int .i64 (k : Int)) ?h0 ?h1 ?hr ⟨.slice none 0 0, ?_, ?_, ?_⟩
            case h0 => first | exact (res_alloc (by omega) d0 d1 _).1 | exact (res_set d0 d1).1
            case h1 => first | exact (res_alloc (by omega) d0 d1 _).2 | exact (res_set d0 d1).2
            case hr => intro Wf h0 h1; simp [results, Try.results11, go_sem, h0, h1]
            · first | (rw [HT.out.2.1, HT.out.2.2]; done) | (rw [HT.out.2.1, HT.out.2.2]; rfl)
            · rw [HT.out.1]; exact World.ownsRow_nil _ _ _ _
            · exact ((((w1_below w).trans (hr.out.2.2.mono (by omega))).setCell (Nat.le_refl _) _).setCell (Nat.le_refl _) _).alloc (by first | omega | (simp <;> omega)) _
          · rw [if_neg h32] at hc0
            have hx : (s.extract k j).data.toList = (s.data.toList.drop k).take e := by
              rw [Lib.extract_data]; congr 1; omega
            obtain ⟨b, hbw⟩ : ∃ b, wordB ((s.data.toList.drop k).take e) = b := ⟨_, rfl⟩
            rw [hbw] at hc0
            have hW : Hid (wordB (s.extract k j).data.toList = b) := by rw [hx]; exact hbw
            have h32' : ¬ 32 < (j : Int) - k := by omega
            have hxs : (s.extract k j).size < 4611686018427387904 := by
              rw [Lib.size_eq, hx]; simp; omega
            have hxh : Hid ((s.extract k j).size < 4611686018427387904) := hxs
            clear hx hxs hbw
            have hS := at_step hr.out.1 (by rw [HL.out]; exact hlt) hc0
            rw [HL.out] at hS
            have hg2 := fun w => skip_any s ((k + e : Nat) : Int) (k + e) rfl w hs2 hS.2.2.1
            obtain ⟨k2, hk2⟩ : ∃ k2, k + e + skipL false (s.data.toList.drop (k + e)) = k2 := ⟨_, rfl⟩
            rw [hk2] at hS hg2
            rw [hj] at hS hg2
            have hkj : k < j := by omega
            have hjk : j ≤ k2 := by omega
            have hk2s : k2 ≤ s.size := hS.2.2.2
            cases b
            · have HS : Hid (At true s.data.toList (ts ++ [(2, k, j)]) k2) := hS.1
              clear hc0 hS hn hns h32 hk2
              go_wp2_with (first | (go_at_call 23; refine (letter_any _ _).mono ?_; rintro e w' ⟨rfl, rfl⟩) | (go_at_call 24; refine (hR _ ?a1 _ ?b1 _).mono ?_; (case a1 => rfl); (case b1 => rfl); rintro e w' ⟨rfl, rfl⟩) | (go_at_call 14; refine (rword_any _ _ hxh.out).mono ?_; rintro e w' ⟨rfl, rfl⟩; rw [hW.out]) | (at_builtin; refine wpList_append_own _ rfl _ _ 23 rfl (w.heap.size + 1) 35 i0 (.agg #[.int .u8 0, .int .i64 0, .int .i64 0]) 3 24 Try.underlying23 hi hz0 hz1 hz2 rfl (by decide) _ _ _ rfl ((hr.out.2.1.alloc _).alloc _) ⟨wr.heap.size + 1, 0, none⟩ 1 1 [.int .u8 (2 : Int), .int .i64 (k : Int), .int .i64 (j : Int)] rfl rfl ?c1 ?c2 ?c3 ?c4 ?c5 ?_))
              case c1 => exact cells3_new (by simp) _ _ _ _
              case c2 => intro u hu; simp at hu; rcases hu with rfl | rfl | rfl <;> rfl
              case c3 => unfold maxLen; omega
              case c4 => omega
              case c5 => simp; omega
              intro v' w3 hown' hgrow _
              have hG := grown_any (g := wr.heap.size) (c := .int .i64 (j : Int)) (hr.out.2.1.alloc _) (hr.out.2.2.alloc (by omega) _) (by first | omega | (simp <;> omega)) (by simp [go_sem]) (own_ne hr.out.2.1 (Nat.le_refl _)) hgrow
              have hcj := hG.1
              have hB3 : Hid (Below (w.heap.size + 1) (W1 w) w3) := hG.2
              have hO3 : Hid (w3.ownsRow (w.heap.size + 1) 35 3 v' (ts ++ [(2, k, j)]).length (tokCells (ts ++ [(2, k, j)]))) := by
                rw [tokCells_snoc, List.length_append]; exact hown'
              clear hG hown' hgrow hr
              go_wp2_with (go_at_call 22; refine (hg2 _).mono ?_; rintro e w4 ⟨rfl, rfl⟩)
              go_roundw
              case rel => exact ⟨k2, _, hk2s, by simp; omega, rfl, HS.out, hO3.out, hB3.out⟩
              case measure => simp [intOf]; omega
            · have HS : Hid (At true s.data.toList (ts ++ [(3, k, j)]) k2) := hS.1
              clear hc0 hS hn hns h32 hk2
              go_wp2_with (first | (go_at_call 23; refine (letter_any _ _).mono ?_; rintro e w' ⟨rfl, rfl⟩) | (go_at_call 24; refine (hR _ ?a1 _ ?b1 _).mono ?_; (case a1 => rfl); (case b1 => rfl); rintro e w' ⟨rfl, rfl⟩) | (go_at_call 14; refine (rword_any _ _ hxh.out).mono ?_; rintro e w' ⟨rfl, rfl⟩; rw [hW.out]) | (at_builtin; refine wpList_append_own _ rfl _ _ 23 rfl (w.heap.size + 1) 35 i0 (.agg #[.int .u8 0, .int .i64 0, .int .i64 0]) 3 24 Try.underlying23 hi hz0 hz1 hz2 rfl (by decide) _ _ _ rfl ((hr.out.2.1.alloc _).alloc _) ⟨wr.heap.size + 1, 0, none⟩ 1 1 [.int .u8 (3 : Int), .int .i64 (k : Int), .int .i64 (j : Int)] rfl rfl ?c1 ?c2 ?c3 ?c4 ?c5 ?_))
              case c1 => exact cells3_new (by simp) _ _ _ _
              case c2 => intro u hu; simp at hu; rcases hu with rfl | rfl | rfl <;> rfl
              case c3 => unfold maxLen; omega
              case c4 => omega
              case c5 => simp; omega
              intro v' w3 hown' hgrow _
              have hG := grown_any (g := wr.heap.size) (c := .int .i64 (j : Int)) (hr.out.2.1.alloc _) (hr.out.2.2.alloc (by omega) _) (by first | omega | (simp <;> omega)) (by simp [go_sem]) (own_ne hr.out.2.1 (Nat.le_refl _)) hgrow
              have hcj := hG.1
              have hB3 : Hid (Below (w.heap.size + 1) (W1 w) w3) := hG.2
              have hO3 : Hid (w3.ownsRow (w.heap.size + 1) 35 3 v' (ts ++ [(3, k, j)]).length (tokCells (ts ++ [(3, k, j)]))) := by
                rw [tokCells_snoc, List.length_append]; exact hown'
              clear hG hown' hgrow hr
              go_wp2_with (go_at_call 22; refine (hg2 _).mono ?_; rintro e w4 ⟨rfl, rfl⟩)
              go_roundw
              case rel => exact ⟨k2, _, hk2s, by simp; omega, rfl, HS.out, hO3.out, hB3.out⟩
              case measure => simp [intOf]; omega
      · have hke : k = s.size := by omega
        subst hke
        have hE : Hid (scanS true s.data.toList = .ok (ts ++ [(1, s.size, s.size)])) := at_end hr.out.1 (by rw [HL.out]; exact Nat.le_refl _)
        have hT := of_ok (l := s.data.toList) (by rw [HL.out]; omega) hE.out
        have HT : Hid _ := hT
        have hBw : Hid (w.heap.size + 1 ≤ wr.heap.size) := hzz
        clear hE hT d0 d1 f0 f1
        go_wp2_with (at_builtin; refine wpList_append_own _ rfl _ _ 23 rfl (w.heap.size + 1) 35 i0 (.agg #[.int .u8 0, .int .i64 0, .int .i64 0]) 3 24 Try.underlying23 hi hz0 hz1 hz2 rfl (by decide) _ _ _ rfl (hr.out.2.1.alloc _) ⟨wr.heap.size, 0, none⟩ 1 1 [.int .u8 1, .int .i64 (s.size : Int), .int .i64 (s.size : Int)] rfl rfl ?e1 ?e2 ?e3 ?e4 ?e5 ?_)
        case e1 => exact cells3_new rfl _ _ _ _
        case e2 => intro u hu; simp at hu; rcases hu with rfl | rfl | rfl <;> rfl
        case e3 => unfold maxLen; omega
        case e4 => omega
        case e5 => have := hBw.out; simp; omega
        intro v' w3 hown' hgrow _
        have hB3 : Hid (Below (w.heap.size + 1) (W1 w) w3) := (hr.out.2.2.alloc hBw.out _).grown hgrow (by have := hBw.out; simp; omega) (fun q hq => (own_lt hr.out.2.1 q hq).1)
        have hO3 : Hid (w3.ownsRow (w.heap.size + 1) 35 3 v' (ts ++ [(1, s.size, s.size)]).length (tokCells (ts ++ [(1, s.size, s.size)]))) := by
          rw [tokCells_snoc, List.length_append]; exact hown'
        obtain ⟨d0, d1, f0, f1, hzz2⟩ := w1_res hB3.out
        clear hown' hgrow hr
        go_wp2
        refine ret_fault (b := w.heap.size) (v := v') (x := .int .i64 0) (y := .int .i64 0) (res_set d0 d1).1 (res_set d0 d1).2 ?hr ⟨v', ?_, ?_, ?_⟩
        case hr => intro Wf h0 h1; simp [results, Try.results11, go_sem, h0, h1]
        · rw [HT.out.2.1, HT.out.2.2]
        · rw [HT.out.1]
          exact owns_mono (ownsRow_setCell_below (ownsRow_setCell_below hO3.out (by simp) _) (by simp) _) (by omega)
        · exact (((w1_below w).trans (hB3.out.mono (by omega))).setCell (Nat.le_refl _) _).setCell (Nat.le_refl _) _
end Go.Proofs.Ytcinlpiidgbnaaa
