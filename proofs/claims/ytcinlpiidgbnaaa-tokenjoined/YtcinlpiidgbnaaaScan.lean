/- The program's Scan: it tells the tokens and the fault of the plain scan; they lie in new memory. -/
import Derived.Test.YtcinlpiidgbnaaaCutOff
import Derived.Test.YtcinlpiidgbnaaaScanPlain
namespace Go.Proofs.Ytcinlpiidgbnaaa
open Go.RowKit

theorem info35 : (Try.prog.info? 35).map (fun i => (i.zero, i.size, i.bytes)) = some (some (.agg #[.int .u8 0, .int .i64 0, .int .i64 0]), 3, 24) := by kernel_rfl
/-- What a scan hands back, in world w' behind world w. -/
def Told (l : List UInt8) (w : World) (e : Ending) (w' : World) : Prop :=
  ∃ v, e = .returned (.tuple #[v, .agg #[.int .i64 (errOf l), .int .i64 (atOf l)]]) ∧ w'.ownsRow w.heap.size 35 3 v (toksOf l).length (tokCells (toksOf l)) ∧ Below w.heap.size w w'

theorem past2 {w : World} {b : Nat} (hb : b < w.heap.size) (o1 o2 : Obj) (j : Nat) : ((w.alloc o1).alloc o2).cell? ⟨b, j, none⟩ = w.cell? ⟨b, j, none⟩ ∧ ((w.alloc o1).alloc o2).frozen? ⟨b, j, none⟩ = w.frozen? ⟨b, j, none⟩ :=
  have h := ((Below.refl w.heap.size w).alloc (Nat.le_refl _) o1).alloc (by simp) o2
  ⟨h.cell (p := ⟨b, j, none⟩) hb, h.frozen (p := ⟨b, j, none⟩) hb⟩
theorem owns_below {w w2 : World} {base : Nat} {e : TypeId} {sz : Nat} {v : Value} {n : Nat} {xs : List Value} (h : w.ownsRow base e sz v n xs) (hb : Below w.heap.size w w2) : w2.ownsRow base e sz v n xs := by
  refine ⟨h.1, ?_⟩
  rcases h.2 with h0 | ⟨g, cap, cur, hv, h1, hh, h2⟩
  · exact .inl h0
  · refine .inr ⟨g, cap, cur, hv, h1, ?_, h2⟩
    have hlt : g < w.heap.size := by
      rcases Nat.lt_or_ge g w.heap.size with h | h
      · exact h
      · rw [Array.getElem?_eq_none h] at hh; cases hh
    rw [hb.block g hlt]; exact hh
theorem own_lt {w : World} {base : Nat} {e : TypeId} {sz : Nat} {v : Value} {n : Nat} {xs : List Value} (h : w.ownsRow base e sz v n xs) : ∀ q, v.ownBlock = some q → base ≤ q ∧ q < w.heap.size := h.lt
/-- Behind the append of one token: what the token's own variable holds; all that is old is as it was. -/
theorem grown_tok {B : Nat} {W wr w2 w3 : World} {v : Value} {n : Nat} {xs : List Value} {a b c : Value} {o1 o2 : Obj} (hown : wr.ownsRow B 35 3 v n xs) (hB : Below B W wr) (hb : Below wr.heap.size wr w2) (hBw : B ≤ wr.heap.size)
    (hg : (((w2.alloc (.cells #[a, b, c] 35)).alloc o1).alloc o2).grownBy w3 v.ownBlock) : w3.cell? ⟨w2.heap.size, 2, none⟩ = some c ∧ Below B W w3 := by
  have hz := hb.size
  have hlt := own_lt hown
  have hsz : (((w2.alloc (.cells #[a, b, c] 35)).alloc o1).alloc o2).heap.size = w2.heap.size + 3 := by simp
  have hne : some w2.heap.size ≠ v.ownBlock := by
    intro he
    have := hlt _ he.symm
    omega
  have e : (((w2.alloc (.cells #[a, b, c] 35)).alloc o1).alloc o2).heap[w2.heap.size]? = some (.cells #[a, b, c] 35) := by
    rw [Below.heap_alloc _ _ _ (by simp <;> omega), Below.heap_alloc _ _ _ (by simp)]
    exact heap_alloc_new w2 _
  have e2 := (hg.block w2.heap.size (by omega) hne).trans e
  refine ⟨by simp only [World.cell?, e2]; rfl, ?_⟩
  have h1 : Below B W w2 := hB.trans (hb.mono hBw)
  have h2 := ((h1.alloc (by omega) (.cells #[a, b, c] 35)).alloc (by simp <;> omega) o1).alloc (by simp <;> omega) o2
  exact h2.grown hg (by omega) (fun q hq => (hlt q hq).1)
theorem cells3_new {W : World} {g : Nat} (hg : g = W.heap.size) (a b c : Value) (t : TypeId) : ∀ j u, [a, b, c][j]? = some u → (W.alloc (.cells #[a, b, c] t)).cell? ((⟨g, 0, none⟩ : Addr).add j) = some u := by
  intro j u h
  subst hg
  have hh := heap_alloc_new W (.cells #[a, b, c] t)
  match j, h with
  | 0, h =>
    rw [show ((⟨W.heap.size, 0, none⟩ : Addr).add 0) = ⟨W.heap.size, 0, none⟩ from rfl]
    simp only [World.cell?, hh]; exact h
  | 1, h =>
    rw [show ((⟨W.heap.size, 0, none⟩ : Addr).add 1) = ⟨W.heap.size, 1, none⟩ from rfl]
    simp only [World.cell?, hh]; exact h
  | 2, h =>
    rw [show ((⟨W.heap.size, 0, none⟩ : Addr).add 2) = ⟨W.heap.size, 2, none⟩ from rfl]
    simp only [World.cell?, hh]; exact h
theorem owns_mono {w : World} {base base' : Nat} {e : TypeId} {sz : Nat} {v : Value} {n : Nat} {xs : List Value} (h : w.ownsRow base e sz v n xs) (hb : base' ≤ base) : w.ownsRow base' e sz v n xs := by
  refine ⟨h.1, ?_⟩
  rcases h.2 with h0 | ⟨g, cap, cur, hv, h1, h2⟩
  · exact .inl h0
  · exact .inr ⟨g, cap, cur, hv, by omega, h2⟩
/-- The world in which the loop begins: the result's cell, and the cutters. -/
def W0 (w : World) (s : ByteArray) : World := (w.alloc (.cells #[.int .i64 0, .int .i64 0] 26)).alloc (.cells #[.int .u8 2, .func (.func 16) #[.string s] #[], .int .u8 3, .func (.func 17) #[.string s] #[], .int .u8 4, .func (.func 18) #[.string s] #[]] 42)
theorem w0_size (w : World) (s : ByteArray) : (W0 w s).heap.size = w.heap.size + 2 := by simp [W0]
theorem w0_below (w : World) (s : ByteArray) : Below w.heap.size w (W0 w s) := ((Below.refl _ _).alloc (Nat.le_refl _) _).alloc (by simp) _
theorem w0_cutters {w wr : World} {s : ByteArray} (h : Below (w.heap.size + 2) (W0 w s) wr) : Cutters s (w.heap.size + 1) wr := by
  have hz := h.size
  rw [w0_size] at hz
  have e : (W0 w s).heap[w.heap.size + 1]? = some (.cells #[.int .u8 2, .func (.func 16) #[.string s] #[], .int .u8 3, .func (.func 17) #[.string s] #[], .int .u8 4, .func (.func 18) #[.string s] #[]] 42) := by
    have := heap_alloc_new (w.alloc (.cells #[.int .i64 0, .int .i64 0] 26)) (.cells #[.int .u8 2, .func (.func 16) #[.string s] #[], .int .u8 3, .func (.func 17) #[.string s] #[], .int .u8 4, .func (.func 18) #[.string s] #[]] 42)
    rw [show (w.alloc (.cells #[.int .i64 0, .int .i64 0] 26)).heap.size = w.heap.size + 1 by simp] at this
    exact this
  have e2 := (h.block (w.heap.size + 1) (by omega)).trans e
  refine ⟨?_, ?_, ?_, ?_, ?_, ?_, by omega⟩ <;> simp only [World.cell?, e2] <;> rfl
theorem w0_res {w wr w2 : World} {s : ByteArray} (h : Below (w.heap.size + 2) (W0 w s) wr) (h2 : Below wr.heap.size wr w2) :
    w2.cell? ⟨w.heap.size, 0, none⟩ = some (.int .i64 0) ∧ w2.cell? ⟨w.heap.size, 1, none⟩ = some (.int .i64 0) ∧ w2.frozen? ⟨w.heap.size, 0, none⟩ = false ∧ w2.frozen? ⟨w.heap.size, 1, none⟩ = false ∧ w.heap.size + 1 < w2.heap.size := by
  have hz := h.size
  rw [w0_size] at hz
  have hz2 := h2.size
  have e : (W0 w s).heap[w.heap.size]? = some (.cells #[.int .i64 0, .int .i64 0] 26) := by
    unfold W0
    rw [Below.heap_alloc _ _ _ (by simp)]
    exact heap_alloc_new w _
  have e2 := ((h2.block w.heap.size (by omega)).trans (h.block w.heap.size (by omega))).trans e
  refine ⟨?_, ?_, ?_, ?_, by omega⟩
  · simp only [World.cell?, e2]; rfl
  · simp only [World.cell?, e2]; rfl
  · simp only [World.frozen?, e2]; rfl
  · simp only [World.frozen?, e2]; rfl

set_option maxHeartbeats 1000000 in
theorem scan_any (s : ByteArray) (w : World) (hmax : s.size ≤ maxLen) : Calls Try.prog 10 #[.string s] w (Told s.data.toList w) := by
  unfold maxLen at hmax
  have hlen : s.data.toList.length = s.size := by simp
  by_cases hs : 65536 < s.size
  · have hT := of_long (l := s.data.toList) (by omega)
    have hs' : (65536 : Int) < s.size := by omega
    clear hlen hmax
    go_enter Try.func10, Try.ntmps10
    go_wp2
    refine bodyPost_ret (v := .tuple #[.slice none 0 0, .agg #[.int .i64 3, .int .i64 0]]) (by simp [results, Try.results10, go_sem]) rfl ⟨.slice none 0 0, ?_, ?_, ?_⟩
    · rw [hT.2.1, hT.2.2]
    · rw [hT.1]; exact World.ownsRow_nil _ _ _ _
    · exact (Below.refl _ _).alloc (Nat.le_refl _) _
  · have hs2 : s.size ≤ 65536 := by omega
    have hmf : ∀ (fn : Fn) (first cap : Array Value) (w : World), (Instr.makeFunc fn first cap).run Try.prog w = .ok (.func fn first cap) w := fun _ _ _ _ => rfl
    have hs' : (s.size : Int) ≤ 65536 := by omega
    have hg := gap_any s 0
    have hA : Hid (At false s.data.toList [] (skipL false s.data.toList)) := at_start _ _
    rw [List.drop_zero, Nat.zero_add] at hg
    have hk1s := skipL_le s.data.toList false
    rw [hlen] at hk1s
    obtain ⟨k1, hk1⟩ : ∃ k1, skipL false s.data.toList = k1 := ⟨_, rfl⟩
    rw [hk1] at hg hA hk1s
    have HL : Hid (s.data.toList.length = s.size) := hlen
    clear hk1 hs hmax hlen
    obtain ⟨i0, hi, hz0, hz1, hz2⟩ := info_parts info35
    go_enter Try.func10, Try.ntmps10
    go_wp2_with (go_at_call 19; refine (hg _ hs2 (by omega)).mono ?_; rintro e w1 ⟨rfl, hb⟩)
    have hB : Hid (Below (w.heap.size + 2) (W0 w s) w1) := hb.mono (by simp)
    clear hb hg
    go_loopw [6, 7] (fun v i wr => ∃ (k : Nat) (ts : List Tok), k ≤ s.size ∧ ts.length ≤ k ∧ i = .int .i64 k ∧ Hid (At false s.data.toList ts k ∧ wr.ownsRow (w.heap.size + 2) 35 3 v ts.length (tokCells ts) ∧ Below (w.heap.size + 2) (W0 w s) wr)) (fun _ i _ => s.size - (intOf i).toNat)
    case atStart => exact ⟨k1, [], hk1s, Nat.zero_le _, rfl, hA.out, World.ownsRow_nil _ _ _ _, hB.out⟩
    case round =>
      clear hA hB hk1s hmf
      obtain ⟨k, ts, hk, htk, rfl, hr⟩ := hrel
      by_cases hlt : k < s.size
      · have hlt' : (k : Int) < s.size := by omega
        have hC := w0_cutters hr.out.2.2
        have hO := cutOff_any s k (w.heap.size + 1) wr hs2 hlt hC
        clear hC
        rcases hc : cutL false (s.data.toList.drop k) with p | ⟨kd, e⟩
        · have hE : Hid (scanS true s.data.toList = .error (k + p)) := by rw [scanS_pt]; exact at_err hr.out.1 (by rw [HL.out]; exact hlt) hc
          rw [hc] at hO
          obtain ⟨i, hiv⟩ : ∃ i : Int, ((k + p : Nat) : Int) = i := ⟨_, rfl⟩
          have hO' : Calls Try.prog 20 #[.slice (some ⟨w.heap.size + 1, 0, none⟩) 3 3, .int .u8 (sortN s[k] : Int), .int .i64 (k : Int)] wr fun e w' => e = .returned (.tuple #[.agg #[.int .u8 0, .int .i64 0, .int .i64 0], .agg #[.int .i64 120, .int .i64 i]]) ∧ Below wr.heap.size wr w' := by rw [← hiv]; exact hO
          have hT := of_err (l := s.data.toList) (by rw [HL.out]; omega) hE.out
          rw [hiv] at hT
          have HT : Hid _ := hT
          clear hO hc hT hE hiv
          go_wp2_with (first | (go_at_call 21; refine (sort_any _ _).mono ?_; rintro e w' ⟨rfl, rfl⟩) | (go_at_call 20; refine hO'.mono ?_; rintro e w2 ⟨rfl, hb2⟩; obtain ⟨d0, d1, f0, f1, hzz⟩ := w0_res hr.out.2.2 hb2))
          have q0 := (past2 (show w.heap.size < w2.heap.size by omega) (.cells #[.int .u8 0, .int .i64 0, .int .i64 0] 35) (.cells #[.int .i64 120, .int .i64 i] 26) 0).1.trans d0
          have q1 := (past2 (show w.heap.size < w2.heap.size by omega) (.cells #[.int .u8 0, .int .i64 0, .int .i64 0] 35) (.cells #[.int .i64 120, .int .i64 i] 26) 1).1.trans d1
          have q2 := (past2 (show w.heap.size < w2.heap.size by omega) (.cells #[.int .u8 0, .int .i64 0, .int .i64 0] 35) (.cells #[.int .i64 120, .int .i64 i] 26) 0).2.trans f0
          have q3 := (past2 (show w.heap.size < w2.heap.size by omega) (.cells #[.int .u8 0, .int .i64 0, .int .i64 0] 35) (.cells #[.int .i64 120, .int .i64 i] 26) 1).2.trans f1
          go_region
          all_goals (try go_wp2)
          refine bodyPost_ret (v := .tuple #[.slice none 0 0, .agg #[.int .i64 120, .int .i64 i]]) (by simp [results, Try.results10, go_sem, q0, q1]) rfl ⟨.slice none 0 0, ?_, ?_, ?_⟩
          · rw [HT.out.2.1, HT.out.2.2]
          · rw [HT.out.1]; exact World.ownsRow_nil _ _ _ _
          · have b1 := (w0_below w s).trans ((hr.out.2.2.mono (by omega)).trans (hb2.mono (by have := hr.out.2.2.size; rw [w0_size] at this; omega)))
            exact (((((b1.alloc (by omega) _).alloc (by simp <;> omega) _).setCell (Nat.le_refl _) _).setCell (Nat.le_refl _) _)).drew
        · have hS := at_step hr.out.1 (by rw [HL.out]; exact hlt) hc
          rw [HL.out] at hS
          rw [hc] at hO
          have hg2 := fun w => gap_any s (k + e) w hs2 hS.2.2.1
          obtain ⟨k2, hk2⟩ : ∃ k2, k + e + skipL false (s.data.toList.drop (k + e)) = k2 := ⟨_, rfl⟩
          rw [hk2] at hS hg2
          obtain ⟨j, hj⟩ : ∃ j, k + e = j := ⟨_, rfl⟩
          rw [hj] at hS hg2
          have hO' : Calls Try.prog 20 #[.slice (some ⟨w.heap.size + 1, 0, none⟩) 3 3, .int .u8 (sortN s[k] : Int), .int .i64 (k : Int)] wr fun e w' => e = .returned (.tuple #[.agg #[.int .u8 (kd : Int), .int .i64 (k : Int), .int .i64 (j : Int)], .agg #[.int .i64 0, .int .i64 0]]) ∧ Below wr.heap.size wr w' := by rw [← hj]; exact hO
          have hkj : k < j := by omega
          have hjk : j ≤ k2 := by omega
          have hk2s : k2 ≤ s.size := hS.2.2.2
          have HS : Hid (At false s.data.toList (ts ++ [(kd, k, j)]) k2) := hS.1
          have hBw : Hid (w.heap.size + 2 ≤ wr.heap.size) := by have := hr.out.2.2.size; rw [w0_size] at this; exact this
          clear hO hc hS hk2 hj
          go_wp2_with (first | (go_at_call 21; refine (sort_any _ _).mono ?_; rintro e w' ⟨rfl, rfl⟩) | (go_at_call 20; refine hO'.mono ?_; rintro e w2 ⟨rfl, hb2⟩; have hown2 := owns_below hr.out.2.1 hb2) | (at_builtin; refine wpList_append_own _ rfl _ _ 23 rfl (w.heap.size + 2) 35 i0 (.agg #[.int .u8 0, .int .i64 0, .int .i64 0]) 3 24 Try.underlying23 hi hz0 hz1 hz2 rfl (by decide) _ _ _ rfl (((hown2.alloc _).alloc _).alloc _) ⟨w2.heap.size + 1 + 1, 0, none⟩ 1 1 [.int .u8 (kd : Int), .int .i64 (k : Int), .int .i64 (j : Int)] rfl rfl ?c1 ?c2 ?c3 ?c4 ?c5 ?_))
          case c1 => exact cells3_new (by simp) _ _ _ _
          case c2 => intro u hu; simp at hu; rcases hu with rfl | rfl | rfl <;> rfl
          case c3 => unfold maxLen; omega
          case c4 => omega
          case c5 => have := hb2.size; have := hBw.out; simp; omega
          intro v' w3 hown' hgrow _
          have hG := grown_tok hr.out.2.1 hr.out.2.2 hb2 hBw.out hgrow
          have hcj := hG.1
          have hB3 : Hid (Below (w.heap.size + 2) (W0 w s) w3) := hG.2
          have hO3 : Hid (w3.ownsRow (w.heap.size + 2) 35 3 v' (ts ++ [(kd, k, j)]).length (tokCells (ts ++ [(kd, k, j)]))) := by
            rw [tokCells_snoc, List.length_append]; exact hown'
          clear hG hown' hgrow hown2 hr hb2
          go_wp2_with (go_at_call 19; refine (hg2 _).mono ?_; rintro e w4 ⟨rfl, hb4⟩)
          go_roundw
          case rel =>
            refine ⟨k2, _, hk2s, ?_, rfl, HS.out, owns_below hO3.out hb4, hB3.out.trans (hb4.mono ?_)⟩
            · simp; omega
            · have := hB3.out.size; rw [w0_size] at this; exact this
          case measure => simp [intOf]; omega
      · have hke : k = s.size := by omega
        subst hke
        have hE : Hid (scanS true s.data.toList = .ok (ts ++ [(1, s.size, s.size)])) := by rw [scanS_pt]; exact at_end hr.out.1 (by rw [HL.out]; exact Nat.le_refl _)
        have hT := of_ok (l := s.data.toList) (by rw [HL.out]; omega) hE.out
        have HT : Hid _ := hT
        have hBw : Hid (w.heap.size + 2 ≤ wr.heap.size) := by have := hr.out.2.2.size; rw [w0_size] at this; exact this
        clear hE hT
        go_wp2_with (at_builtin; refine wpList_append_own _ rfl _ _ 23 rfl (w.heap.size + 2) 35 i0 (.agg #[.int .u8 0, .int .i64 0, .int .i64 0]) 3 24 Try.underlying23 hi hz0 hz1 hz2 rfl (by decide) _ _ _ rfl ((hr.out.2.1.alloc _).alloc _) ⟨wr.heap.size + 1, 0, none⟩ 1 1 [.int .u8 1, .int .i64 (s.size : Int), .int .i64 (s.size : Int)] rfl rfl ?e1 ?e2 ?e3 ?e4 ?e5 ?_)
        case e1 => exact cells3_new (by simp) _ _ _ _
        case e2 => intro u hu; simp at hu; rcases hu with rfl | rfl | rfl <;> rfl
        case e3 => unfold maxLen; omega
        case e4 => omega
        case e5 => have := hBw.out; simp; omega
        intro v' w3 hown' hgrow _
        have hB3 : Hid (Below (w.heap.size + 2) (W0 w s) w3) := ((hr.out.2.2.alloc hBw.out _).alloc (by have := hBw.out; simp; omega) _).grown hgrow (by have := hBw.out; simp; omega) (fun q hq => (own_lt hr.out.2.1 q hq).1)
        have hO3 : Hid (w3.ownsRow (w.heap.size + 2) 35 3 v' (ts ++ [(1, s.size, s.size)]).length (tokCells (ts ++ [(1, s.size, s.size)]))) := by
          rw [tokCells_snoc, List.length_append]; exact hown'
        obtain ⟨d0, d1, f0, f1, hzz⟩ := w0_res hB3.out (Below.refl _ _)
        clear hown' hgrow hr
        go_wp2
        refine bodyPost_ret (v := .tuple #[v', .agg #[.int .i64 0, .int .i64 0]]) (by simp [results, Try.results10, go_sem, d0, d1]) rfl ⟨v', ?_, ?_, ?_⟩
        · rw [HT.out.2.1, HT.out.2.2]
        · rw [HT.out.1]
          exact owns_mono (ownsRow_setCell_below (ownsRow_setCell_below hO3.out (by simp) _) (by simp) _) (by omega)
        · exact (((w0_below w s).trans (hB3.out.mono (by omega))).setCell (Nat.le_refl _) _).setCell (Nat.le_refl _) _
end Go.Proofs.Ytcinlpiidgbnaaa
