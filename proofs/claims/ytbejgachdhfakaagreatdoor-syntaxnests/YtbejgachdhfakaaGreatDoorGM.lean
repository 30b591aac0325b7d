/- What a scan hands on: its tokens as the parser asks for them. -/
import Derived.Test.YtbejgachdhfakaaGreatDoorFn4
import Derived.Test.YtbejgachdhfakaaGreatDoorGA
import Derived.Laws.OwnMore
import Derived.Test.YtbejgachdhfakaaGreatDoorCatch
import Derived.Test.YtbejgachdhfakaaGreatDoorGL
namespace Go.Proofs.YtbejgachdhfakaaGreatDoor
open Go.RowKit

theorem cutL_kd {pt : Bool} {l : List UInt8} {kd n : Nat} (h : cutL pt l = .ok (kd, n)) : kd ≠ 1 := by
  cases l with
  | nil => cases h
  | cons c t =>
    simp only [cutL] at h
    split at h
    · unfold nameL at h
      split at h
      · cases h
      · simp only [Except.ok.injEq, Prod.mk.injEq] at h
        rw [← h.1]
        split <;> decide
    · split at h
      · unfold litL fltL frcL intL powL finL at h
        repeat' (split at h)
        all_goals first
          | (cases h; done)
          | (simp only [Except.ok.injEq, Prod.mk.injEq] at h; rw [← h.1]; decide)
      · split at h
        · simp only [Except.ok.injEq, Prod.mk.injEq] at h
          rw [← h.1]
          decide
        · cases h
/-- Behind all tokens stands the end's; each lies in the source. -/
theorem scanL_good {pt : Bool} : ∀ (f k : Nat) (l : List UInt8) (ts : List Tok), scanL pt f k l = .ok ts → ∃ fr z, ts = fr ++ [(1, z, z)] ∧ z ≤ k + l.length ∧ ∀ t ∈ fr, t.2.1 ≤ t.2.2 ∧ t.2.2 ≤ k + l.length ∧ t.1 ≠ 1
  | 0, _, _, _, h => by cases h
  | f + 1, k, [], ts, h => by
    simp only [scanL, Except.ok.injEq] at h
    subst h
    exact ⟨[], k, by simp, by simp, by simp⟩
  | f + 1, k, c :: t, ts, h => by
    simp only [scanL] at h
    match hr : cutL pt (c :: t) with
    | .error p => rw [hr] at h; cases h
    | .ok (kd, e) =>
      rw [hr] at h
      simp only at h
      have hb := cutL_ok hr
      have hk := cutL_kd hr
      match hq : scanL pt f (k + e + skipL false ((c :: t).drop e)) ((c :: t).drop (e + skipL false ((c :: t).drop e))) with
      | .error p => rw [hq] at h; cases h
      | .ok us =>
        rw [hq] at h
        simp only [glue, Except.ok.injEq] at h
        subst h
        obtain ⟨fr, z, rfl, hz, hf⟩ := scanL_good f _ _ us hq
        have hs := skipL_le ((c :: t).drop e) false
        rw [drop_len] at hz hs
        refine ⟨(kd, k, k + e) :: fr, z, by simp, by omega, ?_⟩
        intro x hx
        rcases List.mem_cons.1 hx with rfl | hx
        · exact ⟨by simp, by simp only; omega, hk⟩
        · have := hf x hx
          rw [drop_len] at this
          exact ⟨this.1, by omega, this.2.2⟩
theorem good_scan {s : ByteArray} {pt : Bool} {ts : List Tok} (h : scanS pt s.data.toList = .ok ts) (hfl : ∀ t ∈ ts, TokOk s t) : Good s ts := by
  obtain ⟨fr, z, rfl, hz, hf⟩ := scanL_good _ _ _ _ h
  have hs := skipL_le s.data.toList false
  have hl : s.data.toList.length = s.size := by simp
  rw [drop_len] at hz
  refine ⟨fr, z, rfl, by omega, fun t ht => ?_⟩
  have := hf t ht
  rw [drop_len] at this
  exact ⟨this.1, by omega, this.2.2, hfl t (by simp [ht])⟩
/-- Tokens in a row are tokens up to the row's end. -/
theorem tokAt_cells {w : World} {g : Nat} : ∀ (ts : List Tok) (o : Nat), (∀ j u, (tokCells ts)[j]? = some u → w.cell? ⟨g, o + j, none⟩ = some u) → TokAt w g (o + 3 * ts.length) ts
  | [], _, _ => trivial
  | t :: ts, o, h => by
    have e : o + 3 * (t :: ts).length - 3 * (ts.length + 1) = o := by simp only [List.length_cons]; omega
    have hc : tokCells (t :: ts) = [.int .u8 (t.1 : Int), .int .i64 (t.2.1 : Int), .int .i64 (t.2.2 : Int)] ++ tokCells ts := by simp [tokCells]
    rw [hc] at h
    refine ⟨by rw [e]; exact h 0 _ rfl, by rw [e]; exact h 1 _ rfl, by rw [e]; exact h 2 _ rfl, ?_⟩
    have := tokAt_cells (w := w) (g := g) ts (o + 3) (fun j u hj => by
      have := h (3 + j) u (by rw [List.getElem?_append_right (by simp)]; simpa using hj)
      rwa [show o + (3 + j) = o + 3 + j by omega] at this)
    rw [show o + 3 * (t :: ts).length = o + 3 + 3 * ts.length by simp only [List.length_cons]; omega]
    exact this
theorem tokAt_row {w : World} {base g : Nat} {v : Value} {ts : List Tok} (h : w.ownsRow base 38 3 v ts.length (tokCells ts)) (hg : v.ownBlock = some g) : TokAt w g (3 * ts.length) ts := by
  have := tokAt_cells (w := w) (g := g) ts 0 (fun j u hj => by
    have := h.cells hg j u hj
    simpa [Addr.add_lit] using this)
  simpa using this
end Go.Proofs.YtbejgachdhfakaaGreatDoor
/- A parser as it begins. -/
namespace Go.Proofs.YtbejgachdhfakaaGreatDoor
open Go.RowKit

abbrev env0 (w : World) (g n cap : Nat) (s : ByteArray) : Env := { p := w.heap.size, base := w.heap.size + 1, tg := g, e := 3 * n, d := cap - n, og := 1, s := s, fv := .slice none 0 0 }
theorem start_par {w : World} {b0 g cap : Nat} {s : ByteArray} {ts : List Tok} (hr : w.ownsRow b0 38 3 (.slice (some ⟨g, 0, none⟩) ts.length cap) ts.length (tokCells ts)) (hg : Good s ts) (hs : s.size ≤ 65536) (hlen : ts.length ≤ 65537) (hops : OpsAt w 1) (h5 : 5 < w.heap.size) (hgl : GlobsAt w) :
    Par (env0 w g ts.length cap s) (w.alloc (.cells #[.string s, .slice (some ⟨g, 0, none⟩) ts.length cap, .int .i64 0, .slice none 0 0, .slice none 0 0] 73)) (.slice none 0 0) [] { toks := ts, opn := 0, nodes := [] } := by
  have h1 : 1 < w.heap.size := by omega
  have hlt : g < w.heap.size := (hr.lt g rfl).2
  have hcap : ts.length ≤ cap ∧ cap ≤ maxLen := by
    rcases hr.2 with ⟨h0, _⟩ | ⟨g', cap', cur, hv, _, _, h2, h3, _⟩
    · cases h0
    · cases hv
      exact ⟨h2, h3⟩
  have hm : maxLen = 9223372036854775807 := by decide
  have B := Box.new w [.string s, .slice (some ⟨g, 0, none⟩) ts.length cap, .int .i64 0, .slice none 0 0, .slice none 0 0] 73
  have hb : Below w.heap.size w (w.alloc (.cells #[.string s, .slice (some ⟨g, 0, none⟩) ts.length cap, .int .i64 0, .slice none 0 0, .slice none 0 0] 73)) := (Below.refl _ _).alloc (Nat.le_refl _) _
  have hx : ∀ q j, q < w.heap.size → (w.alloc (.cells #[.string s, .slice (some ⟨g, 0, none⟩) ts.length cap, .int .i64 0, .slice none 0 0, .slice none 0 0] 73)).cell? ⟨q, j, none⟩ = w.cell? ⟨q, j, none⟩ := fun q j hq => World.cell?_of_block (w := w) (a := ⟨q, j, none⟩) (hb.block q hq)
  have ht := tokAt_row hr rfl
  exact { lt := by simp, pb := by simp, bs := by simp, tl1 := hlt, og1 := h1, ogv := rfl, ehi := Nat.le_refl _
          dhi := by simp only; omega
          c0 := B.cell 0 _ rfl
          c1 := by
            have := B.cell 1 _ rfl
            simp only [Nat.sub_self]
            rw [show ts.length + (cap - ts.length) = cap by omega]
            exact this
          c2 := B.cell 2 _ rfl, c3 := B.cell 3 _ rfl, c4 := B.cell 4 _ rfl
          fz := fun j => B.fz j
          tk := ht.same fun o => hx _ _ hlt
          ops := fun i o hi => by rw [hx _ _ h1, hx _ _ h1, hx _ _ h1, hx _ _ h1]; exact hops i o hi
          good := hg
          nds := ⟨rfl, World.ownsRow_nil _ _ _ _, fun i n kv h => (by simp at h), fun i j a b q _ h => (by simp at h)⟩
          sum := by simp only [List.length_nil]; omega
          opb := by simp, ssz := hs, gl := ⟨h5, hgl.same fun g hg => hx _ _ (by omega)⟩ }
theorem start_fns (w : World) (base : Nat) : FuncsIn w base (.slice none 0 0) [] [] := ⟨rfl, World.ownsRow_nil _ _ _ _, fun i f pv h => (by simp at h)⟩
end Go.Proofs.YtbejgachdhfakaaGreatDoor
/- What a function takes and gives. -/
namespace Go.Proofs.YtbejgachdhfakaaGreatDoor
open Go.RowKit

theorem went_parsMore {s : ByteArray} : ∀ (n : Nat) (ps : List Pr) (st : St) (qs : List Pr) (st' : St), parsMore s n ps st = .ok qs st' → Went 0 st st'
  | 0, _, _, _, _, h => by simp [parsMore] at h
  | n + 1, ps, st, qs, st', h => by
    simp only [parsMore] at h
    split at h
    · rename_i hh
      obtain ⟨a, st1, h1, h2⟩ := bind_ok h
      exact ((went_tl (has_ne hh (by simp))).trans ((went_par h1).trans (went_parsMore n _ _ _ _ h2))).weak (by omega)
    · obtain ⟨a, st1, h1, h2⟩ := bind_ok h
      cases h2
      exact (went_take (by simp) h1).weak (by omega)
theorem went_parsP {s : ByteArray} {n : Nat} {st st' : St} {qs : List Pr} (h : parsP s n st = .ok qs st') : Went 0 st st' := by
  unfold parsP at h
  split at h
  · obtain ⟨a, st1, h1, h2⟩ := bind_ok h
    cases h2
    exact (went_take (by simp) h1).weak (by omega)
  · obtain ⟨a, st1, h1, h2⟩ := bind_ok h
    exact (went_par h1).trans (went_parsMore _ _ _ _ _ h2)
theorem went_fn {F : FW} {s : ByteArray} {n : Nat} {st st' : St} {f : Fd} (h : fnP F s n st = .ok f st') : Went 1 st st' ∧ st.nodes.length < st'.nodes.length := by
  unfold fnP at h
  obtain ⟨a1, st1, h1, h⟩ := bind_ok h
  obtain ⟨a2, st2, h2, h⟩ := bind_ok h
  obtain ⟨a3, st3, h3, h⟩ := bind_ok h
  obtain ⟨a4, st4, h4, h⟩ := bind_ok h
  obtain ⟨a5, st5, h5, h⟩ := bind_ok h
  obtain ⟨a6, st6, h6, h⟩ := bind_ok h
  cases h
  have w1 := went_take (by simp) h1
  have w2 := went_name h2
  have w3 := went_take (by simp) h3
  have w4 := went_parsP h4
  have w5 := went_type h5
  have w6 := (went_stmt F s n).1 _ _ _ h6
  have g6 := (grew_stmt F s n).1 _ _ _ h6
  have w := ((((w1.trans w2).trans w3).trans w4).trans w5)
  refine ⟨(w.trans w6).weak (by omega), ?_⟩
  have := w.pre.length_le
  omega
end Go.Proofs.YtbejgachdhfakaaGreatDoor
/- The parser's face: how it begins. -/
namespace Go.Proofs.YtbejgachdhfakaaGreatDoor
open Go.RowKit

def PostParse (w : World) (r : Res (List Fd)) (e : Ending) (w' : World) : Prop :=
  match r with
  | .ok fs st => ∃ nv fv kvs pvs, e = .returned (.tuple #[.agg #[nv, fv], .agg #[.int .i64 0, .int .i64 0]]) ∧ NodesIn w' w.heap.size nv kvs st.nodes ∧ FuncsIn w' w.heap.size fv pvs fs ∧ Below w.heap.size w w'
  | .err c p => e = .returned (.tuple #[.agg #[.slice none 0 0, .slice none 0 0], .agg #[.int .i64 (c : Int), .int .i64 (p : Int)]]) ∧ Below w.heap.size w w'
  | .out => True
abbrev WP (w : World) : World := (w.alloc (.cells #[.slice none 0 0, .slice none 0 0] 32)).alloc (.cells #[.int .i64 0, .int .i64 0] 26)
theorem wp_below (w : World) : Below w.heap.size w (WP w) := ((Below.refl _ _).alloc (Nat.le_refl _) _).alloc (by simp) _
theorem wp_boxT (w : World) : Box (WP w) w.heap.size [.slice none 0 0, .slice none 0 0] := (Box.new w [.slice none 0 0, .slice none 0 0] 32).below ((Below.refl _ _).alloc (Nat.le_refl _) _)
theorem wp_boxF (w : World) : Box (WP w) (w.heap.size + 1) [.int .i64 0, .int .i64 0] := by
  have := Box.new (w.alloc (.cells #[.slice none 0 0, .slice none 0 0] 32)) [.int .i64 0, .int .i64 0] 26
  rwa [show (w.alloc (.cells #[.slice none 0 0, .slice none 0 0] 32)).heap.size = w.heap.size + 1 by simp] at this
/-- The parser's constants behind a scan. -/
abbrev envP (p g j cap : Nat) (s : ByteArray) (fv : Value) : Env := { p := p, base := p + 1, tg := g, e := 3 * (j + 1), d := cap - (j + 1), og := 1, s := s, fv := fv }
abbrev nilV : Value := .slice none 0 0
abbrev WQ (w w1 : World) : World := (w1.setCell ⟨w.heap.size + 1, 0, none⟩ (.int .i64 0)).setCell ⟨w.heap.size + 1, 1, none⟩ (.int .i64 0)
abbrev WR (w w1 : World) (s : ByteArray) (g j cap : Nat) : World := (WQ w w1).alloc (.cells #[.string s, .slice (some ⟨g, 0, none⟩) (j + 1) cap, .int .i64 0, .slice none 0 0, .slice none 0 0] 73)
theorem Below.far {w w2 w3 : World} {p : Nat} {v fv : Value} (h : Below w.heap.size w w2) (hm : MovedF p w2 nilV nilV w3 v fv) (hp : w.heap.size ≤ p) : Below w.heap.size w w3 :=
  ⟨hm.os.trans h.os, hm.tape.trans h.tape, hm.output.trans h.output, Nat.le_trans h.size hm.size, fun k hk => (hm.block k (Nat.lt_of_lt_of_le hk h.size) (by omega) (by simp [Value.ownBlock]) (by simp [Value.ownBlock])).trans (h.block k hk)⟩
theorem Box.far {w2 w3 : World} {p b : Nat} {v fv : Value} {cs : List Value} (h : Box w2 b cs) (hm : MovedF p w2 nilV nilV w3 v fv) (hp : b ≠ p) : Box w3 b cs := h.same (hm.block b h.lt hp (by simp [Value.ownBlock]) (by simp [Value.ownBlock]))
theorem Below.toF {p : Nat} {w w' : World} (h : Below w.heap.size w w') (v fv : Value) : MovedF p w v fv w' v fv := ⟨h.os, h.tape, h.output, h.size, fun k hk _ _ _ => h.block k hk, .inl rfl, .inl rfl⟩
theorem parse_start {w w1 : World} {s : ByteArray} {g j cap : Nat} {ts : List Tok} (hG : Good s ts ∧ (OpsAt w 1 ∧ GlobsAt w) ∧ ts.length = j + 1 ∧ ts.length ≤ 65537) (hs : s.size ≤ 65536) (h5 : 5 < w.heap.size) (ho : w1.ownsRow (WP w).heap.size 38 3 (.slice (some ⟨g, 0, none⟩) (j + 1) cap) (j + 1) (tokCells ts)) (hb : Below (WP w).heap.size (WP w) w1) :
    Par (envP w1.heap.size g j cap s nilV) (WR w w1 s g j cap) nilV [] { toks := ts, opn := 0, nodes := [] } ∧ Below w.heap.size w (WR w w1 s g j cap) ∧ Box (WR w w1 s g j cap) w.heap.size [nilV, nilV] ∧ Box (WR w w1 s g j cap) (w.heap.size + 1) [.int .i64 0, .int .i64 0] ∧ w.heap.size + 2 ≤ w1.heap.size := by
  have hz : (WP w).heap.size = w.heap.size + 2 := by simp
  have hge : w.heap.size + 2 ≤ g := by have := (ho.lt g rfl).1; omega
  have hsz : w.heap.size + 2 ≤ w1.heap.size := by have := hb.size; omega
  have B1 : Below w.heap.size w w1 := (wp_below w).trans (hb.mono (by omega))
  have B2 : Below w.heap.size w (WQ w w1) := (B1.setCell (by simp) _).setCell (by simp) _
  have hq : (WQ w w1).heap.size = w1.heap.size := by simp [World.setCell]
  have hx : ∀ j', (WQ w w1).cell? ⟨1, j', none⟩ = w.cell? ⟨1, j', none⟩ := fun j' => World.cell?_of_block (w := w) (a := ⟨1, j', none⟩) (B2.block 1 (by omega))
  have hops : OpsAt (WQ w w1) 1 := fun i o hi => by rw [hx, hx, hx, hx]; exact hG.2.1.1 i o hi
  have ho2 : (WQ w w1).ownsRow (WP w).heap.size 38 3 (.slice (some ⟨g, 0, none⟩) ts.length cap) ts.length (tokCells ts) := by
    rw [hG.2.2.1]
    exact owns_other (owns_other ho (by simp [Value.ownBlock]; omega) _) (by simp [Value.ownBlock]; omega) _
  have hP := start_par ho2 hG.1 hs hG.2.2.2 hops (by omega) (hG.2.1.2.below h5 B2)
  have hw : Below (WQ w w1).heap.size (WQ w w1) (WR w w1 s g j cap) := (Below.refl _ _).alloc (Nat.le_refl _) _
  have T := ((((wp_boxT w).below hb).other (a := ⟨w.heap.size + 1, 0, none⟩) (by simp) (.int .i64 0)).other (a := ⟨w.heap.size + 1, 1, none⟩) (by simp) (.int .i64 0)).below hw
  have Fb := ((((wp_boxF w).below hb).set (j := 0) (by simp) (.int .i64 0)).set (j := 1) (by simp) (.int .i64 0)).below hw
  refine ⟨?_, B2.trans (hw.mono (by omega)), T, Fb, hsz⟩
  unfold env0 at hP
  rw [hG.2.2.1, hq] at hP
  exact hP
end Go.Proofs.YtbejgachdhfakaaGreatDoor
/- The parser's face. -/
namespace Go.Proofs.YtbejgachdhfakaaGreatDoor
open Go.RowKit

theorem own_up {w w' : World} {base base' : Nat} (hb : base' ≤ base) (hk : ∀ k, base ≤ k → k < w.heap.size → w'.heap[k]? = w.heap[k]?) {e : TypeId} {sz : Nat} {v : Value} {n : Nat} {xs : List Value} (h : w.ownsRow base e sz v n xs) : w'.ownsRow base' e sz v n xs := by
  refine ⟨h.1, ?_⟩
  rcases h.2 with h0 | ⟨g, cap, cur, hv, h1, hh, h2⟩
  · exact .inl h0
  · exact .inr ⟨g, cap, cur, hv, Nat.le_trans hb h1, (hk g h1 (Array.getElem?_eq_some_iff.1 hh).1).trans hh, h2⟩
theorem NodesIn.up {w w' : World} {base base' : Nat} (hb : base' ≤ base) (hk : ∀ k, base ≤ k → k < w.heap.size → w'.heap[k]? = w.heap[k]?) {v : Value} {kvs : List Value} {ns : List Nd} (h : NodesIn w base v kvs ns) : NodesIn w' base' v kvs ns :=
  ⟨h.len, own_up hb hk h.own, fun i n kv h1 h2 => own_up hb hk (h.kid i n kv h1 h2), h.apart⟩
theorem FuncsIn.up {w w' : World} {base base' : Nat} (hb : base' ≤ base) (hk : ∀ k, base ≤ k → k < w.heap.size → w'.heap[k]? = w.heap[k]?) {v : Value} {pvs : List Value} {fs : List Fd} (h : FuncsIn w base v pvs fs) : FuncsIn w' base' v pvs fs :=
  ⟨h.len, own_up hb hk h.own, fun i f pv h1 h2 => own_up hb hk (h.par i f pv h1 h2)⟩
theorem own_slice {w : World} {base : Nat} {e : TypeId} {sz : Nat} {v : Value} {n : Nat} {xs : List Value} (h : w.ownsRow base e sz v n xs) : ∃ a k c, v = .slice a k c := by
  rcases h.2 with ⟨rfl, _⟩ | ⟨g, cap, cur, rfl, _⟩
  · exact ⟨_, _, _, rfl⟩
  · exact ⟨_, _, _, rfl⟩
set_option maxRecDepth 100000 in
set_option maxHeartbeats 2000000 in
theorem parse_ok {F : FW} {m n : Nat} (hB : DoesBlock F m) (hm : m ≤ 1000000000) {s : ByteArray} {w : World} (hs : s.size ≤ 65536) (hops : OpsAt w 1 ∧ GlobsAt w) (h1 : 5 < w.heap.size) {ts : List Tok} (hts : scanS true s.data.toList = .ok ts) (hfl : ∀ t ∈ ts, TokOk s t) (hne : fnsP F s m n [] { toks := ts, opn := 0, nodes := [] } ≠ .out) :
    Calls Tryz.prog 9 #[.string s] w (PostParse w (fnsP F s m n [] { toks := ts, opn := 0, nodes := [] })) := by
  have hlen : s.data.toList.length = s.size := by simp
  have hT := of_ok (l := s.data.toList) (by omega) hts
  have hS := Sc.scan_any s (WP w) (by unfold maxLen; omega)
  have htl := toks_len s.data.toList
  unfold Sc.Told at hS
  rw [hT.1, hT.2.1, hT.2.2] at hS
  rw [hT.1] at htl
  have hgood := good_scan hts hfl
  obtain ⟨j, hj⟩ : ∃ j, ts.length = j + 1 := by
    obtain ⟨fr, z, rfl, _⟩ := hgood
    exact ⟨fr.length, by simp⟩
  have hmf := mf
  have hfl := fld0
  have BT := wp_boxT w
  have BF := wp_boxF w
  have hwP := wp_below w
  generalize hR : fnsP F s m n [] { toks := ts, opn := 0, nodes := [] } = RES at hne ⊢
  have HR0 : Hid _ := hR
  have HG : Hid (Good s ts ∧ (OpsAt w 1 ∧ GlobsAt w) ∧ ts.length = j + 1 ∧ ts.length ≤ 65537) := ⟨hgood, hops, hj, htl⟩
  have hsz : Hid ((WP w).heap.size = w.heap.size + 2) := by show _ = _; simp
  have t0 := BT.lt
  clear hlen hT hts hgood hops hR hj htl
  go_enter_defers Tryz.func9, Tryz.ntmps9
  go_wp2_with (go_at_call 8; refine hS.mono ?_; rintro e w1 ⟨v1, rfl, ho1, hb1⟩; rw [HG.out.2.2.1] at ho1; obtain ⟨g, cap, rfl, hg1, hg2, hg3, hg4⟩ := own_form ho1; have BT1 := BT.below hb1; have BF1 := BF.below hb1; have f0 := BF1.cell 0 _ rfl; have f1 := BF1.cell 1 _ rfl; have ff0 := BF1.fz 0; have ff1 := BF1.fz 1; have fl := BF1.lt; have t0 := BT1.cell 0 _ rfl; have t1 := BT1.cell 1 _ rfl; have tf0 := BT1.fz 0; have tf1 := BT1.fz 1; have HO1 : Hid _ := ho1; have HB1 : Hid _ := hb1; clear ho1 hb1)
  obtain ⟨hP0, hW0, hT0, hF0, hz0⟩ := parse_start (cap := cap) HG.out hs h1 HO1.out HB1.out
  have H0 : Hid (Below w.heap.size w (WR w w1 s g j cap) ∧ Box (WR w w1 s g j cap) w.heap.size [nilV, nilV] ∧ Box (WR w w1 s g j cap) (w.heap.size + 1) [.int .i64 0, .int .i64 0]) := ⟨hW0, hT0, hF0⟩
  have HP0 : Hid (Par (envP w1.heap.size g j cap s nilV) (WR w w1 s g j cap) nilV [] { toks := ts, opn := 0, nodes := [] }) := hP0
  have HDB : Hid (DoesBlock F m) := hB
  clear hP0 hW0 hT0 hF0 BT1 BF1 f0 f1 ff0 ff1 t0 t1 tf0 tf1 hS BT BF hB
  go_loopw [20] (fun _ wr => ∃ (n' : Nat) (fs : List Fd) (pvs : List Value) (fv v' : Value) (k' : List Value) (st' : St), Hid (Par (envP w1.heap.size g j cap s fv) wr v' k' st' ∧ FuncsIn wr (w1.heap.size + 1) fv pvs fs ∧ MovedF w1.heap.size (WR w w1 s g j cap) nilV nilV wr v' fv ∧ fs.length ≤ st'.nodes.length ∧ fnsP F s m n' fs st' = RES)) (fun _ wr => leftIn w1.heap.size wr)
  case atStart => exact ⟨n, [], [], nilV, nilV, [], _, HP0.out, start_fns _ _, MovedF.refl _ _ _ _, Nat.le_refl _, HR0.out⟩
  case round =>
    clear HR0 HP0
    obtain ⟨n', fs, pvs, fv, v', k', st', hr⟩ := hrel
    obtain ⟨n', rfl⟩ : ∃ n'', n' = n'' + 1 := by
      cases n' with
      | zero => exact absurd (hr.out.2.2.2.2.symm.trans (by simp only [fnsP])) hne
      | succ n' => exact ⟨n', rfl⟩
    have hRE := hr.out.2.2.2.2
    simp only [fnsP] at hRE
    have hN := next_par hr.out.1
    by_cases hk : (hd st').1 = 1
    · rw [if_pos hk] at hRE
      rw [hk] at hN
      obtain ⟨va, vn, vc, rfl⟩ := own_slice hr.out.1.nds.own
      obtain ⟨fa, fn, fc, rfl⟩ := own_slice hr.out.2.1.own
      go_wp2_with (go_at_call 23; refine Calls.mono (by exact hN) ?_; rintro e w2 ⟨rfl, hb2⟩; have hp2 := hr.out.1.below hb2; have c3 := hp2.c3; have c4 := hp2.c4; have HM2 : Hid (MovedF w1.heap.size (WR w w1 s g j cap) nilV nilV w2 (.slice va vn vc) (.slice fa fn fc)) := hr.out.2.2.1.trans (Below.toF hb2 _ _); have BT2 := Box.far H0.out.2.1 HM2.out (by omega); have BF2 := Box.far H0.out.2.2 HM2.out (by omega); have t0 := BT2.cell 0 _ rfl; have t1 := BT2.cell 1 _ rfl; have tf0 := BT2.fz 0; have tf1 := BT2.fz 1; have tl := BT2.lt; have f0 := BF2.cell 0 _ rfl; have f1 := BF2.cell 1 _ rfl; have ff0 := BF2.fz 0; have ff1 := BF2.fz 1; have fl := BF2.lt; have HP2 : Hid _ := hp2; have HF2 : Hid _ := hr.out.2.1.moved ((Kept.of_below hb2).moved _ k') hr.out.1.nds hr.out.1.pb; clear hp2)
      have B2 := Below.far H0.out.1 HM2.out (by omega)
      have BT3 := (((BT2.set (j := 0) (by simp) (.slice va vn vc)).set (j := 1) (by simp) (.slice fa fn fc)).other (a := ⟨w.heap.size + 1, 0, none⟩) (by simp) (.int .i64 0)).other (a := ⟨w.heap.size + 1, 1, none⟩) (by simp) (.int .i64 0)
      have BF3 := (((BF2.other (a := ⟨w.heap.size, 0, none⟩) (by simp) (.slice va vn vc)).other (a := ⟨w.heap.size, 1, none⟩) (by simp) (.slice fa fn fc)).set (j := 0) (by simp) (.int .i64 0)).set (j := 1) (by simp) (.int .i64 0)
      refine leaves_cons (f := 22) (args := #[ptr w.heap.size, ptr (w.heap.size + 1)]) (by simp) (by kernel_rfl) ?_
      refine (catch_idle w.heap.size (w.heap.size + 1) _).mono ?_
      rintro e u' w4 ⟨rfl, rfl, hb4⟩
      have hT4 := BT3.below hb4
      have hF4 := BF3.below hb4
      have z0 := hT4.cell 0 _ rfl
      have z1 := hT4.cell 1 _ rfl
      have z2 := hF4.cell 0 _ rfl
      have z3 := hF4.cell 1 _ rfl
      have hsz2 := B2.size
      have hsz3 := hb4.size
      simp only [World.size_setCell] at hsz3
      have hk4 : ∀ k, k < w2.heap.size → k ≠ w.heap.size → k ≠ w.heap.size + 1 → w4.heap[k]? = w2.heap[k]? := by
        intro k hk ha hb
        rw [hb4.block k (by simp only [World.size_setCell]; exact hk), Below.heap_setCell _ _ _ _ hb, Below.heap_setCell _ _ _ _ hb, Below.heap_setCell _ _ _ _ ha, Below.heap_setCell _ _ _ _ ha]
      show ∃ v, _
      refine ⟨.tuple #[.agg #[.slice va vn vc, .slice fa fn fc], .agg #[.int .i64 0, .int .i64 0]], by simp [results, Tryz.results9, go_sem, z0, z1, z2, z3], ?_⟩
      subst hRE
      exact ⟨_, _, k', pvs, rfl, NodesIn.up (base := w1.heap.size + 1) (by omega) (fun k h1 h2 => hk4 k h2 (by omega) (by omega)) HP2.out.nds, FuncsIn.up (base := w1.heap.size + 1) (by omega) (fun k h1 h2 => hk4 k h2 (by omega) (by omega)) HF2.out,
        ⟨hb4.os.trans B2.os, hb4.tape.trans B2.tape, hb4.output.trans B2.output, by omega, fun k hk => (hk4 k (by omega) (by omega) (by omega)).trans (B2.block k hk)⟩⟩
    · rw [if_neg hk] at hRE
      have hk' : ((hd st').1 : Int) ≠ 1 := by omega
      have hfn : fnP F s m st' ≠ .out := bind_ne (by rw [hRE]; exact hne)
      have HFA : Hid (∀ W, Below wr.heap.size wr W → Calls Tryz.prog 24 #[ptr w1.heap.size] W (PostF (envP w1.heap.size g j cap s fv) W v' k' fs (fnP F s m st'))) := fun W hb => function_any HDB.out hm (hr.out.1.below hb) (hr.out.2.1.moved ((Kept.of_below hb).moved v' k') hr.out.1.nds hr.out.1.pb) (by have := hr.out.1.sum; have := hr.out.2.2.2.1; omega) hfn
      have HWN : Hid (∀ f st1, fnP F s m st' = .ok f st1 → Went 1 st' st1 ∧ st'.nodes.length < st1.nodes.length) := fun f st1 hq => went_fn hq
      generalize fnP F s m st' = r at hRE HFA HWN hfn
      have HRE : Hid _ := hRE
      clear hRE
      unfold PostF at HFA
      cases r with
      | out => exact absurd rfl hfn
      | err c q =>
        dsimp only at HFA
        go_wp2_with (first | (go_at_call 23; refine Calls.mono (by exact hN) ?_; rintro e w2 ⟨rfl, hb2⟩) | (go_at_call 24; refine Calls.mono (by exact HFA.out _ hb2) ?_; rintro e w3 ⟨rfl, v3, k3, hm3⟩; unfold gaveUp))
        have HM3 : Hid (MovedF w1.heap.size (WR w w1 s g j cap) nilV nilV w3 v3 fv) := (hr.out.2.2.1.trans (Below.toF hb2 v' fv)).trans (hm3.toF fv)
        have BT3 := Box.far H0.out.2.1 HM3.out (by omega)
        have BF3 := Box.far H0.out.2.2 HM3.out (by omega)
        have B3 := Below.far H0.out.1 HM3.out (by omega)
        refine leaves_cons (f := 22) (args := #[ptr w.heap.size, ptr (w.heap.size + 1)]) (by simp) (by kernel_rfl) ?_
        refine (catch_panicking w.heap.size (w.heap.size + 1) c q w3 BT3 _ _ BF3 (by omega)).mono ?_
        rintro e u' w4 ⟨rfl, rfl, hT4, hF4, hbk, hsz4, ho4, ht4, hu4⟩
        have B4 : Below w.heap.size w w4 := ⟨ho4.trans B3.os, ht4.trans B3.tape, hu4.trans B3.output, Nat.le_trans B3.size hsz4, fun k hk => (hbk k (Nat.lt_of_lt_of_le hk B3.size) (by omega) (by omega)).trans (B3.block k hk)⟩
        have t0 := hT4.cell 0 _ rfl
        have t1 := hT4.cell 1 _ rfl
        have f0 := hF4.cell 0 _ rfl
        have f1 := hF4.cell 1 _ rfl
        show ∃ v, _
        refine ⟨.tuple #[.agg #[nilV, nilV], .agg #[.int .i64 (c : Int), .int .i64 (q : Int)]], by simp [results, Tryz.results9, go_sem, t0, t1, f0, f1], ?_⟩
        have hre := HRE.out
        subst hre
        exact ⟨rfl, B4⟩
      | ok f st1 =>
        dsimp only at HFA
        go_wp2_with (first | (go_at_call 23; refine Calls.mono (by exact hN) ?_; rintro e w2 ⟨rfl, hb2⟩) | (go_at_call 24; refine Calls.mono (by exact HFA.out _ hb2) ?_; rintro e w3 ⟨rfl, v3, k3, fv3, pvs3, hp3, hf3, hm3⟩))
        go_roundw
        case rel => exact ⟨n', fs ++ [f], pvs3, fv3, v3, k3, st1, hp3, hf3, (hr.out.2.2.1.trans (Below.toF hb2 v' fv)).trans hm3, by have := (HWN.out f st1 rfl).2; have := hr.out.2.2.2.1; rw [List.length_append]; simp only [List.length_cons, List.length_nil]; omega, HRE.out⟩
        case measure =>
          have h1 : st1.nodes.length + st1.toks.length + 1 ≤ st'.nodes.length + st'.toks.length := (HWN.out f st1 rfl).1.sum
          have h2 := (HWN.out f st1 rfl).2
          show leftIn w1.heap.size _ < leftIn w1.heap.size _
          rw [left_par (E := envP w1.heap.size g j cap s fv3) hp3, left_par hr.out.1]
          omega
end Go.Proofs.YtbejgachdhfakaaGreatDoor
/- The parser's face, where the scan gives up. -/
namespace Go.Proofs.YtbejgachdhfakaaGreatDoor
open Go.RowKit

set_option maxRecDepth 100000 in
set_option maxHeartbeats 2000000 in
theorem parse_err {s : ByteArray} {w : World} (hs : s.size ≤ maxLen) (he : errOf s.data.toList ≠ 0) :
    Calls Tryz.prog 9 #[.string s] w fun e w' => e = .returned (.tuple #[.agg #[nilV, nilV], .agg #[.int .i64 (errOf s.data.toList), .int .i64 (atOf s.data.toList)]]) ∧ Below w.heap.size w w' := by
  have hS := Sc.scan_any s (WP w) hs
  unfold Sc.Told at hS
  have hmf := mf
  have BT := wp_boxT w
  have BF := wp_boxF w
  have hwP := wp_below w
  have hsz : (WP w).heap.size = w.heap.size + 2 := by simp
  generalize errOf s.data.toList = er at hS he ⊢
  generalize atOf s.data.toList = at1 at hS ⊢
  have HSZ : Hid ((WP w).heap.size = w.heap.size + 2) := hsz
  have HWP : Hid (Below w.heap.size w (WP w)) := hwP
  have t0 := BT.lt
  clear hsz hwP
  go_enter_defers Tryz.func9, Tryz.ntmps9
  go_wp2_with (go_at_call 8; refine hS.mono ?_; rintro e w1 ⟨v1, rfl, _, hb1⟩; have BT1 := BT.below hb1; have BF1 := BF.below hb1; have f0 := BF1.cell 0 _ rfl; have f1 := BF1.cell 1 _ rfl; have ff0 := BF1.fz 0; have ff1 := BF1.fz 1; have fl := BF1.lt; have t0 := BT1.cell 0 _ rfl; have t1 := BT1.cell 1 _ rfl; have tf0 := BT1.fz 0; have tf1 := BT1.fz 1; have HB1 : Hid _ := hb1; clear hb1)
  all_goals (try go_region)
  all_goals (try go_wp2)
  all_goals
    have hsz := HSZ.out
    have B1 : Below w.heap.size w w1 := HWP.out.trans (HB1.out.mono (by omega))
    have hT := (((((BT1.other (a := ⟨w.heap.size + 1, 0, none⟩) (by simp) (.int .i64 er)).other (a := ⟨w.heap.size + 1, 1, none⟩) (by simp) (.int .i64 at1)).set (j := 0) (by simp) (.slice none 0 0)).set (j := 1) (by simp) (.slice none 0 0)).other (a := ⟨w.heap.size + 1, 0, none⟩) (by simp) (.int .i64 er)).other (a := ⟨w.heap.size + 1, 1, none⟩) (by simp) (.int .i64 at1)
    have hF := (((((BF1.set (j := 0) (by simp) (.int .i64 er)).set (j := 1) (by simp) (.int .i64 at1)).other (a := ⟨w.heap.size, 0, none⟩) (by simp) (.slice none 0 0)).other (a := ⟨w.heap.size, 1, none⟩) (by simp) (.slice none 0 0)).set (j := 0) (by simp) (.int .i64 er)).set (j := 1) (by simp) (.int .i64 at1)
    have hB := (((((((B1.setCell (p := ⟨w.heap.size + 1, 0, none⟩) (by simp) (.int .i64 er)).setCell (p := ⟨w.heap.size + 1, 1, none⟩) (by simp) (.int .i64 at1)).setCell (p := ⟨w.heap.size, 0, none⟩) (by simp) (.slice none 0 0)).setCell (p := ⟨w.heap.size, 1, none⟩) (by simp) (.slice none 0 0)).setCell (p := ⟨w.heap.size + 1, 0, none⟩) (by simp) (.int .i64 er)).setCell (p := ⟨w.heap.size + 1, 1, none⟩) (by simp) (.int .i64 at1))).drew
    have hT' := hT.below (Below.refl _ _).drew
    have hF' := hF.below (Below.refl _ _).drew
    have z0 := hT'.cell 0 _ rfl
    have z1 := hT'.cell 1 _ rfl
    have z2 := hF'.cell 0 _ rfl
    have z3 := hF'.cell 1 _ rfl
    show ∃ v, _
    exact ⟨.tuple #[.agg #[nilV, nilV], .agg #[.int .i64 er, .int .i64 at1]], by simp [results, Tryz.results9, go_sem, z0, z1, z2, z3], rfl, hB⟩
end Go.Proofs.YtbejgachdhfakaaGreatDoor
