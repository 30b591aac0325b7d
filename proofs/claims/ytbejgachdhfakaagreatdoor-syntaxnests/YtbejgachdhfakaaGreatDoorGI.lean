/- A function's parameters. -/
import Derived.Test.YtbejgachdhfakaaGreatDoorGH
import Derived.Maps.AppendAt
namespace Go.Proofs.YtbejgachdhfakaaGreatDoor
open Go.RowKit

abbrev Pr := ByteArray × Nat × Nat
def prCells (ps : List Pr) : List Value := ps.flatMap fun p => [.string p.1, .int .i64 (p.2.1 : Int), .int .u8 (p.2.2 : Int)]
theorem prCells_snoc (ps : List Pr) (p : Pr) : prCells (ps ++ [p]) = prCells ps ++ [.string p.1, .int .i64 (p.2.1 : Int), .int .u8 (p.2.2 : Int)] := by simp [prCells]
theorem info84 : (Tryz.prog.info? 84).map (fun i => (i.zero, i.size, i.bytes)) = some (some (.agg #[.string ⟨#[]⟩, .int .i64 0, .int .u8 0]), 3, 32) := by kernel_rfl
/-- A row of another sort stays while the parser goes on. -/
theorem row_frame {p base : Nat} {w w' : World} {v : Value} (hb : ∀ k, k < w.heap.size → k ≠ p → v.ownBlock ≠ some k → w'.heap[k]? = w.heap[k]?) (hp : p < base) {m : Nat} {ys : List Value} (hv : w.ownsRow base 46 8 v m ys) {e sz : Nat} (he : e ≠ 46) {kv : Value} {n : Nat} {xs : List Value} (h : w.ownsRow base e sz kv n xs) : w'.ownsRow base e sz kv n xs := by
  refine ⟨h.1, ?_⟩
  rcases h.2 with h0 | ⟨g, cap, cur, hv1, h1, hh, h2⟩
  · exact .inl h0
  · refine .inr ⟨g, cap, cur, hv1, h1, ?_, h2⟩
    rw [hb g (Array.getElem?_eq_some_iff.1 hh).1 (by omega) ?_]
    · exact hh
    · intro hc
      rcases hv.2 with ⟨rfl, _⟩ | ⟨g', cap', cur', rfl, _, hh', _⟩
      · cases hc
      · simp [Value.ownBlock] at hc
        subst hc
        rw [hh] at hh'
        simp at hh'
        exact he hh'.2
/-- What the closure of a function's parameters leaves. -/
structure QP (E : Env) (w0 : World) (v0 : Value) (k0 : List Value) (b1 b2 : Nat) (nm : ByteArray) (pl : Nat) (pa : Option Addr) (pn pc : Nat) (ps : List Pr) (w : World) (v : Value) (k : List Value) : Prop where
  mv : Moved E.p w0 v0 k0 w v k
  o1 : Off b1 v k
  o2 : Off b2 v k
  x1 : Box w b1 [ptr E.p]
  x2 : Box w b2 [.string nm, natV pl, .slice pa pn pc, .int .u8 0, .int .i64 0]
  row : w.ownsRow E.base 84 3 (.slice pa pn pc) ps.length (prCells ps)
  fr : ∀ g, (Value.slice pa pn pc).ownBlock = some g → w0.heap.size ≤ g ∧ g ≠ b1 ∧ g ≠ b2 ∧ Off g v k
  g1 : w0.heap.size ≤ b1
  g2 : w0.heap.size ≤ b2
  ne : b1 ≠ b2
  pb : E.p < w0.heap.size
def QPars (E : Env) (w0 : World) (v0 : Value) (k0 : List Value) (b1 b2 : Nat) (nm : ByteArray) (pl : Nat) (ps : List Pr) (w : World) (v : Value) (k : List Value) : Prop := ∃ pa pn pc, QP E w0 v0 k0 b1 b2 nm pl pa pn pc ps w v k
theorem QP.kept {E : Env} {w0 w w1 : World} {v0 v : Value} {k0 k : List Value} {b1 b2 : Nat} {nm : ByteArray} {pl : Nat} {pa : Option Addr} {pn pc : Nat} {ps : List Pr} (h : QP E w0 v0 k0 b1 b2 nm pl pa pn pc ps w v k) (hb : E.p < E.base) (hk : Kept E.p w w1) : QP E w0 v0 k0 b1 b2 nm pl pa pn pc ps w1 v k :=
  ⟨h.mv.kept hk, h.o1, h.o2, h.x1.kept hk (by have := h.pb; have := h.g1; omega), h.x2.kept hk (by have := h.pb; have := h.g2; omega), owns_kept h.row hk hb, h.fr, h.g1, h.g2, h.ne, h.pb⟩
theorem cells3_at {W : World} {g : Nat} (hg : g = W.heap.size) (a b c : Value) (t : TypeId) : ∀ j u, [a, b, c][j]? = some u → (W.alloc (.cells #[a, b, c] t)).cell? ((⟨g, 0, none⟩ : Addr).add j) = some u := by
  intro j u hj
  subst hg
  have ea : (⟨W.heap.size, 0, none⟩ : Addr).add j = ⟨W.heap.size, j, none⟩ := by simp [Addr.add_lit]
  rw [ea]
  have hh := heap_alloc_new W (.cells #[a, b, c] t)
  simp only [World.cell?, hh]
  simpa using hj
/-- One parameter more. -/
theorem QP.app {E : Env} {w0 w w2 : World} {v0 v v' : Value} {k0 k : List Value} {b1 b2 : Nat} {nm : ByteArray} {pl : Nat} {pa : Option Addr} {pn pc : Nat} {ps : List Pr} {st : St} {x : Pr} (h : QP E w0 v0 k0 b1 b2 nm pl pa pn pc ps w v k) (hp : Par E w v k st) {W : World} (hW : Below w.heap.size w W)
    (ho : w2.ownsRow E.base 84 3 v' (ps.length + 1) (prCells ps ++ [.string x.1, .int .i64 (x.2.1 : Int), .int .u8 (x.2.2 : Int)])) (hg : W.grownBy w2 (Value.slice pa pn pc).ownBlock) (hs : v'.ownBlock = (Value.slice pa pn pc).ownBlock ∨ v'.ownBlock = some W.heap.size) :
    ∃ g c, v' = .slice (some ⟨g, 0, none⟩) (ps.length + 1) c ∧ QP E w0 v0 k0 b1 b2 nm pl (some ⟨g, 0, none⟩) (ps.length + 1) c (ps ++ [x]) (w2.setCell ⟨b2, 2, none⟩ v') v k ∧ Par E (w2.setCell ⟨b2, 2, none⟩ v') v k st ∧ w.grownBy w2 (Value.slice pa pn pc).ownBlock := by
  obtain ⟨g, c, rfl, hb1, hlt, _, _⟩ := own_form ho
  have hpb := h.pb
  have hge1 := h.g1
  have hge2 := h.g2
  have hgw : w.grownBy w2 (Value.slice pa pn pc).ownBlock := ⟨hg.os.trans hW.os, hg.tape.trans hW.tape, hg.output.trans hW.output, Nat.le_trans hW.size hg.size, fun i hi hr => (hg.block i (Nat.lt_of_lt_of_le hi hW.size) hr).trans (hW.block i hi)⟩
  have hP2 := hp.grown hgw (fun q hq => ⟨by have := (h.fr q hq).1; omega, (h.fr q hq).2.2.2⟩)
  have hB1 := h.x1.same (hgw.block b1 h.x1.lt (fun hc => (h.fr b1 hc.symm).2.1 rfl))
  have hB2 := h.x2.same (hgw.block b2 h.x2.lt (fun hc => (h.fr b2 hc.symm).2.2.1 rfl))
  have hM2 : Moved E.p w0 v0 k0 w2 v k := by
    have := h.mv
    refine { this with os := hgw.os.trans this.os, tape := hgw.tape.trans this.tape, output := hgw.output.trans this.output, size := Nat.le_trans this.size hgw.size, block := fun i hi hpi hvi => ?_ }
    have hi2 : i < w.heap.size := Nat.lt_of_lt_of_le hi this.size
    rw [hgw.block i hi2 (fun hc => by have := (h.fr i hc.symm).1; omega)]
    exact this.block i hi hpi hvi
  have hgf : (w.heap.size ≤ g) ∨ (Value.slice pa pn pc).ownBlock = some g := by
    rcases hs with hs | hs
    · exact .inr hs.symm
    · simp [Value.ownBlock] at hs
      have := hW.size
      exact .inl (by omega)
  have hgg : w0.heap.size ≤ g ∧ g ≠ b1 ∧ g ≠ b2 ∧ Off g v k := by
    rcases hgf with hgf | hgf
    · have := h.mv.size
      have := h.x1.lt
      have := h.x2.lt
      exact ⟨by omega, by omega, by omega, hp.off hgf⟩
    · exact h.fr g hgf
  refine ⟨g, c, rfl, ⟨hM2.setBox h.g2 _ _, h.o1, h.o2, hB1.other h.ne _, by exact hB2.set (j := 2) (by simp) _, ?_, fun q hq => ?_, h.g1, h.g2, h.ne, h.pb⟩, hP2.setBox (by omega) h.o2 _ _, hgw⟩
  · rw [prCells_snoc, List.length_append]
    exact owns_other ho (by simp [Value.ownBlock]; exact hgg.2.2.1) _
  · simp [Value.ownBlock] at hq
    subst hq
    exact hgg
end Go.Proofs.YtbejgachdhfakaaGreatDoor
/- A function's parameters: the closure. -/
namespace Go.Proofs.YtbejgachdhfakaaGreatDoor
open Go.RowKit

theorem QP.other {E : Env} {w0 w : World} {v0 v : Value} {k0 k : List Value} {b1 b2 : Nat} {nm : ByteArray} {pl : Nat} {pa : Option Addr} {pn pc : Nat} {ps : List Pr} (h : QP E w0 v0 k0 b1 b2 nm pl pa pn pc ps w v k) {b : Nat} (hb : w0.heap.size ≤ b ∧ b ≠ b1 ∧ b ≠ b2 ∧ (Value.slice pa pn pc).ownBlock ≠ some b) (j : Nat) (u : Value) : QP E w0 v0 k0 b1 b2 nm pl pa pn pc ps (w.setCell ⟨b, j, none⟩ u) v k :=
  ⟨h.mv.setBox hb.1 _ _, h.o1, h.o2, h.x1.other (fun e => hb.2.1 e.symm) _, h.x2.other (fun e => hb.2.2.1 e.symm) _, owns_other h.row hb.2.2.2 _, h.fr, h.g1, h.g2, h.ne, h.pb⟩
set_option maxRecDepth 100000 in
set_option maxHeartbeats 2000000 in
theorem param_any {E : Env} {w w0 : World} {v v0 : Value} {k k0 : List Value} {st : St} (h : Par E w v k st) {b1 b2 : Nat} {nm : ByteArray} {pl : Nat} {ps : List Pr} (hQ0 : QPars E w0 v0 k0 b1 b2 nm pl ps w v k) (hps : ps.length ≤ 1000000000) :
    Calls Tryz.prog 46 #[ptr b1, ptr b2] w (PostQ unitV E (fun x => QPars E w0 v0 k0 b1 b2 nm pl (ps ++ [x])) (ZMov E w0 v0 k0) (parP E.s st)) := by
  obtain ⟨pa, pn, pc, hQ⟩ := hQ0
  have hl := h.lt
  have hpb := h.pb
  have hwA : Below w.heap.size w (w.alloc (.cells #[Value.string ⟨#[]⟩, .int .i64 0, .int .u8 0] 84)) := (Below.refl _ _).alloc (Nat.le_refl _) _
  have BA := Box.new w [Value.string ⟨#[]⟩, .int .i64 0, .int .u8 0] 84
  have HQA : Hid (QP E w0 v0 k0 b1 b2 nm pl pa pn pc ps (w.alloc (.cells #[Value.string ⟨#[]⟩, .int .i64 0, .int .u8 0] 84)) v k) := hQ.kept hpb (.of_below hwA)
  have hN := name_par (h.below hwA)
  have HTY : Hid (∀ W st1, Par E W v k st1 → Calls Tryz.prog 47 #[ptr E.p] W (PostK typV E W v k (typeP E.s st1))) := fun W st1 hp => type_par hp
  have HOFF : Hid (Off w.heap.size v k) := h.off (Nat.le_refl _)
  have HNB : Hid (w0.heap.size ≤ w.heap.size ∧ w.heap.size ≠ b1 ∧ w.heap.size ≠ b2 ∧ (Value.slice pa pn pc).ownBlock ≠ some w.heap.size) := ⟨hQ.mv.size, by have := hQ.x1.lt; omega, by have := hQ.x2.lt; omega, fun hc => by have := (hQ.row.lt _ hc).2; omega⟩
  have p1 := HQA.out.x1.cell 0 _ rfl
  have p1l := hQ.x1.lt
  have p2l := hQ.x2.lt
  obtain ⟨i0, hi, hz0, hz1, hz2⟩ := info_parts info84
  unfold parP
  clear h hQ
  cases hnm : nameP E.s st with
  | out =>
    exfalso
    unfold nameP stop at hnm
    split at hnm <;> cases hnm
  | err c q =>
    rw [hnm] at hN
    unfold PostK at hN
    unfold PostQ
    dsimp only [Res.bind] at hN ⊢
    have HN : Hid _ := hN
    clear hN hnm
    go_enter Tryz.func46, Tryz.ntmps46
    go_wp2_with (go_at_call 44; refine Calls.mono (by exact HN.out) ?_; rintro e w1 ⟨rfl, hk1⟩; unfold gaveUp)
    exact ⟨rfl, rfl, v, k, HQA.out.mv.kept hk1⟩
  | ok a st1 =>
    obtain ⟨nx, px⟩ := a
    rw [hnm] at hN
    unfold PostK at hN
    dsimp only at hN
    have HN : Hid _ := hN
    clear hN hnm
    simp only [Res.bind]
    cases hty : typeP E.s st1 with
    | out =>
      exfalso
      unfold typeP stop at hty
      split at hty <;> cases hty
    | err c q =>
      have HTY2 := fun W hp => HTY.out W st1 hp
      rw [hty] at HTY2
      unfold PostK at HTY2
      unfold PostQ
      dsimp only at HTY2 ⊢
      have HTY : Hid _ := HTY2
      clear HTY2 hty
      go_enter Tryz.func46, Tryz.ntmps46
      go_wp2_with (first | (go_at_call 44; refine Calls.mono (by exact HN.out) ?_; rintro e w1 ⟨rfl, hk1, hp1⟩; have B1 := BA.kept hk1 (by omega); have s0 := B1.cell 0 _ rfl; have s1 := B1.cell 1 _ rfl; have f0 := B1.fz 0; have f1 := B1.fz 1; have bl1 := B1.lt; have q1 := (HQA.out.kept hpb hk1).x1.cell 0 _ rfl; have HP1 : Hid (Par E ((w1.setCell ⟨w.heap.size, 0, none⟩ (.string nx)).setCell ⟨w.heap.size, 1, none⟩ (natV px)) v k st1) := (hp1.setBox (by omega) HOFF.out 0 _).setBox (by omega) HOFF.out 1 _; have B2 : Box ((w1.setCell ⟨w.heap.size, 0, none⟩ (.string nx)).setCell ⟨w.heap.size, 1, none⟩ (natV px)) w.heap.size [.string nx, natV px, .int .u8 0] := (B1.set (j := 0) (by simp) _).set (j := 1) (by simp) _; have HQ1 : Hid (QP E w0 v0 k0 b1 b2 nm pl pa pn pc ps ((w1.setCell ⟨w.heap.size, 0, none⟩ (.string nx)).setCell ⟨w.heap.size, 1, none⟩ (natV px)) v k) := ((HQA.out.kept hpb hk1).other HNB.out 0 _).other HNB.out 1 _; have q2 := HQ1.out.x1.cell 0 _ rfl; clear hp1) | (go_at_call 47; refine Calls.mono (by exact HTY.out _ HP1.out) ?_; rintro e w2 ⟨rfl, hk2⟩; unfold gaveUp))
      exact ⟨rfl, rfl, v, k, HQ1.out.mv.kept hk2⟩
    | ok t st2 =>
      have HTY2 := fun W hp => HTY.out W st1 hp
      rw [hty] at HTY2
      unfold PostK at HTY2
      dsimp only at HTY2 ⊢
      have HTY : Hid _ := HTY2
      clear HTY2 hty
      go_enter Tryz.func46, Tryz.ntmps46
      go_wp2_with (first | (go_at_call 44; refine Calls.mono (by exact HN.out) ?_; rintro e w1 ⟨rfl, hk1, hp1⟩; have B1 := BA.kept hk1 (by omega); have s0 := B1.cell 0 _ rfl; have s1 := B1.cell 1 _ rfl; have f0 := B1.fz 0; have f1 := B1.fz 1; have bl1 := B1.lt; have q1 := (HQA.out.kept hpb hk1).x1.cell 0 _ rfl; have HP1 : Hid (Par E ((w1.setCell ⟨w.heap.size, 0, none⟩ (.string nx)).setCell ⟨w.heap.size, 1, none⟩ (natV px)) v k st1) := (hp1.setBox (by omega) HOFF.out 0 _).setBox (by omega) HOFF.out 1 _; have B2 : Box ((w1.setCell ⟨w.heap.size, 0, none⟩ (.string nx)).setCell ⟨w.heap.size, 1, none⟩ (natV px)) w.heap.size [.string nx, natV px, .int .u8 0] := (B1.set (j := 0) (by simp) _).set (j := 1) (by simp) _; have HQ1 : Hid (QP E w0 v0 k0 b1 b2 nm pl pa pn pc ps ((w1.setCell ⟨w.heap.size, 0, none⟩ (.string nx)).setCell ⟨w.heap.size, 1, none⟩ (natV px)) v k) := ((HQA.out.kept hpb hk1).other HNB.out 0 _).other HNB.out 1 _; have q2 := HQ1.out.x1.cell 0 _ rfl; clear hp1) | (go_at_call 47; refine Calls.mono (by exact HTY.out _ HP1.out) ?_; rintro e w2 ⟨rfl, hk2, hp2⟩; have B3 := B2.kept hk2 (by omega); have s3 := B3.cell 2 _ rfl; have f3 := B3.fz 2; have bl3 := B3.lt; have HP2 : Hid (Par E (w2.setCell ⟨w.heap.size, 2, none⟩ (typV t)) v k st2) := hp2.setBox (by omega) HOFF.out 2 _; have B4 : Box (w2.setCell ⟨w.heap.size, 2, none⟩ (typV t)) w.heap.size [.string nx, natV px, typV t] := B3.set (j := 2) (by simp) _; have HQ2 : Hid (QP E w0 v0 k0 b1 b2 nm pl pa pn pc ps (w2.setCell ⟨w.heap.size, 2, none⟩ (typV t)) v k) := (HQ1.out.kept hpb hk2).other HNB.out 2 _; have q3 := HQ2.out.x2.cell 2 _ rfl; have q4 := HQ2.out.x2.fz 2; have ql := HQ2.out.x2.lt; have z0 := B4.cell 0 _ rfl; have z1 := B4.cell 1 _ rfl; have z2 := B4.cell 2 _ rfl; have HT3 : Hid (w2.heap.size = (w2.setCell ⟨w.heap.size, 2, none⟩ (typV t)).heap.size) := (by show _ = _; simp [World.setCell]); clear hp2) | (at_builtin; refine wpList_append_own_at _ rfl _ _ 47 rfl E.base 84 i0 (.agg #[.string ⟨#[]⟩, .int .i64 0, .int .u8 0]) 3 32 Tryz.underlying47 hi hz0 hz1 hz2 rfl (by decide) (.slice pa pn pc) ps.length (prCells ps) rfl (HQ2.out.row.alloc _) ⟨w2.heap.size, 0, none⟩ 1 1 [.string nx, natV px, typV t] rfl rfl ?c1 ?c2 ?c3 ?c4 ?c5 ?_))
      case c1 => exact cells3_at HT3.out _ _ _ _
      case c2 => simp [Value.oneCell', typV, natV]
      case c3 => simp [maxLen]; omega
      case c4 => omega
      case c5 => have := HP2.out.bs; rw [World.size_alloc]; exact Nat.le_succ_of_le this
      intro v' w' ho hg _ hs
      obtain ⟨g, c, rfl, hQ3, hP3, hgw⟩ := HQ2.out.app HP2.out (x := (nx, px, t)) ((Below.refl _ _).alloc (Nat.le_refl _) _) ho hg (by rw [World.size_alloc, ← HT3.out]; exact hs)
      have HQ3 : Hid _ := hQ3
      have HP3 : Hid _ := hP3
      have B7 := HQ2.out.x2.same (hgw.block b2 HQ2.out.x2.lt (fun hc => (HQ2.out.fr b2 hc.symm).2.2.1 rfl))
      have y0 := B7.cell 2 _ rfl
      have y1 := B7.fz 2
      have y2 := B7.lt
      clear ho hg hs hQ3 hP3
      all_goals (try go_wp2)
      all_goals go_end0
      all_goals exact ⟨rfl, v, k, HP3.out, _, _, _, HQ3.out⟩
end Go.Proofs.YtbejgachdhfakaaGreatDoor
/- Functions in memory. -/
namespace Go.Proofs.YtbejgachdhfakaaGreatDoor
open Go.RowKit

def fdCells (f : Fd) (pv : Value) : List Value := [.string f.name, .int .i64 (f.pl : Int), pv, .int .u8 (f.res : Int), .int .i64 (f.body : Int)]
def fdsCells : List Fd → List Value → List Value
  | f :: fs, pv :: pvs => fdCells f pv ++ fdsCells fs pvs
  | _, _ => []
theorem fdsCells_snoc : ∀ (fs : List Fd) (pvs : List Value) (f : Fd) (pv : Value), pvs.length = fs.length → fdsCells (fs ++ [f]) (pvs ++ [pv]) = fdsCells fs pvs ++ fdCells f pv
  | [], [], f, pv, _ => by simp [fdsCells]
  | m :: fs, k :: pvs, f, pv, h => by
    have := fdsCells_snoc fs pvs f pv (by simpa using h)
    simp only [List.cons_append, fdsCells, this, List.append_assoc]
  | [], _ :: _, _, _, h => by simp at h
  | _ :: _, [], _, _, h => by simp at h
abbrev zFunc : Value := .agg #[.string ⟨#[]⟩, .int .i64 0, .slice none 0 0, .int .u8 0, .int .i64 0]
theorem info49 : (Tryz.prog.info? 49).map (fun i => (i.zero, i.size, i.bytes)) = some (some zFunc, 5, 64) := by kernel_rfl
/-- The functions so far: a row of the parser's own, and for each a row of parameters. -/
structure FuncsIn (w : World) (base : Nat) (v : Value) (pvs : List Value) (fs : List Fd) : Prop where
  len : pvs.length = fs.length
  own : w.ownsRow base 49 5 v fs.length (fdsCells fs pvs)
  par : ∀ (i : Nat) (f : Fd) (pv : Value), fs[i]? = some f → pvs[i]? = some pv → w.ownsRow base 84 3 pv f.pars.length (prCells f.pars)
/-- Rows of two sorts lie in two blocks. -/
theorem own_ne {w : World} {base b' : Nat} {e1 s1 e2 s2 : Nat} {v1 v2 : Value} {n1 n2 : Nat} {x1 x2 : List Value} (h1 : w.ownsRow base e1 s1 v1 n1 x1) (h2 : w.ownsRow b' e2 s2 v2 n2 x2) (he : e1 ≠ e2) {g : Nat} (hg : v1.ownBlock = some g) : v2.ownBlock ≠ some g := by
  intro hc
  rcases h1.2 with ⟨rfl, _⟩ | ⟨g1, _, _, rfl, _, hh1, _⟩
  · cases hg
  · rcases h2.2 with ⟨rfl, _⟩ | ⟨g2, _, _, rfl, _, hh2, _⟩
    · cases hc
    · simp [Value.ownBlock] at hg hc
      subst hg
      subst hc
      rw [hh1] at hh2
      simp at hh2
      exact he hh2.2
theorem row_grown {w w' : World} {base b' : Nat} {e1 s1 e sz : Nat} {v kv : Value} {m n : Nat} {ys xs : List Value} (hg : w.grownBy w' v.ownBlock) (hv : w.ownsRow b' e1 s1 v m ys) (he : e ≠ e1) (h : w.ownsRow base e sz kv n xs) : w'.ownsRow base e sz kv n xs := by
  have hne := fun g => own_ne (g := g) h hv he
  refine ⟨h.1, ?_⟩
  rcases h.2 with h0 | ⟨g, cap, cur, hv1, h1, hh, h2⟩
  · exact .inl h0
  · refine .inr ⟨g, cap, cur, hv1, h1, ?_, h2⟩
    rw [hg.block g (Array.getElem?_eq_some_iff.1 hh).1 (fun hc => hne g (by rw [hv1]; rfl) hc.symm)]
    exact hh
theorem FuncsIn.moved {w w' : World} {base p : Nat} {v v' fv : Value} {k k' pvs : List Value} {fs : List Fd} {ns : List Nd} (h : FuncsIn w base fv pvs fs) (hm : Moved p w v k w' v' k') (hN : NodesIn w base v k ns) (hp : p < base) : FuncsIn w' base fv pvs fs :=
  ⟨h.len, row_frame hm.block hp hN.own (by decide) h.own, fun i f pv h1 h2 => row_frame hm.block hp hN.own (by decide) (h.par i f pv h1 h2)⟩
theorem FuncsIn.setP {w : World} {base p : Nat} {fv : Value} {pvs : List Value} {fs : List Fd} (h : FuncsIn w base fv pvs fs) (hp : p < base) (j : Nat) (u : Value) : FuncsIn (w.setCell ⟨p, j, none⟩ u) base fv pvs fs :=
  ⟨h.len, owns_kept h.own ((Kept.refl p w).setP u) hp, fun i f pv h1 h2 => owns_kept (h.par i f pv h1 h2) ((Kept.refl p w).setP u) hp⟩
theorem FuncsIn.app {w w' : World} {base : Nat} {fv fv' : Value} {pvs : List Value} {fs : List Fd} (h : FuncsIn w base fv pvs fs) {f : Fd} {pv : Value} (hpv : w.ownsRow base 84 3 pv f.pars.length (prCells f.pars)) (hg : w.grownBy w' fv.ownBlock)
    (ho : w'.ownsRow base 49 5 fv' (fs.length + 1) (fdsCells fs pvs ++ fdCells f pv)) : FuncsIn w' base fv' (pvs ++ [pv]) (fs ++ [f]) := by
  refine ⟨by simp [h.len], by rw [fdsCells_snoc _ _ _ _ h.len, List.length_append]; exact ho, ?_⟩
  intro i m kv h1 h2
  rw [List.getElem?_append] at h1 h2
  rw [h.len] at h2
  by_cases hi : i < fs.length
  · rw [if_pos hi] at h1 h2
    exact row_grown hg h.own (by decide) (h.par i m kv h1 h2)
  · rw [if_neg hi] at h1 h2
    have h0 : i - fs.length = 0 := by
      rcases Nat.eq_zero_or_pos (i - fs.length) with h0 | h0
      · exact h0
      · rw [List.getElem?_eq_none (by simp; omega)] at h1; cases h1
    rw [h0] at h1 h2
    simp at h1 h2
    subst h1
    subst h2
    exact row_grown hg h.own (by decide) hpv
/-- The functions' row lies off the nodes and their kids. -/
theorem FuncsIn.off {w : World} {base : Nat} {fv v : Value} {pvs k : List Value} {fs : List Fd} {ns : List Nd} (h : FuncsIn w base fv pvs fs) (hN : NodesIn w base v k ns) {g : Nat} (hg : fv.ownBlock = some g) : Off g v k := by
  refine ⟨own_ne h.own hN.own (by decide) hg, fun x hx => ?_⟩
  obtain ⟨i, hi⟩ := List.getElem?_of_mem hx
  have hl := (List.getElem?_eq_some_iff.1 hi).1
  have hn : ∃ n, ns[i]? = some n := ⟨ns[i]'(by rw [← hN.len]; exact hl), by simp⟩
  obtain ⟨n, hn⟩ := hn
  exact own_ne h.own (hN.kid i n x hn hi) (by decide) hg
/-- The parser behind a function more. -/
theorem Par.setFns {E : Env} {w : World} {v : Value} {kvs : List Value} {st : St} (h : Par E w v kvs st) (fv : Value) : Par { E with fv := fv } (w.setCell ⟨E.p, 4, none⟩ fv) v kvs st := by
  have hp := h.tl1
  have ho := h.og1
  have hl := h.lt
  have hpb := h.pb
  have hx : ∀ g j', g < E.p → (w.setCell ⟨E.p, 4, none⟩ fv).cell? ⟨g, j', none⟩ = w.cell? ⟨g, j', none⟩ := fun g j' hg => World.cell?_setCell_other _ _ _ _ (by intro h; simp at h <;> omega)
  have hy : ∀ j, j ≠ 4 → (w.setCell ⟨E.p, 4, none⟩ fv).cell? ⟨E.p, j, none⟩ = w.cell? ⟨E.p, j, none⟩ := fun j hj => World.cell?_setCell_other _ _ _ _ (by intro h; simp at h <;> omega)
  exact { lt := by simpa [World.setCell] using h.lt, pb := h.pb, bs := by simpa [World.setCell] using h.bs, tl1 := h.tl1, og1 := h.og1, ogv := h.ogv, ehi := h.ehi, dhi := h.dhi
          c0 := (hy 0 (by omega)).trans h.c0, c1 := (hy 1 (by omega)).trans h.c1, c2 := (hy 2 (by omega)).trans h.c2, c3 := (hy 3 (by omega)).trans h.c3
          c4 := World.cell?_setCell_same' _ _ _ (by rw [h.c4]; rfl)
          fz := fun i => by rw [World.frozen?_setCell]; exact h.fz i
          tk := h.tk.same fun o => hx _ _ h.tl1
          gl := ⟨h.gl.1, h.gl.2.same fun g hg => hx g 0 (by have := h.gl.1; show g < E.p; omega)⟩
          ops := fun i o hi => by rw [hx _ _ h.og1, hx _ _ h.og1, hx _ _ h.og1, hx _ _ h.og1]; exact h.ops i o hi
          good := h.good, nds := h.nds.kept ((Kept.refl E.p w).setP fv) h.pb, sum := h.sum, opb := h.opb, ssz := h.ssz }
/-- From w to w' blocks of w turn in the parser's own, in the nodes' row and in the functions' alone. -/
structure MovedF (p : Nat) (w : World) (v fv : Value) (w' : World) (v' fv' : Value) : Prop where
  os : w'.os = w.os
  tape : w'.tape = w.tape
  output : w'.output = w.output
  size : w.heap.size ≤ w'.heap.size
  block : ∀ k, k < w.heap.size → k ≠ p → v.ownBlock ≠ some k → fv.ownBlock ≠ some k → w'.heap[k]? = w.heap[k]?
  same : v'.ownBlock = v.ownBlock ∨ ∃ g, v'.ownBlock = some g ∧ w.heap.size ≤ g
  samef : fv'.ownBlock = fv.ownBlock ∨ ∃ g, fv'.ownBlock = some g ∧ w.heap.size ≤ g
theorem MovedF.refl (p : Nat) (w : World) (v fv : Value) : MovedF p w v fv w v fv := ⟨rfl, rfl, rfl, Nat.le_refl _, fun _ _ _ _ _ => rfl, .inl rfl, .inl rfl⟩
theorem MovedF.trans {p : Nat} {w w1 w2 : World} {v v1 v2 f f1 f2 : Value} (h : MovedF p w v f w1 v1 f1) (g : MovedF p w1 v1 f1 w2 v2 f2) : MovedF p w v f w2 v2 f2 := by
  have step : ∀ {a a1 a2 : Value}, (a1.ownBlock = a.ownBlock ∨ ∃ g, a1.ownBlock = some g ∧ w.heap.size ≤ g) → (a2.ownBlock = a1.ownBlock ∨ ∃ g, a2.ownBlock = some g ∧ w1.heap.size ≤ g) → (a2.ownBlock = a.ownBlock ∨ ∃ g, a2.ownBlock = some g ∧ w.heap.size ≤ g) := by
    intro a a1 a2 h1 h2
    rcases h2 with e | ⟨q, e, hq⟩
    · rcases h1 with e' | ⟨q, e', hq⟩
      · exact .inl (e.trans e')
      · exact .inr ⟨q, e.trans e', hq⟩
    · exact .inr ⟨q, e, Nat.le_trans h.size hq⟩
  have keep : ∀ {a a1 : Value} {b : Nat}, (a1.ownBlock = a.ownBlock ∨ ∃ g, a1.ownBlock = some g ∧ w.heap.size ≤ g) → b < w.heap.size → a.ownBlock ≠ some b → a1.ownBlock ≠ some b := by
    intro a a1 b h1 hb hn
    rcases h1 with e | ⟨q, e, hq⟩
    · rw [e]; exact hn
    · rw [e]; intro hc; cases hc; omega
  exact ⟨g.os.trans h.os, g.tape.trans h.tape, g.output.trans h.output, Nat.le_trans h.size g.size,
    fun b hb hp hv hf => (g.block b (Nat.lt_of_lt_of_le hb h.size) hp (keep h.same hb hv) (keep h.samef hb hf)).trans (h.block b hb hp hv hf), step h.same g.same, step h.samef g.samef⟩
theorem Moved.toF {p : Nat} {w w' : World} {v v' : Value} {k k' : List Value} (h : Moved p w v k w' v' k') (fv : Value) : MovedF p w v fv w' v' fv :=
  ⟨h.os, h.tape, h.output, h.size, fun b hb hp hv _ => h.block b hb hp hv, h.same, .inl rfl⟩
/-- One function more: what memory says then. -/
theorem fns_app {E : Env} {w W w2 : World} {v fv' : Value} {k pvs : List Value} {st : St} {fs : List Fd} {f : Fd} {pv : Value} (h : Par E w v k st) (hF : FuncsIn w E.base E.fv pvs fs) (hpv : w.ownsRow E.base 84 3 pv f.pars.length (prCells f.pars)) (hW : Below w.heap.size w W)
    (ho : w2.ownsRow E.base 49 5 fv' (fs.length + 1) (fdsCells fs pvs ++ fdCells f pv)) (hg : W.grownBy w2 E.fv.ownBlock) (hs : fv'.ownBlock = E.fv.ownBlock ∨ fv'.ownBlock = some W.heap.size) :
    Par { E with fv := fv' } (w2.setCell ⟨E.p, 4, none⟩ fv') v k st ∧ FuncsIn (w2.setCell ⟨E.p, 4, none⟩ fv') E.base fv' (pvs ++ [pv]) (fs ++ [f]) ∧ MovedF E.p w v E.fv (w2.setCell ⟨E.p, 4, none⟩ fv') v fv' ∧ w.grownBy w2 E.fv.ownBlock := by
  have hgw : w.grownBy w2 E.fv.ownBlock := ⟨hg.os.trans hW.os, hg.tape.trans hW.tape, hg.output.trans hW.output, Nat.le_trans hW.size hg.size, fun i hi hr => (hg.block i (Nat.lt_of_lt_of_le hi hW.size) hr).trans (hW.block i hi)⟩
  have hpb := h.pb
  have hP2 := h.grown hgw (fun q hq => ⟨by have := (hF.own.lt q hq).1; omega, hF.off h.nds hq⟩)
  refine ⟨hP2.setFns fv', (hF.app hpv hgw ho).setP h.pb 4 fv', ?_, hgw⟩
  refine ⟨hgw.os, hgw.tape, hgw.output, by simpa [World.setCell] using hgw.size, fun b hb hp _ hf => (Below.heap_setCell _ _ _ _ hp).trans (hgw.block b hb (fun hc => hf hc.symm)), .inl rfl, ?_⟩
  rcases hs with hs | hs
  · exact .inl hs
  · exact .inr ⟨_, hs, hW.size⟩
end Go.Proofs.YtbejgachdhfakaaGreatDoor
