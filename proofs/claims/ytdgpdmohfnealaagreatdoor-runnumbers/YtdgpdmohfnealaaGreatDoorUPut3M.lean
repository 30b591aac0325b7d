/- append of as many noughts onto a row of one's own. -/
import Derived.Test.YtdgpdmohfnealaaGreatDoorGLibM
import Derived.Lib.AppendZerosOnto
import Derived.Maps.AppendAt
import Derived.Test.YtdgpdmohfnealaaGreatDoorURowM
namespace Go.Proofs.YtdgpdmohfnealaaGreatDoor
open Go.RowKit

theorem zeroCells_one (z : Value) (n : Nat) : (Builtin.zeroCells #[z] n).toList = List.replicate n z := by
  apply List.ext_getElem?
  intro j
  by_cases hj : j < n
  · simp [Builtin.zeroCells, hj, Nat.mod_one]
  · simp [Builtin.zeroCells, hj]
theorem append_zeros {P : Program} (w : World) (base : Nat) (t tn ty e : TypeId) (i : TypeInfo) (z : Value) (kn : IntKind) (ht : P.underlying t = some (.slice e)) (htn : P.underlying tn = some (.int kn)) (hi : P.info? e = some i) (hz : i.zero = some z) (hzc : z.cells = #[z]) (hz1 : z.oneCell' = true) (hs1 : i.size = 1) (hby : i.bytes = 8)
    (v : Value) (n : Nat) (xs : List Value) (hown : w.ownsRow base e 1 v n xs) (m : Nat) (h0 : 0 < m) (hb : n + m ≤ 10000000000) (hbase : base ≤ w.heap.size) :
    ∃ v' w', (Builtin.append_ #[t, tn] ty #[v, .int .i64 (m : Int)]).run P w = .ok v' w' ∧ w'.ownsRow base e 1 v' (n + m) (xs ++ List.replicate m z) ∧ w.grownBy w' v.ownBlock ∧ (v'.ownBlock = v.ownBlock ∨ v'.ownBlock = some w.heap.size) := by
  have hmx : n + m ≤ maxLen := by unfold maxLen; omega
  have hlen : (xs ++ List.replicate m z).length = (n + m) * 1 := by rw [List.length_append, hown.1, List.length_replicate]; omega
  have grown : ∀ (old : Nat) (row : Option Nat),
      (w.drew.alloc (.cells (xs.toArray ++ Builtin.zeroCells z.cells m ++ Builtin.zeroCells z.cells (grownCap w (n + m) old e - (n + m))) e)).ownsRow base e 1
        (.slice (some ⟨w.heap.size, 0, none⟩) (n + m) (grownCap w (n + m) old e)) (n + m) (xs ++ List.replicate m z) ∧
      w.grownBy (w.drew.alloc (.cells (xs.toArray ++ Builtin.zeroCells z.cells m ++ Builtin.zeroCells z.cells (grownCap w (n + m) old e - (n + m))) e)) row := by
    intro old row
    have hge := grownCap_ge w (n + m) old e
    have hcm : grownCap w (n + m) old e ≤ maxLen := grownCap_le_maxLen w (n + m) old e hmx
    refine ⟨⟨hlen, .inr ⟨w.heap.size, _, _, rfl, hbase, heap_alloc_new w.drew _, hge, hcm, ?_, ?_⟩⟩, ⟨rfl, rfl, rfl, by simp, fun k hk _ => _root_.Go.heap_alloc_old w.drew _ hk⟩⟩
    · rw [hzc]
      simp only [Array.size_append, List.size_toArray, size_zeroCells, hown.1]
      simp
      omega
    · rw [hzc]
      simp only [Array.toList_append, zeroCells_one]
      rw [← hlen]
      exact List.take_left
  have hks : 0 < i.size := by omega
  rcases hown.2 with ⟨rfl, rfl⟩ | ⟨g, cap, cur, rfl, hbg, hg, hnc, hcm, hcs, htake⟩
  · have hx : xs = [] := List.eq_nil_of_length_eq_zero (by simpa using hown.1)
    subst hx
    have hr := Lib.run_append_nil_zeros (P := P) w t tn ty e i z .i64 kn ht htn hi hz m h0 hks (by omega) (by rw [hby]; omega)
    have hgr := grown 0 (Value.ownBlock (.slice none 0 0))
    simp only [Nat.zero_add, List.nil_append] at hgr ⊢
    rw [show (([] : List Value).toArray ++ Builtin.zeroCells z.cells m) = Builtin.zeroCells z.cells m from Array.empty_append] at hgr
    exact ⟨_, _, hr, hgr.1, hgr.2, Or.inr rfl⟩
  · by_cases hroom : n + m ≤ cap
    · have hfit : n * 1 + (List.replicate m z).length ≤ cur.size := by rw [hcs, List.length_replicate]; omega
      have hst := run_storeCells_at P g (n * 1) e (List.replicate m z) 0 cur w hg (by simpa using hfit) (by intro u hu; rw [List.eq_of_mem_replicate hu]; exact hz1)
      have hw : IntKind.i64.wrap (m : Int) = m := by rw [IntKind.wrap_i64]; omega
      have hneg : ¬ ((m : Int) < 0) := by omega
      have h48i : ¬ (281474976710656 < (m : Int) * ((8 : Nat) : Int)) := by omega
      have hm0 : m ≠ 0 := by omega
      have hzl : (Builtin.zeroCells #[z] m).toList = List.replicate m z := zeroCells_one z m
      have hr : (Builtin.append_ #[t, tn] ty #[.slice (some ⟨g, 0, none⟩) n cap, .int .i64 (m : Int)]).run P w = .ok (.slice (some ⟨g, 0, none⟩) (n + m) cap) (w.setRow g (cur.toList.take (n * 1) ++ List.replicate m z ++ cur.toList.drop (n * 1 + (List.replicate m z).length)).toArray) := by
        simp only [Nat.add_zero] at hst
        simp [Builtin.append_, run_underlying ht, run_underlying htn, sizeOf, typeInfo, zeroValue, hi, hz, hs1, hby, asInt, asIntOf, hw, hneg, hm0, hroom, hzc, hzl, Addr.add_lit]
        simp at hst
        first | exact hst | (rw [if_neg (by omega)]; simp [hst]) | simp [hst]
      refine ⟨_, _, hr, ⟨hlen, .inr ⟨g, cap, _, rfl, hbg, setRow_heap w g cur _ e _ hg, hroom, hcm, ?_, ?_⟩⟩, ⟨rfl, rfl, rfl, by simp, fun k _ hk => setRow_other w g k _ (fun e => hk (by simp [Value.ownBlock, e]))⟩, Or.inl rfl⟩
      · simp only [List.size_toArray, List.length_append, List.length_take, List.length_drop, Array.length_toList]
        omega
      · rw [htake, ← hlen]
        exact List.take_left
    · have holds : ∀ j u, xs[j]? = some u → w.drew.cell? ((⟨g, 0, none⟩ : Addr).add j) = some u := hown.cells (g := g) rfl
      have hfc := run_firstCells_some (P := P) w.drew i.size n ⟨g, 0, none⟩ n cap xs (by rw [hs1]; exact hown.1) holds
      have hr := Lib.run_append_grow_zeros (P := P) w t tn ty e i z .i64 kn ht htn hi hz (some ⟨g, 0, none⟩) n cap xs hfc m h0 hks (by omega) (by omega) (by rw [hby]; omega) (growslice_fits (by omega) (by rw [hby]; omega))
      have hgr := grown cap (Value.ownBlock (.slice (some ⟨g, 0, none⟩) n cap))
      exact ⟨_, _, hr, hgr.1, hgr.2, Or.inr rfl⟩
end Go.Proofs.YtdgpdmohfnealaaGreatDoor
/- Elements of arrays: read, put. -/
namespace Go.Proofs.YtdgpdmohfnealaaGreatDoor
open Go.RowKit

theorem St.set_top (S : St) (c : Nat) (x : Int) : (S.set c x).top = S.top ∧ (S.set c x).calls = S.calls ∧ (S.set c x).rows = S.rows ∧ (S.set c x).shows = S.shows := by
  unfold St.set
  split <;> exact ⟨rfl, rfl, rfl, rfl⟩
theorem Asks.set {E : Env} {S : St} {m : Nat} {l : List Int} (h : Asks E S m l) {c : Nat} (hc : c < l.length) (x : Int) : ∃ l', Asks E (S.set c x) m l' ∧ l'.length = l.length := by
  have hgl : S.top.g < S.nw.length := (List.getElem?_eq_some_iff.1 h.hg).1
  obtain ⟨e1, e2, _, _⟩ := S.set_top c x
  by_cases h0 : S.find c = 0
  · have e : S.set c x = { S with kept := S.kept ++ [⟨c, ((S.row S.top.g).getD c 0).toNat, x⟩], nw := S.nw.set S.top.g (some ((S.row S.top.g).set c ((S.kept.length : Int) + 1))) } := by unfold St.set; rw [if_pos h0]
    refine ⟨l.set c ((S.kept.length : Int) + 1), ⟨by rw [e2]; exact h.hm, h.hmb, ?_, ?_⟩, by simp⟩
    · rw [e1, e, row_eq h.hg]
      show (S.nw.set S.top.g _)[S.top.g]? = _
      rw [List.getElem?_set, if_pos rfl, if_pos hgl]
    · intro d
      have hk : (S.set c x).kept.length = S.kept.length + 1 := by rw [e]; simp
      rw [hk]
      have h1 := h.nn d
      by_cases hd : c = d
      · subst hd
        have : (l.set c ((S.kept.length : Int) + 1)).getD c 0 = (S.kept.length : Int) + 1 := by simp [List.getD, hc]
        rw [this]
        omega
      · have : (l.set c ((S.kept.length : Int) + 1)).getD d 0 = l.getD d 0 := by simp [List.getD, hd]
        rw [this]
        omega
  · have e : S.set c x = { S with kept := S.kept.set (S.find c - 1) { S.kept.getD (S.find c - 1) default with word := x } } := by unfold St.set; rw [if_neg h0]
    refine ⟨l, ⟨by rw [e2]; exact h.hm, h.hmb, by rw [e1, e]; exact h.hg, fun d => ?_⟩, rfl⟩
    have hk : (S.set c x).kept.length = S.kept.length := by rw [e]; simp
    rw [hk]
    exact h.nn d
/-- An element of an array of the last call. -/
def St.elem (G : Gr) (S : St) (r : Nat) (i : Int) : Int :=
  if S.find (G.vars.length + r) = 0 then 0
  else if i < (G.arrs.getD r default).2 then S.rows.getD ((S.kept.getD (S.find (G.vars.length + r) - 1) default).word.toNat + i.toNat) 0 else 0
set_option maxRecDepth 100000 in
set_option maxHeartbeats 1000000 in
theorem elem_any {E : Env} {w : World} {V : Vals} {ss : List Slot} {S : St} (h : Rn E w V ss S) {m : Nat} {l : List Int} {r : Nat} (ha : AsksA E S m l r) {sz : Nat} (hsz : ((E.P.getD S.top.g default).arrs.getD r default).2 = (sz : Int)) (hs0 : 0 < sz) (hs1 : sz ≤ 256)
    (hat : ∀ i, S.find ((E.P.getD S.top.g default).vars.length + r) = i + 1 → ∃ f : Nat, (S.kept.getD i default).word = (f : Int) ∧ f + sz ≤ S.rows.length) (x : Nat) (hx : x < 18446744073709551616) :
    Calls Tryz.prog 37 #[ptr E.B, .int .i64 (r : Int), .int .u64 (x : Int)] w fun e w' => e = .returned (.int .u64 (S.elem (E.P.getD S.top.g default) r (x : Int))) ∧ ∃ k, w' = w.drewN k := by
  by_cases h0 : S.find ((E.P.getD S.top.g default).vars.length + r) = 0
  · have HR : Hid (∀ W k, W = w.drewN k → Calls Tryz.prog 39 #[ptr E.B, .int .i64 (r : Int)] W fun e w' => e = .returned (.slice none 0 0) ∧ ∃ k, w' = W.drewN k) := fun W k hW => by subst hW; exact row_none (h.drewN k) ha h0
    have HV : Hid (S.elem (E.P.getD S.top.g default) r (x : Int) = 0) := by show _ = _; unfold St.elem; rw [if_pos h0]
    generalize S.elem (E.P.getD S.top.g default) r (x : Int) = y at *
    have hxn : ¬ (x : Int) < 0 := by omega
    clear h ha hat hsz h0 hx
    generalize E.B = B at *
    go_enter Tryz.func37, Tryz.ntmps37
    go_wp2_with (go_at_call 39; refine Calls.mono (HR.out _ 0 rfl) ?_; rintro e w1 ⟨rfl, kq, rfl⟩)
    go_ret
    exact ⟨ret_u64 HV.out.symm, _, rfl⟩
  · obtain ⟨i, hi⟩ : ∃ i, S.find ((E.P.getD S.top.g default).vars.length + r) = i + 1 := ⟨_ - 1, (Nat.succ_pred_eq_of_ne_zero h0).symm⟩
    obtain ⟨f, hf, hfl⟩ := hat i hi
    obtain ⟨rb, rc, hrv, hrc, hrm, hrb, rcell, rfz⟩ := h.words (by omega)
    have HR : Hid (∀ W k, W = w.drewN k → Calls Tryz.prog 39 #[ptr E.B, .int .i64 (r : Int)] W fun e w' => e = .returned (.slice (some ⟨rb, f, none⟩) sz (rc - f)) ∧ ∃ k, w' = W.drewN k) := fun W k hW => by subst hW; exact row_some (h.drewN k) ha hi hf hsz hs0 hfl hrv hrc
    have HV : Hid (S.elem (E.P.getD S.top.g default) r (x : Int) = if (x : Int) < (sz : Int) then S.rows.getD (f + x) 0 else 0) := by
      show _ = _
      unfold St.elem
      rw [if_neg h0, hsz, hi, Nat.add_sub_cancel, hf, Int.toNat_natCast, Int.toNat_natCast]
    generalize S.elem (E.P.getD S.top.g default) r (x : Int) = y at *
    by_cases hlt : x < sz
    · have hlt' : (x : Int) < sz := by omega
      have rcx := rcell (f + x) (by omega)
      have HY : Hid (y = S.rows.getD (f + x) 0) := by show _ = _; rw [HV.out, if_pos hlt']
      have hsb : (sz : Int) ≤ 256 := by omega
      clear h ha hat hsz h0 hx hi hf hfl hrv hrc hrm rcell rfz HV
      generalize E.B = B at *
      generalize S.rows.getD (f + x) 0 = q at *
      generalize rc - f = rcf at *
      go_enter Tryz.func37, Tryz.ntmps37
      go_wp2_with (go_at_call 39; refine Calls.mono (HR.out _ 0 rfl) ?_; rintro e w1 ⟨rfl, kq, rfl⟩)
      go_ret
      exact ⟨ret_u64 HY.out.symm, _, rfl⟩
    · have hlt' : ¬ (x : Int) < sz := by omega
      have HY : Hid (y = 0) := by show _ = _; rw [HV.out, if_neg hlt']
      have hsb : (sz : Int) ≤ 256 := by omega
      clear h ha hat hsz h0 hx hi hf hfl hrv hrc hrm rcell rfz HV
      generalize E.B = B at *
      generalize rc - f = rcf at *
      go_enter Tryz.func37, Tryz.ntmps37
      go_wp2_with (go_at_call 39; refine Calls.mono (HR.out _ 0 rfl) ?_; rintro e w1 ⟨rfl, kq, rfl⟩)
      go_ret
      exact ⟨ret_u64 HY.out.symm, _, rfl⟩
end Go.Proofs.YtdgpdmohfnealaaGreatDoor
/- An element is put: what is kept of the rows. -/
namespace Go.Proofs.YtdgpdmohfnealaaGreatDoor
open Go.RowKit

/-- An element is put. -/
def St.room (G : Gr) (S : St) (r : Nat) : St :=
  if S.find (G.vars.length + r) = 0 then { S.set (G.vars.length + r) (S.rows.length : Int) with rows := S.rows ++ List.replicate (G.arrs.getD r default).2.toNat 0 } else S
def St.poke (G : Gr) (S : St) (r : Nat) (i x : Int) : St := { S with rows := S.rows.set ((S.kept.getD (S.find (G.vars.length + r) - 1) default).word.toNat + i.toNat) x }
def St.put (G : Gr) (S : St) (r : Nat) (i x : Int) : St := if (G.arrs.getD r default).2 ≤ i then S else (S.room G r).poke G r i x
theorem find_set {S : St} {l : List Int} (hg : S.nw[S.top.g]? = some (some l)) {c : Nat} (hc : c < l.length) (x : Int) (h0 : S.find c = 0) (hk : S.top.k ≤ S.kept.length) : (S.set c x).find c = S.kept.length + 1 ∧ (S.set c x).kept.getD S.kept.length default = ⟨c, ((S.row S.top.g).getD c 0).toNat, x⟩ := by
  have hgl : S.top.g < S.nw.length := (List.getElem?_eq_some_iff.1 hg).1
  have e : S.set c x = { S with kept := S.kept ++ [⟨c, ((S.row S.top.g).getD c 0).toNat, x⟩], nw := S.nw.set S.top.g (some ((S.row S.top.g).set c ((S.kept.length : Int) + 1))) } := by unfold St.set; rw [if_pos h0]
  obtain ⟨e1, _, _, _⟩ := S.set_top c x
  refine ⟨?_, ?_⟩
  · unfold St.find
    rw [e1]
    have er : (S.set c x).row S.top.g = l.set c ((S.kept.length : Int) + 1) := by
      apply row_eq
      rw [e, row_eq hg]
      show (S.nw.set S.top.g _)[S.top.g]? = _
      rw [List.getElem?_set, if_pos rfl, if_pos hgl]
    rw [er]
    have e3 : (l.set c ((S.kept.length : Int) + 1)).getD c 0 = (S.kept.length : Int) + 1 := by simp [List.getD, hc]
    rw [e3, if_pos (by omega)]
    omega
  · rw [e]
    simp [List.getD]
/-- An element is another word now. -/
theorem Rn.poke {E : Env} {w : World} {V : Vals} {ss : List Slot} {S : St} (h : Rn E w V ss S) {rb rc : Nat} (hrv : V.rv = .slice (some ⟨rb, 0, Option.none⟩) S.rows.length rc) (j : Nat) (x : Int) :
    ∃ ss', Rn E (w.setCell ⟨rb, j, Option.none⟩ (wordV x)) V ss' { S with rows := S.rows.set j x } := by
  have h4 := h.s4
  rw [hrv] at h4
  have hB := (h.heap.lt h4).1
  have hh := h.heap.store h4 j (wordV x)
  have e1 : (S.rows.map wordV).set j (wordV x) = (S.rows.set j x).map wordV := by rw [List.map_set]
  rw [e1] at hh
  refine ⟨_, below_set h.low hB _ _, h.prog, hh, set_other h.s0 (by omega), set_other h.s1 (by omega), set_other h.s2 (by omega), set_other h.s3 (by omega), ?_, ?_, set_other h.s6 (by omega), h.cll, h.nwl, ?_, ?_⟩
  · rw [hrv, List.length_set]
    exact set_self h4
  · obtain ⟨ws, hw⟩ := h.s5
    exact ⟨ws, set_other hw (by omega)⟩
  · intro j l hl
    obtain ⟨a, N, h1, h2, h3⟩ := h.news j l hl
    exact ⟨a, N, h1, set_other h2 (by omega), h3.set (by omega) _⟩
  · intro j hj
    obtain ⟨h1, h2⟩ := h.none j hj
    exact ⟨h1, set_other h2 (by omega)⟩
/-- Elements more. -/
theorem Rn.widen {E : Env} {W w2 : World} {V : Vals} {ss : List Slot} {S : St} (h : Rn E W V ss S) {rv' : Value} {xs : List Int}
    (ho : w2.ownsRow E.w0.heap.size 24 1 rv' (S.rows.length + xs.length) (S.rows.map wordV ++ xs.map wordV)) (hgr : W.grownBy w2 V.rv.ownBlock) (hat : rv'.ownBlock = V.rv.ownBlock ∨ rv'.ownBlock = some W.heap.size) :
    ∃ ss', Rn E (w2.setCell ⟨E.B, 6, Option.none⟩ rv') { V with rv := rv' } ss' { S with rows := S.rows ++ xs } := by
  have ho' : (⟨rv', 24, 1, S.rows.length + xs.length, S.rows.map wordV ++ xs.map wordV⟩ : Slot).At w2 E.w0.heap.size := ho
  have H1 := h.heap.grow h.s4 ho' hgr hat
  have L1 : Below E.w0.heap.size E.w0 w2 := below_grown h.low hgr (fun g hg => ((h.heap.own 4 _ h.s4).lt g hg).1)
  have z1 : (ss.set 4 ⟨rv', 24, 1, S.rows.length + xs.length, S.rows.map wordV ++ xs.map wordV⟩)[0]? = _ := set_other h.s0 (by omega)
  have H2 := H1.store z1 6 rv'
  have L2 := below_set L1 (H1.lt z1).1 6 rv'
  refine ⟨_, L2, h.prog, H2, ?_, ?_, ?_, ?_, ?_, ?_, ?_, h.cll, h.nwl, ?_, ?_⟩
  · exact set_self z1
  · exact set_other (set_other h.s1 (by omega)) (by omega)
  · exact set_other (set_other h.s2 (by omega)) (by omega)
  · exact set_other (set_other h.s3 (by omega)) (by omega)
  · have e1 : S.rows.map wordV ++ xs.map wordV = (S.rows ++ xs).map wordV := by rw [List.map_append]
    have e2 : S.rows.length + xs.length = (S.rows ++ xs).length := by rw [List.length_append]
    have := set_other (b := (⟨.slice (some ⟨E.B, 0, Option.none⟩) 1 1, 64, 14, 1, (rnCells E V S).set 6 rv'⟩ : Slot)) (set_self (b := (⟨rv', 24, 1, S.rows.length + xs.length, S.rows.map wordV ++ xs.map wordV⟩ : Slot)) h.s4) (i := 0) (by omega)
    rw [this, e1, e2]
  · obtain ⟨ws, hw⟩ := h.s5
    exact ⟨ws, set_other (set_other hw (by omega)) (by omega)⟩
  · exact set_other (set_other h.s6 (by omega)) (by omega)
  · intro i q hq
    obtain ⟨a2, N2, h1, h2, h3⟩ := h.news i q hq
    exact ⟨a2, N2, h1, set_other (set_other h2 (by omega)) (by omega), (h3.set (by omega) _).set (by omega) _⟩
  · intro i hi
    obtain ⟨h1, h2⟩ := h.none i hi
    exact ⟨h1, set_other (set_other h2 (by omega)) (by omega)⟩
/-- append of noughts, a step of a plain region. -/
theorem wpList_append_zeros {P : Program} {ops : Array Oper} {rest : List Oper} {o : Oper} {a : Act} {w : World} {Q : Exit → Act → World → Prop} (hgd : o.guard = none) (s x : Operand) (t tn : TypeId)
    (ho : o.op = .call { callee := .builtin .append, args := #[s, x], argTypes := #[t, tn] })
    (base : Nat) (e : TypeId) (i : TypeInfo) (z : Value) (kn : IntKind) (ht : P.underlying t = some (.slice e)) (htn : P.underlying tn = some (.int kn)) (hi : P.info? e = some i) (hz : i.zero = some z) (hzc : z.cells = #[z]) (hz1 : z.oneCell' = true) (hs1 : i.size = 1) (hby : i.bytes = 8)
    (v : Value) (n : Nat) (xs : List Value) (hs : a.eval s = v) (hown : w.ownsRow base e 1 v n xs) (m : Nat) (hx : a.eval x = .int .i64 (m : Int)) (h0 : 0 < m) (hb : n + m ≤ 10000000000) (hbase : base ≤ w.heap.size)
    (h : ∀ v' w', w'.ownsRow base e 1 v' (n + m) (xs ++ List.replicate m z) → w.grownBy w' v.ownBlock → (v'.ownBlock = v.ownBlock ∨ v'.ownBlock = some w.heap.size) → wpList P ops Q rest (a.put o.dst v') w') :
    wpList P ops Q (o :: rest) a w := by
  refine wpList_plain hgd fun K hK => ?_
  obtain ⟨v', w', hr, h2, h3, h5⟩ := append_zeros (P := P) w base t tn o.type e i z kn ht htn hi hz hzc hz1 hs1 hby v n xs hown m h0 hb hbase
  unfold Oper.wp execOp
  simp only [ho, resolve, invoke, builtin, Sem.run_bind, Sem.run_pure, Result.andThen_ok, List.map_toArray, List.map_cons, List.map_nil, hs, hx, hr]
  exact hK _ _ (h v' w' h2 h3 h5)
end Go.Proofs.YtdgpdmohfnealaaGreatDoor
/- An element is put: the walks. -/
namespace Go.Proofs.YtdgpdmohfnealaaGreatDoor
open Go.RowKit

theorem infoW : (Tryz.prog.info? 24).map (fun i => (i.zero, i.size, i.bytes)) = some (some (.int .u64 0), 1, 8) := by kernel_rfl
set_option maxRecDepth 100000 in
set_option maxHeartbeats 1000000 in
theorem put_out {E : Env} {w : World} {V : Vals} {ss : List Slot} {S : St} (h : Rn E w V ss S) {m : Nat} {l : List Int} {r : Nat} (ha : AsksA E S m l r) {sz : Nat} (hsz : ((E.P.getD S.top.g default).arrs.getD r default).2 = (sz : Int)) (hs1 : sz ≤ 256) (x : Nat) (hx : sz ≤ x) (y : Int) :
    Calls Tryz.prog 38 #[ptr E.B, .int .i64 (r : Int), .int .u64 (x : Int), .int .u64 y] w fun e w' => e = .returned (.tuple #[]) ∧ ∃ k, w' = w.drewN k := by
  have HS : Hid (∀ W k, W = w.drewN k → Calls Tryz.prog 57 #[ptr E.B, .int .i64 (r : Int)] W fun e w' => e = .returned (.int .i64 (sz : Int)) ∧ ∃ k, w' = W.drewN k) := fun W k hW => by subst hW; rw [← hsz]; exact size_any (h.drewN k) ha.hm ha.hmb ha.gl r ha.rl
  have hx' : (sz : Int) ≤ x := by omega
  have hsb : (sz : Int) ≤ 256 := by omega
  clear h ha hsz hs1 hx
  generalize E.B = B at *
  go_enter Tryz.func38, Tryz.ntmps38
  go_wp2_with (go_at_call 57; refine Calls.mono (HS.out _ 0 rfl) ?_; rintro e w1 ⟨rfl, kq, rfl⟩)
  refine bodyPost_ret (results_none rfl _ _ _) rfl ?_
  exact ⟨rfl, _, rfl⟩
set_option maxRecDepth 100000 in
set_option maxHeartbeats 1000000 in
theorem put_in {E : Env} {w : World} {V : Vals} {ss : List Slot} {S : St} (h : Rn E w V ss S) {m : Nat} {l : List Int} {r : Nat} (ha : AsksA E S m l r) {sz : Nat} (hsz : ((E.P.getD S.top.g default).arrs.getD r default).2 = (sz : Int)) (hs0 : 0 < sz) (hs1 : sz ≤ 256)
    {i f : Nat} (hi : S.find ((E.P.getD S.top.g default).vars.length + r) = i + 1) (hf : (S.kept.getD i default).word = (f : Int)) (hfl : f + sz ≤ S.rows.length) (x : Nat) (hx : x < sz) (y : Int) :
    Calls Tryz.prog 38 #[ptr E.B, .int .i64 (r : Int), .int .u64 (x : Int), .int .u64 y] w fun e w' => e = .returned (.tuple #[]) ∧ ∃ ss', Rn E w' V ss' { S with rows := S.rows.set (f + x) y } := by
  obtain ⟨rb, rc, hrv, hrc, hrm, hrb, rcell, rfz⟩ := h.words (by omega)
  have HS : Hid (∀ W k, W = w.drewN k → Calls Tryz.prog 57 #[ptr E.B, .int .i64 (r : Int)] W fun e w' => e = .returned (.int .i64 (sz : Int)) ∧ ∃ k, w' = W.drewN k) := fun W k hW => by subst hW; rw [← hsz]; exact size_any (h.drewN k) ha.hm ha.hmb ha.gl r ha.rl
  have HC : Hid (∀ W k, W = w.drewN k → Calls Tryz.prog 58 #[ptr E.B, .int .i64 (r : Int)] W fun e w' => e = .returned (.int .i64 (((E.P.getD S.top.g default).vars.length + r : Nat) : Int)) ∧ ∃ k, w' = W.drewN k) := fun W k hW => by subst hW; exact cell_any (h.drewN k) ha.hm ha.hmb ha.gl r ha.rl
  have HF : Hid (∀ W k, W = w.drewN k → Calls Tryz.prog 51 #[ptr E.B, .int .i64 (((E.P.getD S.top.g default).vars.length + r : Nat) : Int)] W fun e w' => e = .returned (.int .i64 ((i : Int) + 1)) ∧ ∃ k, w' = W.drewN k) := fun W k hW => by
    subst hW
    have := find_any (h.drewN k) ha.hm ha.hmb ha.hg ((E.P.getD S.top.g default).vars.length + r) (by have := ha.ll; have := ha.rl; unfold cellsOf at *; omega) (ha.nn _).1
    rw [hi] at this
    simpa using this
  have HR : Hid (∀ W k, W = w.drewN k → Calls Tryz.prog 39 #[ptr E.B, .int .i64 (r : Int)] W fun e w' => e = .returned (.slice (some ⟨rb, f, none⟩) sz (rc - f)) ∧ ∃ k, w' = W.drewN k) := fun W k hW => by subst hW; exact row_some (h.drewN k) ha hi hf hsz hs0 hfl hrv hrc
  obtain ⟨Q, hQ⟩ : ∃ Q : World → Prop, Q = fun w' => ∃ ss', Rn E w' V ss' { S with rows := S.rows.set (f + x) y } := ⟨_, rfl⟩
  have e1 : (fun (e : Ending) w' => e = Ending.returned (.tuple #[]) ∧ ∃ ss', Rn E w' V ss' { S with rows := S.rows.set (f + x) y }) = fun e w' => e = Ending.returned (.tuple #[]) ∧ Q w' := by rw [hQ]
  rw [e1]
  clear e1
  have HQ : Hid (∀ k, Q ((w.drewN k).setCell ⟨rb, f + x, none⟩ (wordV y))) := fun k => by rw [hQ]; exact (h.drewN k).poke hrv (f + x) y
  have rcx := rcell (f + x) (by omega)
  have rfx := rfz (f + x)
  have hx' : (x : Int) < sz := by omega
  have hsb : (sz : Int) ≤ 256 := by omega
  have hin : ¬ ((i : Int) + 1 = 0) := by omega
  clear h ha hsz hs1 hx hi hf hfl hrv hrc hrm rcell rfz hQ
  generalize ((E.P.getD S.top.g default).vars.length + r : Nat) = c at *
  generalize E.B = B at *
  generalize S.rows.getD (f + x) 0 = q at *
  generalize rc - f = rcf at *
  go_enter Tryz.func38, Tryz.ntmps38
  go_wp2_with (first
    | (go_at_call 57; refine Calls.mono (HS.out _ 0 rfl) ?_; rintro e w1 ⟨rfl, kq, rfl⟩)
    | (go_at_call 58; refine Calls.mono (HC.out _ _ rfl) ?_; rintro e w1 ⟨rfl, kr, rfl⟩)
    | (go_at_call 51; refine Calls.mono (HF.out _ _ rfl) ?_; rintro e w1 ⟨rfl, ks, rfl⟩)
    | (go_at_call 39; refine Calls.mono (HR.out _ _ rfl) ?_; rintro e w1 ⟨rfl, kt, rfl⟩))
  go_end0
  exact ⟨rfl, HQ.out _⟩
end Go.Proofs.YtdgpdmohfnealaaGreatDoor
