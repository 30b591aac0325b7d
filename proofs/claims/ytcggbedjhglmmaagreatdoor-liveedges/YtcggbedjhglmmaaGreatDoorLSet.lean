/- What is live is handed on till nothing waits. -/
import Derived.Test.YtcggbedjhglmmaaGreatDoorLEntM
import Derived.Test.YtcggbedjhglmmaaGreatDoorGAhd1M
import Derived.WalkMore
import Derived.ScopeJumps
namespace Go.Proofs.YtcggbedjhglmmaaGreatDoor
open Go.RowKit

theorem least_ex {p : Nat → Prop} : (∃ k, p k) → ∃ k, p k ∧ ∀ j, p j → k ≤ j := by
  rintro ⟨k, hk⟩
  induction k using Nat.strongRecOn with
  | _ k ih =>
    by_cases h : ∃ j, j < k ∧ p j
    · obtain ⟨j, hj, hp⟩ := h; exact ih j hj hp
    · exact ⟨k, hk, fun j hj => Nat.le_of_not_lt fun hc => h ⟨j, hc, hj⟩⟩
noncomputable def leastN (p : Nat → Prop) : Nat := open Classical in if h : ∃ k, p k ∧ ∀ j, p j → k ≤ j then Classical.choose h else 0
theorem leastN_of {p : Nat → Prop} (h : ∃ k, p k) : p (leastN p) ∧ ∀ j, p j → leastN p ≤ j := by
  have h2 := least_ex h
  unfold leastN
  rw [dif_pos h2]
  exact Classical.choose_spec h2
theorem nodup_lenN {l : List Nat} {n : Nat} (h : l.Nodup) (hl : ∀ x ∈ l, x < n) : l.length ≤ n := by
  have h1 : l.length ≤ (List.range n).length := List.Nodup.length_le_of_subset h fun x hx => List.mem_range.2 (hl x hx)
  simpa using h1
theorem FI.room {E : FEnv} {nx : Nat → List Nat} {A S P : Nat → Nat → Prop} {X : Nat → Nat → Nat → Prop} {f : Fl} (h : FI E.n nx A S P X f) (hn : E.n ≤ 100000) : Room E f ∧ f.met.length ≤ 99999999 := by
  have h1 : f.wt.length ≤ E.n := nodup_lenN h.nd fun x hx => Nat.lt_of_not_le fun hc => (h.wt x).1 hx (wAt_out h.ln hc)
  have h2 : f.met.length ≤ E.n := nodup_lenN h.nm fun x hx => Nat.lt_of_not_le fun hc => ((h.met x).1 hx).elim (fun k => k (wAt_out h.li hc)) (fun k => k (wAt_out h.lo hc))
  exact ⟨⟨by omega, by omega, h.ls, h.li, h.lo, h.ln⟩, by omega⟩
/-- the blocks ahead, in memory that stays -/
structure Edge (E : FEnv) (nx : Nat → List Nat) (b0 G : Nat) (kvs : List Value) (rows : List (List Int)) : Prop where
  av : E.av = .slice (some ⟨G, 0, none⟩) E.n E.n
  at' : RowsIn E.w0 b0 G E.n kvs rows
  ok : ∀ i j : Nat, (i : Int) ∈ rows.getD j [] ↔ j ∈ nx i
  lt : ∀ j, ∀ a ∈ rows.getD j [], 0 ≤ a ∧ a < (E.n : Int)
  len : ∀ j, (rows.getD j []).length ≤ 1000000
/-- what stands between two rounds -/
def SetR (E : FEnv) (nx : Nat → List Nat) (A S P : Nat → Nat → Prop) (ss : List Slot) (w : World) (f : Fl) : Prop :=
  (∃ wv mv ss', Fw E w wv mv ss' f ∧ Kp ss ss') ∧ FI E.n nx A S P (fun _ _ _ => False) f ∧ (∀ i b, i < E.n → A b i → tb f.into i b) ∧ (∀ i b, i < E.n → P b i → tb f.out i b)
def JSet (E : FEnv) (nx : Nat → List Nat) (A S P : Nat → Nat → Prop) (ss : List Slot) (a : Act) (w : World) : Prop :=
  (∃ u1 u2 u3 u4 u5 u6 u7 u8 u9 u10 u11 u12 u13 u14 u15 u16 u17 u18 u19 u20 u21 u22 u23 u24 u25 u26 u27 u28 u29 u30 u31 u32 u33 u34 u35 u36 u37 u38 u39 u40 u41 u42 u43 u44 u45 u46 u47 u48 u49 u50 u51 u52 u53 u54 u55 u56 u57 u58 u59 u60 : Value, a = { tmps := #[ptr E.F, u1, u2, u3, u4, u5, u6, u7, u8, u9, u10, u11, u12, u13, u14, u15, u16, u17, u18, u19, u20, u21, u22, u23, u24, u25, u26, u27, u28, u29, u30, u31, u32, u33, u34, u35, u36, u37, u38, u39, u40, u41, u42, u43, u44, u45, u46, u47, u48, u49, u50, u51, u52, u53, u54, u55, u56, u57, u58, u59, u60], defers := [] }) ∧ ∃ f, SetR E nx A S P ss w f
noncomputable def muSet (E : FEnv) (nx : Nat → List Nat) (A S P : Nat → Nat → Prop) (ss : List Slot) (w : World) : Nat := leastN fun k => ∃ f, SetR E nx A S P ss w f ∧ f.left = k
theorem snocN (l : List Nat) : l = [] ∨ ∃ l' m, l = l' ++ [m] := by
  rcases List.eq_nil_or_concat l with h | ⟨l', m, h⟩
  · exact .inl h
  · exact .inr ⟨l', m, by rw [h, List.concat_eq_append]⟩
theorem row_cells {w0 w : World} {b0 G n : Nat} {kvs : List Value} {rows : List (List Int)} (h : RowsIn w0 b0 G n kvs rows) (hb : Below w0.heap.size w0 w) {j : Nat} (hj : j < n) (hl : (rows.getD j []).length ≤ 1000000) :
    ∃ a c, w.cell? ⟨G, j, none⟩ = some (.slice a (rows.getD j []).length c) ∧ ∀ k, k < (rows.getD j []).length → ∃ g o, a = some ⟨g, o, none⟩ ∧ ∀ W, Below w0.heap.size w0 W → W.cell? ⟨g, o + k, none⟩ = some (.int .i64 ((rows.getD j []).getD k 0)) := by
  have hr : rows[j]? = some (rows.getD j []) := by rw [List.getD, List.getElem?_eq_getElem (by rw [h.rlen]; exact hj)]; rfl
  have hk : kvs[j]? = some (kvs[j]'(by rw [h.klen]; exact hj)) := List.getElem?_eq_getElem _
  generalize kvs[j]'(by rw [h.klen]; exact hj) = kv at hk
  have ho := OwnI.at' (h.kid j _ kv hr hk).1 (by omega)
  have hc := h.cellG hk
  obtain ⟨a, c, rfl, _⟩ := ho.form
  refine ⟨a, c, (hb.cell (p := ⟨G, j, none⟩) h.ltG.2).trans hc, fun k hk2 => ?_⟩
  obtain ⟨g, o, e, hg, cc⟩ := ho.get hk2
  exact ⟨g, o, e, fun W hW => (hW.cell (p := ⟨g, o + k, none⟩) hg).trans cc⟩
set_option maxRecDepth 100000 in
set_option maxHeartbeats 4000000 in
theorem settle_any {E : FEnv} {nx : Nat → List Nat} {A S P : Nat → Nat → Prop} {b0 G : Nat} {kvs : List Value} {rows : List (List Int)} (hE : Edge E nx b0 G kvs rows) (hn : E.n ≤ 100000) {w : World} {ss : List Slot} {f : Fl} (h : SetR E nx A S P ss w f) :
    Calls Tryz.prog 21 #[ptr E.F] w fun e w' => e = .returned (.tuple #[]) ∧ ∃ f', SetR E nx A S P ss w' f' ∧ f'.wt = [] := by
  have HN : Hid (E.n ≤ 100000) := hn
  have HE : Hid (Edge E nx b0 G kvs rows) := hE
  clear hn hE
  go_enter Tryz.func21, Tryz.ntmps21
  go_wp2
  refine wp_scope_jumps 0 (JSet E nx A S P ss) (fun _ w' => muSet E nx A S P ss w') rfl ?_ ?_
  · go_wp2
    go_step3
    simp only [Exit.then]
    rename_i K hK
    refine hK _ _ ?_
    clear hK
    obtain ⟨f1, hf1⟩ : ∃ f1, SetR E nx A S P ss w f1 := ⟨f, h⟩
    clear h
    generalize w = w1 at *
    have HMU : Hid True := trivial
    obtain ⟨⟨wv, mv, ss1, hFw, hKp⟩, hFI, hA, hP⟩ := hf1
    obtain ⟨b0', b1, b2, b3, b4, b5, b6, bf, hF⟩ := hFw.box
    rcases snocN f1.wt with hnil | ⟨l, j0, hwt⟩
    · have ho := hFw.heap.own 5 _ hFw.s5
      have HQ : Hid (∃ f', SetR E nx A S P ss w1 f' ∧ f'.wt = []) := ⟨f1, ⟨⟨wv, mv, ss1, hFw, hKp⟩, hFI, hA, hP⟩, hnil⟩
      obtain ⟨va, vc, rfl⟩ : ∃ va vc, wv = .slice va 0 vc := by
        rcases own_shape ho with ⟨e, _⟩ | ⟨g, c, e, _⟩
        · exact ⟨_, _, e⟩
        · dsimp only at e; rw [hnil] at e; exact ⟨_, _, e⟩
      clear hFw hKp hFI hA hP ho b0' b1 b2 b3 b4 b6 bf HMU HE hnil
      generalize E.F = F at *
      go_wp2
      simp only [Exit.jump]
      refine bodyPost_ret (results_none rfl _ _ _) rfl ?_
      exact ⟨rfl, HQ.out⟩
    · have hj0 : j0 < E.n := Nat.lt_of_not_le fun hc => (hFI.wt j0).1 (by rw [hwt]; simp) (wAt_out hFI.ln hc)
      have hlen : f1.wt.length = l.length + 1 := by rw [hwt]; simp
      have ho := hFw.heap.own 5 _ hFw.s5
      obtain ⟨g, c, hv, hgc⟩ : ∃ g c, wv = .slice (some ⟨g, 0, none⟩) f1.wt.length c ∧ f1.wt.length ≤ c := by
        rcases own_shape ho with ⟨_, e⟩ | ⟨g, c, e, e2, _⟩
        · dsimp only at e; omega
        · exact ⟨g, c, e, e2⟩
      have hs5 := hFw.s5
      rw [hv] at hs5 hFw
      have cl : w1.cell? ⟨g, l.length, none⟩ = some (.int .i64 (j0 : Int)) := hFw.heap.cell hs5 (by rw [hwt]; simp)
      -- the row is cut, its news are taken
      obtain ⟨ss2, hF2, hK2⟩ := hFw.cutWt (m := l.length) (by omega)
      obtain ⟨d0, _, _, _, d4, _, _, df, _⟩ := hF2.box
      obtain ⟨_, _, _, dn, _, _, _, dfn⟩ := hF2.words hj0
      obtain ⟨ss3, hF3, hK3⟩ : ∃ ss', Fw E ((w1.setCell ⟨E.F, 5, none⟩ (.slice (some ⟨g, 0, none⟩) l.length c)).setCell ⟨E.ng, j0, none⟩ (.int .u64 0)) (.slice (some ⟨g, 0, none⟩) l.length c) mv ss' { f1 with wt := f1.wt.take l.length, news := f1.news.set j0 0 } ∧ Kp ss2 ss' := hF2.setNews j0 0
      obtain ⟨e0, _, _, _, _, _, _, _, _⟩ := hF3.box
      have hT := hFI.take hwt hj0
      have htk : f1.wt.take l.length = l := by rw [hwt]; simp
      dsimp only at dn hF3
      rw [htk] at hF3
      have hbits : ∀ b, (wAt f1.news j0).testBit b = true → Lin nx (A b) (fun i => ¬ S b i) (P b) j0 := fun b hb => hFI.si j0 b (hFI.nw j0 b hb)
      have hx64 := hFI.ln.2 j0
      have hx0 : wAt f1.news j0 ≠ 0 := (hFI.wt j0).1 (by rw [hwt]; simp)
      obtain ⟨ra, rc, hrow, hrc⟩ := row_cells HE.out.at' hF3.low hj0 (HE.out.len j0)
      have hrok := fun t => HE.out.ok t j0
      have hLL : (rows.getD j0 []).length ≤ 1000000 := HE.out.len j0
      have hrlt := HE.out.lt j0
      have HST : Hid (FI E.n nx A S P (fun i j b => j = j0 ∧ (wAt f1.news j0).testBit b = true ∧ (i : Int) ∈ (rows.getD j0 []).drop 0) { f1 with wt := l, news := f1.news.set j0 0 }) := hT.mono fun i j b hk hx => ⟨hx.1, hx.2.1, by rw [List.drop_zero]; exact (hrok i).2 hx.2.2⟩
      have HLT : Hid (({ f1 with wt := l, news := f1.news.set j0 0 } : Fl).left < f1.left) := by
        show _ < _
        unfold Fl.left
        dsimp only
        rw [hlen]; omega
      have HAV := HE.out.av
      rw [HAV] at e0
      have HF3 : Hid _ := hF3
      have HK3 : Hid (Kp ss ss3) := (hKp.trans hK2).trans hK3
      have HAP : Hid ((∀ i b, i < E.n → A b i → tb f1.into i b) ∧ (∀ i b, i < E.n → P b i → tb f1.out i b)) := ⟨hA, hP⟩
      have HROW : Hid (∀ k, k < (rows.getD j0 []).length → ∃ g o, ra = some ⟨g, o, none⟩ ∧ ∀ W, Below E.w0.heap.size E.w0 W → W.cell? ⟨g, o + k, none⟩ = some (.int .i64 ((rows.getD j0 []).getD k 0))) := hrc
      have HBI : Hid _ := hbits
      have HOK : Hid _ := hrok
      have HLR : Hid _ := hrlt
      have hi' : (j0 : Int) < E.n := by omega
      have hcut : ∀ W, (Instr.slice 22 (.slice (some ⟨g, 0, none⟩) f1.wt.length c) none (some (.int .i64 (l.length : Int))) none).run Tryz.prog W = .ok (.slice (some ⟨g, 0, none⟩) l.length c) W := slice_cut (by omega) (by omega)
      rw [hlen] at hcut hgc
      rw [hv, hlen] at b5
      have f5 := bf 5
      have hlb : (l.length : Int) ≤ 100000000 := by have := (hFI.room HN.out).1.wt; omega
      unfold rowN at b4 d4
      clear hA hP hrc hbits hrok hrlt hT htk hKp hK2 hK3 hF2 hF3 hFw hFI ho hs5 b0' b1 b2 b3 b6 bf d0 df hlen HAV hj0 hv
      generalize hFF : E.F = F at *
      have HFF : Hid (E.F = F) := hFF
      clear hFF
      generalize l.length = ll at *
      generalize wAt f1.news j0 = nw at *
      generalize rows.getD j0 [] = L at *
      have HX : Hid (nw < 2 ^ 64 ∧ nw ≠ 0) := ⟨hx64, hx0⟩
      clear hx64 hx0
      go_wp2
      clear b4 b5 cl d4 dn dfn e0 hrow hcut
      go_loopw [52] (fun vk wr => ∃ (k : Nat) (f2 : Fl) (wv2 mv2 : Value) (ss2 : List Slot), vk = .int .i64 k ∧ k ≤ L.length ∧ Hid (Fw E wr wv2 mv2 ss2 f2 ∧ Kp ss ss2 ∧ FI E.n nx A S P (fun i j b => j = j0 ∧ nw.testBit b = true ∧ (i : Int) ∈ L.drop k) f2 ∧ (∀ i b, i < E.n → A b i → tb f2.into i b) ∧ (∀ i b, i < E.n → P b i → tb f2.out i b) ∧ f2.left < f1.left)) (fun vk _ => L.length - (intOf vk).toNat)
      case atStart => exact ⟨0, _, _, _, _, rfl, by omega, HF3.out, HK3.out, HST.out, HAP.out.1, HAP.out.2, HLT.out⟩
      case round =>
        obtain ⟨k, f2, wv2, mv2, ss2, rfl, hk, hr⟩ := hrel
        clear HF3 HK3 HST HAP HLT
        by_cases hkn : k < L.length
        · obtain ⟨g3, o3, rfl, hcell⟩ := HROW.out k hkn
          have hcl := hcell wr hr.out.1.low
          have hmem : L.getD k 0 ∈ L := by rw [List.getD, List.getElem?_eq_getElem hkn]; exact List.getElem_mem hkn
          obtain ⟨t, ht⟩ : ∃ t : Nat, L.getD k 0 = (t : Int) := Int.eq_ofNat_of_zero_le (HLR.out _ hmem).1
          have htn : t < E.n := by have := (HLR.out _ hmem).2; omega
          rw [ht] at hcl hmem
          have hlo : ∀ b, nw.testBit b = true → Lout nx (A b) (fun i => ¬ S b i) (P b) t := fun b hb => .inr ⟨j0, (HOK.out t).1 hmem, HBI.out b hb⟩
          have hL := hr.out.2.2.1.leave htn HX.out.1 HX.out.2 hlo
          have hrm := hr.out.2.2.1.room HN.out
          have HLV : Hid _ := fleave_any hr.out.1 hrm.1 hrm.2 htn HX.out.1
          rw [HFF.out] at HLV
          have hkn' : (k : Int) < L.length := by omega
          have HNX : Hid (FI E.n nx A S P (fun i j b => j = j0 ∧ nw.testBit b = true ∧ (i : Int) ∈ L.drop (k + 1)) (f2.leave t nw)) := by
            refine hL.1.mono fun i j b _ hx => ⟨hx.1.1, hx.1.2.1, ?_⟩
            have hm := hx.1.2.2
            rw [List.drop_eq_getElem_cons hkn] at hm
            rcases List.mem_cons.1 hm with e | e
            · exfalso
              refine hx.2 ⟨?_, hx.1.2.1⟩
              have e2 : L.getD k 0 = L[k] := by simp [List.getElem?_eq_getElem hkn]
              rw [← e2, ht] at e
              omega
            · exact e
          have HMO : Hid ((∀ i b, i < E.n → A b i → tb (f2.leave t nw).into i b) ∧ (∀ i b, i < E.n → P b i → tb (f2.leave t nw).out i b)) := ⟨fun i b hi ha => hL.2.2.2 i b (hr.out.2.2.2.1 i b hi ha), fun i b hi ha => hL.2.2.1 i b (hr.out.2.2.2.2.1 i b hi ha)⟩
          have HLF : Hid ((f2.leave t nw).left < f1.left) := Nat.lt_of_le_of_lt (left_leave hr.out.2.2.1.li htn HX.out.1) hr.out.2.2.2.2.2
          clear hcell hmem hlo hL hrm
          go_wp2_with (go_at_call 42; go_loud (refine Calls.mono (by exact HLV.out) ?_; rintro e w3 ⟨rfl, wv3, mv3, ss3, hF3, hK3⟩; have HF3 : Hid _ := hF3; have HK3 : Hid _ := hK3; clear hF3 hK3))
          go_roundw
          case rel => exact ⟨k + 1, _, wv3, mv3, ss3, by first | rfl | (congr 1; omega), by omega, HF3.out, hr.out.2.1.trans HK3.out, HNX.out, HMO.out.1, HMO.out.2, HLF.out⟩
          case measure => simp [intOf]; omega
        · obtain rfl : k = L.length := by omega
          have hS : SetR E nx A S P ss wr f2 := ⟨⟨wv2, mv2, ss2, hr.out.1, hr.out.2.1⟩, hr.out.2.2.1.mono fun i j b _ hx => by have := hx.2.2; rw [List.drop_length] at this; simp at this, hr.out.2.2.2.1, hr.out.2.2.2.2.1⟩
          have HS : Hid _ := hS
          clear hS
          go_wp2
          go_step3
          simp only [Exit.jump]
          exact ⟨by first | rfl | trivial, ⟨⟨_, _, _, _, _, _, _, _, _, _, _, _, _, _, _, _, _, _, _, _, _, _, _, _, _, _, _, _, _, _, _, _, _, _, _, _, _, _, _, _, _, _, _, _, _, _, _, _, _, _, _, _, _, _, _, _, _, _, _, _, by rw [HFF.out]⟩, f2, HS.out⟩⟩
  · intro a1 w1 hJ
    obtain ⟨⟨u1, u2, u3, u4, u5, u6, u7, u8, u9, u10, u11, u12, u13, u14, u15, u16, u17, u18, u19, u20, u21, u22, u23, u24, u25, u26, u27, u28, u29, u30, u31, u32, u33, u34, u35, u36, u37, u38, u39, u40, u41, u42, u43, u44, u45, u46, u47, u48, u49, u50, u51, u52, u53, u54, u55, u56, u57, u58, u59, u60, rfl⟩, f0, hf0⟩ := hJ
    obtain ⟨⟨f1, hf1, hleft⟩, _⟩ := leastN_of (p := fun k => ∃ f, SetR E nx A S P ss w1 f ∧ f.left = k) ⟨f0.left, f0, hf0, rfl⟩
    have HMU : Hid (muSet E nx A S P ss w1 = f1.left) := hleft.symm
    clear hleft hf0 h f0 f
    obtain ⟨⟨wv, mv, ss1, hFw, hKp⟩, hFI, hA, hP⟩ := hf1
    obtain ⟨b0', b1, b2, b3, b4, b5, b6, bf, hF⟩ := hFw.box
    rcases snocN f1.wt with hnil | ⟨l, j0, hwt⟩
    · have ho := hFw.heap.own 5 _ hFw.s5
      have HQ : Hid (∃ f', SetR E nx A S P ss w1 f' ∧ f'.wt = []) := ⟨f1, ⟨⟨wv, mv, ss1, hFw, hKp⟩, hFI, hA, hP⟩, hnil⟩
      obtain ⟨va, vc, rfl⟩ : ∃ va vc, wv = .slice va 0 vc := by
        rcases own_shape ho with ⟨e, _⟩ | ⟨g, c, e, _⟩
        · exact ⟨_, _, e⟩
        · dsimp only at e; rw [hnil] at e; exact ⟨_, _, e⟩
      clear hFw hKp hFI hA hP ho b0' b1 b2 b3 b4 b6 bf HMU HE hnil
      generalize E.F = F at *
      go_wp2
      simp only [Exit.jump]
      refine bodyPost_ret (results_none rfl _ _ _) rfl ?_
      exact ⟨rfl, HQ.out⟩
    · have hj0 : j0 < E.n := Nat.lt_of_not_le fun hc => (hFI.wt j0).1 (by rw [hwt]; simp) (wAt_out hFI.ln hc)
      have hlen : f1.wt.length = l.length + 1 := by rw [hwt]; simp
      have ho := hFw.heap.own 5 _ hFw.s5
      obtain ⟨g, c, hv, hgc⟩ : ∃ g c, wv = .slice (some ⟨g, 0, none⟩) f1.wt.length c ∧ f1.wt.length ≤ c := by
        rcases own_shape ho with ⟨_, e⟩ | ⟨g, c, e, e2, _⟩
        · dsimp only at e; omega
        · exact ⟨g, c, e, e2⟩
      have hs5 := hFw.s5
      rw [hv] at hs5 hFw
      have cl : w1.cell? ⟨g, l.length, none⟩ = some (.int .i64 (j0 : Int)) := hFw.heap.cell hs5 (by rw [hwt]; simp)
      -- the row is cut, its news are taken
      obtain ⟨ss2, hF2, hK2⟩ := hFw.cutWt (m := l.length) (by omega)
      obtain ⟨d0, _, _, _, d4, _, _, df, _⟩ := hF2.box
      obtain ⟨_, _, _, dn, _, _, _, dfn⟩ := hF2.words hj0
      obtain ⟨ss3, hF3, hK3⟩ : ∃ ss', Fw E ((w1.setCell ⟨E.F, 5, none⟩ (.slice (some ⟨g, 0, none⟩) l.length c)).setCell ⟨E.ng, j0, none⟩ (.int .u64 0)) (.slice (some ⟨g, 0, none⟩) l.length c) mv ss' { f1 with wt := f1.wt.take l.length, news := f1.news.set j0 0 } ∧ Kp ss2 ss' := hF2.setNews j0 0
      obtain ⟨e0, _, _, _, _, _, _, _, _⟩ := hF3.box
      have hT := hFI.take hwt hj0
      have htk : f1.wt.take l.length = l := by rw [hwt]; simp
      dsimp only at dn hF3
      rw [htk] at hF3
      have hbits : ∀ b, (wAt f1.news j0).testBit b = true → Lin nx (A b) (fun i => ¬ S b i) (P b) j0 := fun b hb => hFI.si j0 b (hFI.nw j0 b hb)
      have hx64 := hFI.ln.2 j0
      have hx0 : wAt f1.news j0 ≠ 0 := (hFI.wt j0).1 (by rw [hwt]; simp)
      obtain ⟨ra, rc, hrow, hrc⟩ := row_cells HE.out.at' hF3.low hj0 (HE.out.len j0)
      have hrok := fun t => HE.out.ok t j0
      have hLL : (rows.getD j0 []).length ≤ 1000000 := HE.out.len j0
      have hrlt := HE.out.lt j0
      have HST : Hid (FI E.n nx A S P (fun i j b => j = j0 ∧ (wAt f1.news j0).testBit b = true ∧ (i : Int) ∈ (rows.getD j0 []).drop 0) { f1 with wt := l, news := f1.news.set j0 0 }) := hT.mono fun i j b hk hx => ⟨hx.1, hx.2.1, by rw [List.drop_zero]; exact (hrok i).2 hx.2.2⟩
      have HLT : Hid (({ f1 with wt := l, news := f1.news.set j0 0 } : Fl).left < f1.left) := by
        show _ < _
        unfold Fl.left
        dsimp only
        rw [hlen]; omega
      have HAV := HE.out.av
      rw [HAV] at e0
      have HF3 : Hid _ := hF3
      have HK3 : Hid (Kp ss ss3) := (hKp.trans hK2).trans hK3
      have HAP : Hid ((∀ i b, i < E.n → A b i → tb f1.into i b) ∧ (∀ i b, i < E.n → P b i → tb f1.out i b)) := ⟨hA, hP⟩
      have HROW : Hid (∀ k, k < (rows.getD j0 []).length → ∃ g o, ra = some ⟨g, o, none⟩ ∧ ∀ W, Below E.w0.heap.size E.w0 W → W.cell? ⟨g, o + k, none⟩ = some (.int .i64 ((rows.getD j0 []).getD k 0))) := hrc
      have HBI : Hid _ := hbits
      have HOK : Hid _ := hrok
      have HLR : Hid _ := hrlt
      have hi' : (j0 : Int) < E.n := by omega
      have hcut : ∀ W, (Instr.slice 22 (.slice (some ⟨g, 0, none⟩) f1.wt.length c) none (some (.int .i64 (l.length : Int))) none).run Tryz.prog W = .ok (.slice (some ⟨g, 0, none⟩) l.length c) W := slice_cut (by omega) (by omega)
      rw [hlen] at hcut hgc
      rw [hv, hlen] at b5
      have f5 := bf 5
      have hlb : (l.length : Int) ≤ 100000000 := by have := (hFI.room HN.out).1.wt; omega
      unfold rowN at b4 d4
      clear hA hP hrc hbits hrok hrlt hT htk hKp hK2 hK3 hF2 hF3 hFw hFI ho hs5 b0' b1 b2 b3 b6 bf d0 df hlen HAV hj0 hv
      generalize hFF : E.F = F at *
      have HFF : Hid (E.F = F) := hFF
      clear hFF
      generalize l.length = ll at *
      generalize wAt f1.news j0 = nw at *
      generalize rows.getD j0 [] = L at *
      have HX : Hid (nw < 2 ^ 64 ∧ nw ≠ 0) := ⟨hx64, hx0⟩
      clear hx64 hx0
      go_wp2
      clear b4 b5 cl d4 dn dfn e0 hrow hcut
      go_loopw [52] (fun vk wr => ∃ (k : Nat) (f2 : Fl) (wv2 mv2 : Value) (ss2 : List Slot), vk = .int .i64 k ∧ k ≤ L.length ∧ Hid (Fw E wr wv2 mv2 ss2 f2 ∧ Kp ss ss2 ∧ FI E.n nx A S P (fun i j b => j = j0 ∧ nw.testBit b = true ∧ (i : Int) ∈ L.drop k) f2 ∧ (∀ i b, i < E.n → A b i → tb f2.into i b) ∧ (∀ i b, i < E.n → P b i → tb f2.out i b) ∧ f2.left < f1.left)) (fun vk _ => L.length - (intOf vk).toNat)
      case atStart => exact ⟨0, _, _, _, _, rfl, by omega, HF3.out, HK3.out, HST.out, HAP.out.1, HAP.out.2, HLT.out⟩
      case round =>
        obtain ⟨k, f2, wv2, mv2, ss2, rfl, hk, hr⟩ := hrel
        clear HF3 HK3 HST HAP HLT
        by_cases hkn : k < L.length
        · obtain ⟨g3, o3, rfl, hcell⟩ := HROW.out k hkn
          have hcl := hcell wr hr.out.1.low
          have hmem : L.getD k 0 ∈ L := by rw [List.getD, List.getElem?_eq_getElem hkn]; exact List.getElem_mem hkn
          obtain ⟨t, ht⟩ : ∃ t : Nat, L.getD k 0 = (t : Int) := Int.eq_ofNat_of_zero_le (HLR.out _ hmem).1
          have htn : t < E.n := by have := (HLR.out _ hmem).2; omega
          rw [ht] at hcl hmem
          have hlo : ∀ b, nw.testBit b = true → Lout nx (A b) (fun i => ¬ S b i) (P b) t := fun b hb => .inr ⟨j0, (HOK.out t).1 hmem, HBI.out b hb⟩
          have hL := hr.out.2.2.1.leave htn HX.out.1 HX.out.2 hlo
          have hrm := hr.out.2.2.1.room HN.out
          have HLV : Hid _ := fleave_any hr.out.1 hrm.1 hrm.2 htn HX.out.1
          rw [HFF.out] at HLV
          have hkn' : (k : Int) < L.length := by omega
          have HNX : Hid (FI E.n nx A S P (fun i j b => j = j0 ∧ nw.testBit b = true ∧ (i : Int) ∈ L.drop (k + 1)) (f2.leave t nw)) := by
            refine hL.1.mono fun i j b _ hx => ⟨hx.1.1, hx.1.2.1, ?_⟩
            have hm := hx.1.2.2
            rw [List.drop_eq_getElem_cons hkn] at hm
            rcases List.mem_cons.1 hm with e | e
            · exfalso
              refine hx.2 ⟨?_, hx.1.2.1⟩
              have e2 : L.getD k 0 = L[k] := by simp [List.getElem?_eq_getElem hkn]
              rw [← e2, ht] at e
              omega
            · exact e
          have HMO : Hid ((∀ i b, i < E.n → A b i → tb (f2.leave t nw).into i b) ∧ (∀ i b, i < E.n → P b i → tb (f2.leave t nw).out i b)) := ⟨fun i b hi ha => hL.2.2.2 i b (hr.out.2.2.2.1 i b hi ha), fun i b hi ha => hL.2.2.1 i b (hr.out.2.2.2.2.1 i b hi ha)⟩
          have HLF : Hid ((f2.leave t nw).left < f1.left) := Nat.lt_of_le_of_lt (left_leave hr.out.2.2.1.li htn HX.out.1) hr.out.2.2.2.2.2
          clear hcell hmem hlo hL hrm
          go_wp2_with (go_at_call 42; go_loud (refine Calls.mono (by exact HLV.out) ?_; rintro e w3 ⟨rfl, wv3, mv3, ss3, hF3, hK3⟩; have HF3 : Hid _ := hF3; have HK3 : Hid _ := hK3; clear hF3 hK3))
          go_roundw
          case rel => exact ⟨k + 1, _, wv3, mv3, ss3, by first | rfl | (congr 1; omega), by omega, HF3.out, hr.out.2.1.trans HK3.out, HNX.out, HMO.out.1, HMO.out.2, HLF.out⟩
          case measure => simp [intOf]; omega
        · obtain rfl : k = L.length := by omega
          have hS : SetR E nx A S P ss wr f2 := ⟨⟨wv2, mv2, ss2, hr.out.1, hr.out.2.1⟩, hr.out.2.2.1.mono fun i j b _ hx => by have := hx.2.2; rw [List.drop_length] at this; simp at this, hr.out.2.2.2.1, hr.out.2.2.2.2.1⟩
          have HMF : Hid (muSet E nx A S P ss wr < muSet E nx A S P ss w1) := by
            show _ < _
            rw [HMU.out]
            exact Nat.lt_of_le_of_lt ((leastN_of (p := fun k => ∃ f, SetR E nx A S P ss wr f ∧ f.left = k) ⟨_, f2, hS, rfl⟩).2 _ ⟨f2, hS, rfl⟩) hr.out.2.2.2.2.2
          have HS : Hid _ := hS
          clear hS
          go_wp2
          go_step3
          exact ⟨by first | rfl | trivial, ⟨⟨_, _, _, _, _, _, _, _, _, _, _, _, _, _, _, _, _, _, _, _, _, _, _, _, _, _, _, _, _, _, _, _, _, _, _, _, _, _, _, _, _, _, _, _, _, _, _, _, _, _, _, _, _, _, _, _, _, _, _, _, by rw [HFF.out]⟩, f2, HS.out⟩, HMF.out⟩
end Go.Proofs.YtcggbedjhglmmaaGreatDoor
