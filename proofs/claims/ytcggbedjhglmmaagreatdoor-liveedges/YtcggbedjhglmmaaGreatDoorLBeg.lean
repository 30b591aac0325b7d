/- A strip is laid down: what is set, asked, handed on by itself. -/
import Derived.Test.YtcggbedjhglmmaaGreatDoorLSet
import Derived.Test.YtcggbedjhglmmaaGreatDoorLOrdM
namespace Go.Proofs.YtcggbedjhglmmaaGreatDoor
open Go.RowKit

structure Clean (n : Nat) (f : Fl) : Prop where
  s : f.sets = List.replicate n 0
  i : f.into = List.replicate n 0
  o : f.out = List.replicate n 0
  n : f.news = List.replicate n 0
  w : f.wt = []
  m : f.met = []
theorem wAt_rep (n i : Nat) : wAt (List.replicate n 0) i = 0 := by
  unfold wAt
  rw [List.getD_eq_getElem?_getD, List.getElem?_replicate]
  split <;> rfl
abbrev sA (s : Sp) (b i : Nat) : Prop := HasM s.asks i b
abbrev sS (s : Sp) (b i : Nat) : Prop := HasM s.sets i b
abbrev sP (s : Sp) (b i : Nat) : Prop := HasM s.hands i b
structure SpOk (n : Nat) (p : Sp) : Prop where
  s : OkM n p.sets
  a : OkM n p.asks
  h : OkM n p.hands
  r : ∃ c, Ris c p.sets
theorem getD_mk {l : List Mk} {k : Nat} (h : k < l.length) : l[k]? = some (l.getD k default) ∧ l.getD k default ∈ l := by
  have e : l.getD k default = l[k] := by simp [List.getElem?_eq_getElem h]
  rw [e]
  exact ⟨List.getElem?_eq_getElem h, List.getElem_mem h⟩
theorem hasM_take {l : List Mk} {k : Nat} (h : k < l.length) (i b : Nat) : HasM (l.take (k + 1)) i b ↔ HasM (l.take k) i b ∨ (i = (l.getD k default).1 ∧ (l.getD k default).2.testBit b = true) := by
  have e : l.take (k + 1) = l.take k ++ [l.getD k default] := by
    rw [List.take_succ_eq_append_getElem h]
    simp [List.getElem?_eq_getElem h]
  unfold HasM
  rw [e]
  constructor
  · rintro ⟨x, hx, hb⟩
    rw [List.mem_append, List.mem_singleton] at hx
    rcases hx with hx | hx
    · exact .inl ⟨x, hx, hb⟩
    · rw [← hx]; exact .inr ⟨rfl, hb⟩
  · rintro (⟨x, hx, hb⟩ | ⟨e1, hb⟩)
    · exact ⟨x, List.mem_append_left _ hx, hb⟩
    · refine ⟨(l.getD k default).2, List.mem_append_right _ ?_, hb⟩
      rw [List.mem_singleton, e1]
/-- the words of what is set, as far as laid -/
def SetTo (n : Nat) (l : List Mk) (k : Nat) (ws : List Nat) : Prop := Words n ws ∧ ∀ i b, tb ws i b ↔ HasM (l.take k) i b
theorem SetTo.start (n : Nat) (l : List Mk) : SetTo n l 0 (List.replicate n 0) := by
  refine ⟨Words.rep n, fun i b => ?_⟩
  unfold tb
  rw [wAt_rep]
  simp [HasM]
theorem SetTo.step {n : Nat} {l : List Mk} {k : Nat} {ws : List Nat} (h : SetTo n l k ws) (hk : k < l.length) (hok : OkM n l) (hr : ∃ c, Ris c l) : SetTo n l (k + 1) (ws.set (l.getD k default).1 (l.getD k default).2) := by
  obtain ⟨e, hm⟩ := getD_mk hk
  generalize l.getD k default = m at *
  refine ⟨h.1.set (hok.w m hm), fun i b => ?_⟩
  rw [hasM_take hk]
  have e2 : l.getD k default = m := by rw [List.getD_eq_getElem?_getD, e]; rfl
  rw [e2]
  unfold tb
  rw [wAt_set (by rw [h.1.1]; exact hok.lt m hm)]
  by_cases hi : i = m.1
  · subst hi
    rw [if_pos rfl]
    constructor
    · intro hb; exact .inr ⟨rfl, hb⟩
    · rintro (⟨x, hx, _⟩ | ⟨_, hb⟩)
      · exfalso
        obtain ⟨c, hc⟩ := hr
        obtain ⟨j, hj, ej⟩ := List.mem_iff_getElem.1 hx
        rw [List.length_take] at hj
        rw [List.getElem_take] at ej
        have hp := List.pairwise_iff_getElem.1 hc.pw j k (by omega) hk (by omega)
        rw [ej] at hp
        have : l[k] = m := by rw [List.getElem?_eq_getElem hk] at e; exact Option.some.inj e
        rw [this] at hp
        exact Nat.lt_irrefl _ hp
      · exact hb
  · rw [if_neg hi, ← h.2 i b]
    exact ⟨.inl, fun q => q.elim id fun q => absurd q.1 hi⟩
theorem FI.start {n : Nat} {nx : Nat → List Nat} {s : Sp} {ws : List Nat} (h : SetTo n s.sets s.sets.length ws) : FI n nx (sA s) (sS s) (sP s) (fun _ _ _ => False) ⟨ws, List.replicate n 0, List.replicate n 0, List.replicate n 0, [], []⟩ := by
  have z : ∀ i b, ¬ tb (List.replicate n 0) i b := fun i b hb => by unfold tb at hb; rw [wAt_rep] at hb; simp at hb
  refine ⟨h.1, Words.rep n, Words.rep n, Words.rep n, fun i b _ => ?_, fun i b hb => absurd hb (z i b), fun i b hb => absurd hb (z i b), fun i b hb => absurd hb (z i b), fun i b hb => absurd hb (z i b), fun i j b _ hb => absurd hb (z j b), fun i => ?_, by simp, fun i => ?_, by simp⟩
  · rw [h.2, List.take_length]
  · dsimp only; rw [wAt_rep]; simp
  · dsimp only; rw [wAt_rep]; simp
theorem Heap.mark {w : World} {base : Nat} {ss : List Slot} (h : Heap w base ss) {j : Nat} {v : Value} {l : List Mk} (hs : ss[j]? = some ⟨v, 87, 2, l.length, flat mkCells l⟩) {k : Nat} (hk : k < l.length) :
    ∃ g c, v = .slice (some ⟨g, 0, none⟩) l.length c ∧ w.cell? ⟨g, k * 2, none⟩ = some (nmV (l.getD k default).1) ∧ w.cell? ⟨g, k * 2 + 1, none⟩ = some (wd (l.getD k default).2) := by
  rcases own_shape (h.own j _ hs) with ⟨_, e⟩ | ⟨g, c, e, _⟩
  · dsimp only at e; omega
  · dsimp only at e
    subst e
    obtain ⟨e1, _⟩ := getD_mk hk
    exact ⟨g, c, rfl, h.cell hs (flat_at mkCells_len l k 0 _ _ e1 rfl), h.cell hs (flat_at mkCells_len l k 1 _ _ e1 rfl)⟩
theorem mk_any {w : World} {base : Nat} {ss : List Slot} (h : Heap w base ss) {j : Nat} {v : Value} {l : List Mk} (hs : ss[j]? = some ⟨v, 87, 2, l.length, flat mkCells l⟩) : ∃ a c, v = .slice a l.length c := by
  rcases own_shape (h.own j _ hs) with ⟨e, e0⟩ | ⟨g, c, e, _⟩
  · dsimp only at e0; exact ⟨none, 0, by rw [e0]; exact e⟩
  · exact ⟨_, _, e⟩
/-- the strip's box is one more row -/
theorem Fw.boxed {E : FEnv} {w : World} {wv mv : Value} {ss : List Slot} {f : Fl} (h : Fw E w wv mv ss f) (cs : List Value) (t : TypeId) (hl : cs.length = 3) :
    Fw E (w.alloc (.cells cs.toArray t)) wv mv (ss ++ [⟨.slice (some ⟨w.heap.size, 0, none⟩) 1 1, t, 3, 1, cs⟩]) f := by
  have hs : ∀ j, j < 7 → ∀ x, ss[j]? = some x → (ss ++ [⟨.slice (some ⟨w.heap.size, 0, none⟩) 1 1, t, 3, 1, cs⟩])[j]? = some x := fun j _ x hx => by
    rw [List.getElem?_append_left (List.getElem?_eq_some_iff.1 hx).1]; exact hx
  have hn := World.ownsRow_lit (base := E.w0.heap.size) (e := t) (size := 3) w cs.toArray 1 h.low.size (by decide) (by simp [hl])
  have hh := h.heap.more (below_alloc (Below.refl _ _) (.cells cs.toArray t)) (s := ⟨.slice (some ⟨w.heap.size, 0, none⟩) 1 1, t, 3, 1, cs⟩) (by simpa [Slot.At] using hn) (fun g hg => by simp [Value.ownBlock] at hg; omega)
  exact ⟨below_alloc h.low _, hh, hs 0 (by omega) _ h.s0, hs 1 (by omega) _ h.s1, hs 2 (by omega) _ h.s2, hs 3 (by omega) _ h.s3, hs 4 (by omega) _ h.s4, hs 5 (by omega) _ h.s5, hs 6 (by omega) _ h.s6⟩
structure StripAt (ss : List Slot) (jb : Nat) (sv av hv : Value) (p : Sp) : Prop where
  js : ∃ j, 7 ≤ j ∧ ss[j]? = some ⟨sv, 87, 2, p.sets.length, flat mkCells p.sets⟩
  ja : ∃ j, 7 ≤ j ∧ ss[j]? = some ⟨av, 87, 2, p.asks.length, flat mkCells p.asks⟩
  jh : ∃ j, 7 ≤ j ∧ ss[j]? = some ⟨hv, 87, 2, p.hands.length, flat mkCells p.hands⟩
theorem StripAt.kp {ss ss' : List Slot} {jb : Nat} {sv av hv : Value} {p : Sp} (h : StripAt ss jb sv av hv p) (k : Kp ss ss') : StripAt ss' jb sv av hv p := by
  obtain ⟨⟨j1, g1, e1⟩, ⟨j2, g2, e2⟩, ⟨j3, g3, e3⟩⟩ := h
  exact ⟨⟨j1, g1, by rw [k.at' j1 g1]; exact e1⟩, ⟨j2, g2, by rw [k.at' j2 g2]; exact e2⟩, ⟨j3, g3, by rw [k.at' j3 g3]; exact e3⟩⟩
set_option maxRecDepth 100000 in
set_option maxHeartbeats 4000000 in
theorem begin_any {E : FEnv} {nx : Nat → List Nat} (hn : E.n ≤ 100000) {w : World} {wv mv : Value} {ss : List Slot} {f : Fl} (h : Fw E w wv mv ss f) (hc : Clean E.n f) {p : Sp} {sv av hv : Value} (hp : SpOk E.n p) (hs : StripAt ss 0 sv av hv p) (hlen : p.sets.length ≤ 1000000 ∧ p.asks.length ≤ 1000000 ∧ p.hands.length ≤ 1000000) :
    Calls Tryz.prog 20 #[ptr E.F, .agg #[sv, av, hv]] w fun e w' => e = .returned (.tuple #[]) ∧ ∃ f' ssx, SetR E nx (sA p) (sS p) (sP p) ssx w' f' ∧ Kp (ss ++ [⟨.slice (some ⟨w.heap.size, 0, none⟩) 1 1, 64, 3, 1, [sv, av, hv]⟩]) ssx := by
  have hB := h.boxed [sv, av, hv] 64 rfl
  have hf : f = ⟨f.sets, List.replicate E.n 0, List.replicate E.n 0, List.replicate E.n 0, [], []⟩ := by
    obtain ⟨_, _, _, _, _, _⟩ := f
    obtain ⟨h1, h2, h3, h4, h5, h6⟩ := hc
    dsimp only at *
    subst h2; subst h3; subst h4; subst h5; subst h6; rfl
  have hs0 : SetTo E.n p.sets 0 f.sets := by rw [hc.s]; exact SetTo.start _ _
  rw [hf] at hB
  have HS : Hid (StripAt (ss ++ [⟨.slice (some ⟨w.heap.size, 0, none⟩) 1 1, 64, 3, 1, [sv, av, hv]⟩]) 0 sv av hv p) := by
    have up : ∀ j x, ss[j]? = some x → (ss ++ [⟨.slice (some ⟨w.heap.size, 0, none⟩) 1 1, 64, 3, 1, [sv, av, hv]⟩])[j]? = some x := fun j x hx => by
      rw [List.getElem?_append_left (List.getElem?_eq_some_iff.1 hx).1]; exact hx
    obtain ⟨⟨j1, g1, e1⟩, ⟨j2, g2, e2⟩, ⟨j3, g3, e3⟩⟩ := hs
    exact ⟨⟨j1, g1, up _ _ e1⟩, ⟨j2, g2, up _ _ e2⟩, ⟨j3, g3, up _ _ e3⟩⟩
  have hjb : (ss ++ [⟨.slice (some ⟨w.heap.size, 0, none⟩) 1 1, 64, 3, 1, [sv, av, hv]⟩])[ss.length]? = some ⟨.slice (some ⟨w.heap.size, 0, none⟩) 1 1, 64, 3, 1, [sv, av, hv]⟩ := by simp
  have h7 : 7 ≤ ss.length := by have := (List.getElem?_eq_some_iff.1 h.s6).1; omega
  obtain ⟨_, _, hvs⟩ := hs.js
  obtain ⟨_, _, hva⟩ := hs.ja
  obtain ⟨_, _, hvh⟩ := hs.jh
  obtain ⟨sa, sc, rfl⟩ := mk_any h.heap hvs
  obtain ⟨aa, ac, rfl⟩ := mk_any h.heap hva
  obtain ⟨ha, hcc, rfl⟩ := mk_any h.heap hvh
  have HBX : Hid (∀ ssx W wv mv f, Kp (ss ++ [⟨.slice (some ⟨w.heap.size, 0, none⟩) 1 1, 64, 3, 1, [.slice sa p.sets.length sc, .slice aa p.asks.length ac, .slice ha p.hands.length hcc]⟩]) ssx → Fw E W wv mv ssx f → W.cell? ⟨w.heap.size, 1, none⟩ = some (.slice aa p.asks.length ac) ∧ W.cell? ⟨w.heap.size, 2, none⟩ = some (.slice ha p.hands.length hcc)) := fun ssx W wv mv f hk hw => by
    have hj := (hk.at' ss.length h7).trans hjb
    exact ⟨hw.heap.cell hj (j := 1) rfl, hw.heap.cell hj (j := 2) rfl⟩
  have HB : Hid (Fw E (w.alloc (.cells #[.slice sa p.sets.length sc, .slice aa p.asks.length ac, .slice ha p.hands.length hcc] 64)) wv mv _ _) := hB
  have HS0 : Hid _ := hs0
  have HP : Hid (SpOk E.n p) := hp
  have HN : Hid (E.n ≤ 100000) := hn
  have hl1 : (p.sets.length : Int) ≤ 1000000 := by omega
  have hl2 : (p.asks.length : Int) ≤ 1000000 := by omega
  have hl3 : (p.hands.length : Int) ≤ 1000000 := by omega
  clear hB hf hs0 hs hjb hvs hva hvh hlen hc h hp hn
  generalize (ss ++ [⟨.slice (some ⟨w.heap.size, 0, none⟩) 1 1, 64, 3, 1, [.slice sa p.sets.length sc, .slice aa p.asks.length ac, .slice ha p.hands.length hcc]⟩]) = ss0 at *
  generalize hFF : E.F = F at *
  have HFF : Hid (E.F = F) := hFF
  clear hFF
  generalize hn1 : p.sets.length = n1 at *
  generalize hn2 : p.asks.length = n2 at *
  generalize hn3 : p.hands.length = n3 at *
  have HN1 : Hid (p.sets.length = n1 ∧ p.asks.length = n2 ∧ p.hands.length = n3) := ⟨hn1, hn2, hn3⟩
  clear hn1 hn2 hn3
  go_enter Tryz.func20, Tryz.ntmps20
  go_wp2
  go_loopw [13] (fun vk wr => ∃ (k : Nat) (ws : List Nat) (ss1 : List Slot), vk = .int .i64 k ∧ k ≤ n1 ∧ Hid (Fw E wr wv mv ss1 ⟨ws, List.replicate E.n 0, List.replicate E.n 0, List.replicate E.n 0, [], []⟩ ∧ Kp ss0 ss1 ∧ SetTo E.n p.sets k ws)) (fun vk _ => n1 - (intOf vk).toNat)
  case atStart => exact ⟨0, _, _, rfl, by omega, HB.out, Kp.refl _, HS0.out⟩
  case round =>
    obtain ⟨k, ws, ss1, rfl, hk, hr⟩ := hrel
    clear HB HS0
    by_cases hkn : k < n1
    · have hkn' : (k : Int) < n1 := by omega
      have hkl : k < p.sets.length := by rw [HN1.out.1]; exact hkn
      obtain ⟨j1, g1, e1⟩ := (HS.out.kp hr.out.2.1).js
      rw [← HN1.out.1] at e1
      obtain ⟨g, c, hv, c0, c1⟩ := hr.out.1.heap.mark e1 hkl
      rw [HN1.out.1] at hv
      injection hv with hv1 hv2 hv3
      subst hv1; subst hv3
      clear hv2
      have hm := (getD_mk hkl).2
      have HST : Hid _ := hr.out.2.2.step hkl HP.out.s HP.out.r
      have hmi := HP.out.s.lt _ hm
      generalize p.sets.getD k default = m at *
      obtain ⟨m1, m2⟩ := m
      dsimp only at *
      obtain ⟨_, b1, _, _, _, _, _, _, hFl⟩ := hr.out.1.box
      obtain ⟨d1, _, _, _, df, _, _, _⟩ := (hr.out.1.alloc (.cells #[.int .i64 (m1 : Int), .int .u64 (m2 : Int)] 87)).words hmi
      have HRR : Hid _ := hr.out.1
      have HKK : Hid _ := hr.out.2.1
      have hmi' : (m1 : Int) < E.n := by omega
      unfold rowN at b1
      rw [HFF.out] at b1 hFl
      clear hr e1 hm
      go_wp2
      refine wp_region_last 9 _ rfl rfl (by kernel_rfl) (by kernel_rfl) (by kernel_rfl) (by kernel_rfl) (by kernel_rfl) (by kernel_rfl) ?_
      simp only [List.take_succ_cons, List.take_zero]
      repeat (go_big_quiet_step (fail))
      refine wpQuiet_nil ?_
      intro _ hw'
      obtain ⟨nq2, hw''⟩ := hw'
      subst hw''
      intro K hK
      go_simp
      refine hK _ _ ?_
      clear hK K
      obtain ⟨ss2, hF2, hK2⟩ := ((HRR.out.alloc (.cells #[.int .i64 (m1 : Int), .int .u64 (m2 : Int)] 87)).drewN nq2).setSets m1 m2
      have HF2 : Hid _ := hF2
      have HK2 : Hid (Kp ss0 ss2) := HKK.out.trans hK2
      clear hF2 hK2
      go_wp2
      go_roundw
      case rel => exact ⟨k + 1, _, ss2, by first | rfl | (congr 1; omega), by omega, HF2.out, HK2.out, HST.out⟩
      case measure => simp [intOf]; omega
    · obtain rfl : k = n1 := by omega
      have hST := hr.out.2.2
      rw [← HN1.out.1] at hST
      have HFI : Hid _ := FI.start (nx := nx) hST
      obtain ⟨bx1, _⟩ := HBX.out _ _ _ _ _ hr.out.2.1 hr.out.1
      have HRR : Hid _ := hr.out.1
      have HKK : Hid _ := hr.out.2.1
      clear hr hST
      go_wp2
      go_loopw [30] (fun vk wr => ∃ (k : Nat) (f2 : Fl) (wv2 mv2 : Value) (ss2 : List Slot), vk = .int .i64 k ∧ k ≤ n2 ∧ Hid (Fw E wr wv2 mv2 ss2 f2 ∧ Kp ss0 ss2 ∧ FI E.n nx (sA p) (sS p) (sP p) (fun _ _ _ => False) f2 ∧ ∀ i b, HasM (p.asks.take k) i b → tb f2.into i b)) (fun vk _ => n2 - (intOf vk).toNat)
      case atStart => exact ⟨0, _, _, _, _, rfl, by omega, HRR.out, HKK.out, HFI.out, fun i b hh => by simp [HasM] at hh⟩
      case round =>
        obtain ⟨k, f2, wv2, mv2, ss2, rfl, hk2, hr⟩ := hrel
        clear HRR HKK HFI bx1
        by_cases hkn2 : k < n2
        · have hkn' : (k : Int) < n2 := by omega
          have hkl : k < p.asks.length := by rw [HN1.out.2.1]; exact hkn2
          obtain ⟨j1, g1, e1⟩ := (HS.out.kp hr.out.2.1).ja
          rw [← HN1.out.2.1] at e1
          obtain ⟨g, c, hv, c0, c1⟩ := hr.out.1.heap.mark e1 hkl
          rw [HN1.out.2.1] at hv
          injection hv with hv1 hv2 hv3
          subst hv1; subst hv3
          clear hv2
          have hm := (getD_mk hkl).2
          have hmi := HP.out.a.lt _ hm
          have hmw := HP.out.a.w _ hm
          have htk := fun i b => hasM_take hkl i b
          have hha : ∀ b, (p.asks.getD k default).2.testBit b = true → Lin nx (sA p b) (fun i => ¬ sS p b i) (sP p b) (p.asks.getD k default).1 := fun b hb => .ask ⟨_, hm, hb⟩
          generalize p.asks.getD k default = m at *
          obtain ⟨m1, m2⟩ := m
          dsimp only at *
          have hE := hr.out.2.2.1.enter hmi hmw hha
          have hrm := hr.out.2.2.1.room HN.out
          have HEN : Hid _ := fenter_any (hr.out.1.alloc (.cells #[.int .i64 (m1 : Int), .int .u64 (m2 : Int)] 87)) hrm.1 hmi hmw
          rw [HFF.out] at HEN
          have HFI2 : Hid (FI E.n nx (sA p) (sS p) (sP p) (fun _ _ _ => False) (f2.enter m1 m2) ∧ ∀ i b, HasM (p.asks.take (k + 1)) i b → tb (f2.enter m1 m2).into i b) := by
            refine ⟨hE.1, fun i b hh => ?_⟩
            rcases (htk i b).1 hh with q | ⟨e, q⟩
            · exact hE.2.2.2 i b (hr.out.2.2.2 i b q)
            · rw [e]; exact hE.2.1 b q
          have HKK : Hid _ := hr.out.2.1
          clear hr e1 hm hha hE hrm htk
          go_wp2_with (go_at_call 41; go_loud (refine Calls.mono (by exact HEN.out) ?_; rintro e w3 ⟨rfl, wv3, mv3, ss3, hF3, hK3⟩; have HF3 : Hid _ := hF3; have HK3 : Hid _ := hK3; clear hF3 hK3))
          go_roundw
          case rel => exact ⟨k + 1, _, wv3, mv3, ss3, by first | rfl | (congr 1; omega), by omega, HF3.out, HKK.out.trans HK3.out, HFI2.out.1, HFI2.out.2⟩
          case measure => simp [intOf]; omega
        · obtain rfl : k = n2 := by omega
          have HAK : Hid (∀ i b, HasM p.asks i b → tb f2.into i b) := fun i b hh => hr.out.2.2.2 i b (by rw [← HN1.out.2.1, List.take_length]; exact hh)
          obtain ⟨_, bx2⟩ := HBX.out _ _ _ _ _ hr.out.2.1 hr.out.1
          have HRR : Hid _ := hr.out.1
          have HKK : Hid _ := hr.out.2.1
          have HFI : Hid _ := hr.out.2.2.1
          clear hr
          go_wp2
          go_loopw [44] (fun vk wr => ∃ (k : Nat) (f2 : Fl) (wv2 mv2 : Value) (ss2 : List Slot), vk = .int .i64 k ∧ k ≤ n3 ∧ Hid (Fw E wr wv2 mv2 ss2 f2 ∧ Kp ss0 ss2 ∧ FI E.n nx (sA p) (sS p) (sP p) (fun _ _ _ => False) f2 ∧ (∀ i b, HasM p.asks i b → tb f2.into i b) ∧ ∀ i b, HasM (p.hands.take k) i b → tb f2.out i b)) (fun vk _ => n3 - (intOf vk).toNat)
          case atStart => exact ⟨0, _, _, _, _, rfl, by omega, HRR.out, HKK.out, HFI.out, HAK.out, fun i b hh => by simp [HasM] at hh⟩
          case round =>
            obtain ⟨k, f3, wv2, mv2, ss2, rfl, hk3, hr⟩ := hrel
            clear HRR HKK HFI bx2 HAK
            by_cases hkn3 : k < n3
            · have hkn' : (k : Int) < n3 := by omega
              have hkl : k < p.hands.length := by rw [HN1.out.2.2]; exact hkn3
              obtain ⟨j1, g1, e1⟩ := (HS.out.kp hr.out.2.1).jh
              rw [← HN1.out.2.2] at e1
              obtain ⟨g, c, hv, c0, c1⟩ := hr.out.1.heap.mark e1 hkl
              rw [HN1.out.2.2] at hv
              injection hv with hv1 hv2 hv3
              subst hv1; subst hv3
              clear hv2
              have hm := (getD_mk hkl).2
              have hmi := HP.out.h.lt _ hm
              have hmw := HP.out.h.w _ hm
              have hmz := HP.out.h.ne _ hm
              have htk := fun i b => hasM_take hkl i b
              have hha : ∀ b, (p.hands.getD k default).2.testBit b = true → Lout nx (sA p b) (fun i => ¬ sS p b i) (sP p b) (p.hands.getD k default).1 := fun b hb => .inl ⟨_, hm, hb⟩
              generalize p.hands.getD k default = m at *
              obtain ⟨m1, m2⟩ := m
              dsimp only at *
              have hE := hr.out.2.2.1.leave hmi hmw hmz hha
              have hrm := hr.out.2.2.1.room HN.out
              have HEN : Hid _ := fleave_any (hr.out.1.alloc (.cells #[.int .i64 (m1 : Int), .int .u64 (m2 : Int)] 87)) hrm.1 hrm.2 hmi hmw
              rw [HFF.out] at HEN
              have HFI2 : Hid (FI E.n nx (sA p) (sS p) (sP p) (fun _ _ _ => False) (f3.leave m1 m2) ∧ (∀ i b, HasM p.asks i b → tb (f3.leave m1 m2).into i b) ∧ ∀ i b, HasM (p.hands.take (k + 1)) i b → tb (f3.leave m1 m2).out i b) := by
                refine ⟨hE.1.mono fun _ _ _ _ hx => hx.1, fun i b hh => hE.2.2.2 i b (hr.out.2.2.2.1 i b hh), fun i b hh => ?_⟩
                rcases (htk i b).1 hh with q | ⟨e, q⟩
                · exact hE.2.2.1 i b (hr.out.2.2.2.2 i b q)
                · rw [e]; exact hE.2.1 b q
              have HKK : Hid _ := hr.out.2.1
              clear hr e1 hm hha hE hrm htk hmz
              go_wp2_with (go_at_call 42; go_loud (refine Calls.mono (by exact HEN.out) ?_; rintro e w3 ⟨rfl, wv3, mv3, ss3, hF3, hK3⟩; have HF3 : Hid _ := hF3; have HK3 : Hid _ := hK3; clear hF3 hK3))
              go_roundw
              case rel => exact ⟨k + 1, _, wv3, mv3, ss3, by first | rfl | (congr 1; omega), by omega, HF3.out, HKK.out.trans HK3.out, HFI2.out.1, HFI2.out.2.1, HFI2.out.2.2⟩
              case measure => simp [intOf]; omega
            · obtain rfl : k = n3 := by omega
              go_wp2
              go_end0
              exact ⟨rfl, f3, ss2, ⟨⟨wv2, mv2, ss2, hr.out.1, Kp.refl _⟩, hr.out.2.2.1, fun i b _ hh => hr.out.2.2.2.1 i b hh, fun i b _ hh => hr.out.2.2.2.2 i b (by rw [← HN1.out.2.2, List.take_length]; exact hh)⟩, hr.out.2.1⟩
end Go.Proofs.YtcggbedjhglmmaaGreatDoor
