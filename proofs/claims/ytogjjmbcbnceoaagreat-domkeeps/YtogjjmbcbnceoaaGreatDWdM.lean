/- The entry is met. -/
import Derived.Test.YtogjjmbcbnceoaaGreatDLv
namespace Go.Proofs.YtogjjmbcbnceoaaGreat
open Go.RowKit Lt

theorem meet_first {base b1 b2 b3 b4 pg n : Nat} {F : Value} {w : World} (hpos : 0 < n) (hn : n ≤ 2000000) (A : WAt w base ⟨b1, b2, b3, b4, pg, n, F⟩ ⟨-1, nilV, nilV, nilV, [], [], [], List.replicate n (-1)⟩) :
    Calls Tryz.prog 47 #[.int .i64 0, .pointer (some ⟨b1, 0, none⟩), .pointer (some ⟨b3, 0, none⟩), .pointer (some ⟨b2, 0, none⟩)] w fun r w' => r = .returned (.tuple #[]) ∧ (∃ nV fV gV, WAt w' base ⟨b1, b2, b3, b4, pg, n, F⟩ ⟨0, nV, fV, gV, [0], [-1], [0], (List.replicate n (-1)).set 0 0⟩) ∧ Below base w w' := by
  have h := meet_any base ⟨b1, b2, b3, b4, pg, n, F⟩ ⟨-1, nilV, nilV, nilV, [], [], [], List.replicate n (-1)⟩ 0 w A hpos (by simp) hn (by simp) (by simp) (by simp)
  simp only [List.length_nil, List.nil_append] at h
  refine Calls.mono h ?_
  rintro r w' ⟨h1, ⟨nV, fV, gV, h2⟩, h3⟩
  exact ⟨h1, ⟨nV, fV, gV, h2⟩, h3⟩
end Go.Proofs.YtogjjmbcbnceoaaGreat
/- The program's walk, whole. -/
namespace Go.Proofs.YtogjjmbcbnceoaaGreat
open Go.RowKit Lt

theorem wat_init {w14 : World} {base pg n : Nat} {F : Value} (hb : base ≤ pg) (ho : w14.ownsRow pg 3 1 (slV pg n) n ((List.replicate n (-1)).map intV)) :
    WAt ((((w14.alloc (.cells #[nilV, nilV, slV pg n] 46)).alloc (.cells #[nilV] 23)).alloc (.cells #[.int .i64 (-1)] 3)).alloc (.cells #[F] 89)) base ⟨w14.heap.size, w14.heap.size + 1, w14.heap.size + 1 + 1, w14.heap.size + 1 + 1 + 1, pg, n, F⟩ ⟨-1, nilV, nilV, nilV, [], [], [], List.replicate n (-1)⟩ := by
  have hl := ho.lt pg rfl
  obtain ⟨wa, hwa⟩ : ∃ wa, wa = w14.alloc (.cells #[nilV, nilV, slV pg n] 46) := ⟨_, rfl⟩
  obtain ⟨wb, hwb⟩ : ∃ wb, wb = wa.alloc (.cells #[nilV] 23) := ⟨_, rfl⟩
  obtain ⟨wc, hwc⟩ : ∃ wc, wc = wb.alloc (.cells #[.int .i64 (-1)] 3) := ⟨_, rfl⟩
  obtain ⟨wd, hwd⟩ : ∃ wd, wd = wc.alloc (.cells #[F] 89) := ⟨_, rfl⟩
  have sa : wa.heap.size = w14.heap.size + 1 := by rw [hwa]; simp
  have sb : wb.heap.size = w14.heap.size + 1 + 1 := by rw [hwb]; simp [sa]
  have sc : wc.heap.size = w14.heap.size + 1 + 1 + 1 := by rw [hwc]; simp [sb]
  have sd : wd.heap.size = w14.heap.size + 1 + 1 + 1 + 1 := by rw [hwd]; simp [sc]
  have ba : Below w14.heap.size w14 wa := by rw [hwa]; exact below_alloc (Below.refl _ _) _
  have bb : Below wa.heap.size wa wb := by rw [hwb]; exact below_alloc (Below.refl _ _) _
  have bc : Below wb.heap.size wb wc := by rw [hwc]; exact below_alloc (Below.refl _ _) _
  have bd : Below wc.heap.size wc wd := by rw [hwd]; exact below_alloc (Below.refl _ _) _
  have o1 : wd.ownsRow base 46 3 (.slice (some ⟨w14.heap.size, 0, none⟩) 1 1) 1 [nilV, nilV, slV pg n] := by
    have h9 := World.ownsRow_lit (base := base) (e := 46) (size := 3) w14 #[nilV, nilV, slV pg n] 1 (by omega) (by unfold maxLen; omega) (by simp)
    rw [← hwa] at h9
    exact owns_below (owns_below (owns_below h9 bb) bc) bd
  have o2 : wd.ownsRow base 23 1 (.slice (some ⟨w14.heap.size + 1, 0, none⟩) 1 1) 1 [nilV] := by
    have h9 := World.ownsRow_lit (base := base) (e := 23) (size := 1) wa #[nilV] 1 (by omega) (by unfold maxLen; omega) (by simp)
    rw [← hwb, sa] at h9
    exact owns_below (owns_below h9 bc) bd
  have o3 : wd.ownsRow base 3 1 (.slice (some ⟨w14.heap.size + 1 + 1, 0, none⟩) 1 1) 1 [intV (-1)] := by
    have h9 := World.ownsRow_lit (base := base) (e := 3) (size := 1) wb #[.int .i64 (-1)] 1 (by omega) (by unfold maxLen; omega) (by simp)
    rw [← hwc, sb] at h9
    exact owns_below h9 bd
  have o4 : wd.ownsRow base 89 1 (.slice (some ⟨w14.heap.size + 1 + 1 + 1, 0, none⟩) 1 1) 1 [F] := by
    have h9 := World.ownsRow_lit (base := base) (e := 89) (size := 1) wc #[F] 1 (by omega) (by unfold maxLen; omega) (by simp)
    rw [← hwd, sc] at h9
    exact h9
  have o5 : wd.ownsRow base 3 1 (slV pg n) n ((List.replicate n (-1)).map intV) := own_mono (owns_below (owns_below (owns_below (owns_below ho ba) bb) bc) bd) hb
  have ob : ∀ {g k : Nat} {e : TypeId} {sz q : Nat} {cs : List Value} {x : Nat}, (⟨.slice (some ⟨g, 0, none⟩) k k, e, sz, q, cs⟩ : Slot).v.ownBlock = some x → g = x := fun h => by simpa [Value.ownBlock] using h
  have N8 := Heap.cons (s := oneS (w14.heap.size + 1 + 1 + 1) 89 [F]) o4 (fun t ht => by cases ht) (Heap.nil wd base)
  have N7 := Heap.cons (s := rowM pg n (List.replicate n (-1))) o5 (fun t ht g hg e => by
    have h1 := ob hg
    rcases List.mem_cons.1 ht with rfl | ht
    · have := ob e; omega
    · cases ht) N8
  have N6 := Heap.cons (s := rowS nilV []) (World.ownsRow_nil _ _ _ _) (fun t _ g hg => by simp [Value.ownBlock] at hg) N7
  have N5 := Heap.cons (s := rowS nilV []) (World.ownsRow_nil _ _ _ _) (fun t _ g hg => by simp [Value.ownBlock] at hg) N6
  have N4 := Heap.cons (s := rowS nilV []) (World.ownsRow_nil _ _ _ _) (fun t _ g hg => by simp [Value.ownBlock] at hg) N5
  have far : ∀ (b : Nat), b ≠ pg → b < w14.heap.size + 1 + 1 + 1 → ∀ t ∈ [rowS nilV [], rowS nilV [], rowS nilV [], rowM pg n (List.replicate n (-1)), oneS (w14.heap.size + 1 + 1 + 1) 89 [F]], t.v.ownBlock ≠ some b := fun b h1 h2 t ht e => by
    rcases List.mem_cons.1 ht with rfl | ht
    · simp [Value.ownBlock] at e
    rcases List.mem_cons.1 ht with rfl | ht
    · simp [Value.ownBlock] at e
    rcases List.mem_cons.1 ht with rfl | ht
    · simp [Value.ownBlock] at e
    rcases List.mem_cons.1 ht with rfl | ht
    · exact h1 (ob e).symm
    rcases List.mem_cons.1 ht with rfl | ht
    · have := ob e; omega
    · cases ht
  have N3 := Heap.cons (s := oneS (w14.heap.size + 1 + 1) 3 [intV (-1)]) o3 (fun t ht g hg => by have h1 := ob hg; subst h1; exact far _ (by omega) (by omega) t ht) N4
  have N2 := Heap.cons (s := oneS (w14.heap.size + 1) 23 [nilV]) o2 (fun t ht g hg e => by
    have h1 := ob hg
    rcases List.mem_cons.1 ht with rfl | ht
    · have := ob e; omega
    · subst h1; exact far _ (by omega) (by omega) t ht e) N3
  have N1 := Heap.cons (s := oneS w14.heap.size 46 [nilV, nilV, slV pg n]) o1 (fun t ht g hg e => by
    have h1 := ob hg
    rcases List.mem_cons.1 ht with rfl | ht
    · have := ob e; omega
    rcases List.mem_cons.1 ht with rfl | ht
    · have := ob e; omega
    · subst h1; exact far _ (by omega) (by omega) t ht e) N2
  rw [← hwa, ← hwb, ← hwc, ← hwd]
  exact ⟨N1, by omega⟩
set_option maxRecDepth 100000 in
set_option maxHeartbeats 1000000 in
theorem walked_any (nx : List (List Int)) (v : Value) (w : World) (hN : NetAt w v nx) (hmay : May nx) (hb1 : nx.length ≤ 2000000) :
    Calls Tryz.prog 31 #[v] w fun e w' => ∃ (nsV fsV psV : Value) (ns fs ps : List Int), e = .returned (.agg #[nsV, fsV, psV]) ∧ Done nx ns fs ps ∧ IntsAt w' nsV ns ∧ IntsAt w' fsV fs ∧ IntsAt w' psV ps ∧ Below w.heap.size w w' := by
  obtain ⟨a, c, rfl, hll⟩ := hN.form
  have hpos := hmay.1
  obtain ⟨n, hnn⟩ : ∃ n, n = nx.length := ⟨_, rfl⟩
  have HNN : Hid _ := hnn
  rw [← hnn] at hpos hb1 hll
  rw [← hnn]
  obtain ⟨w13, hw13⟩ : ∃ w13, w13 = ((w.alloc (.cells #[.slice a n c] 22)).alloc (.cells #[.slice none 0 0, .slice none 0 0, .slice none 0 0] 46)).alloc (.cells #[.int .i64 (-1)] 3) := ⟨_, rfl⟩
  have hs13 : w13.heap.size = w.heap.size + 3 := by rw [hw13]; simp
  have hlit : w13.cell? ⟨w.heap.size + 1 + 1, 0, none⟩ = some (.int .i64 (-1)) := by
    have h9 := cell_lit1 ((w.alloc (.cells #[.slice a n c] 22)).alloc (.cells #[.slice none 0 0, .slice none 0 0, .slice none 0 0] 46)) (-1)
    rw [← hw13] at h9
    simpa using h9
  have HRP : Hid _ := repeat_any (-1) n (w.heap.size + 1 + 1) (by omega) (by omega) w13 hlit (by omega)
  obtain ⟨Wb, hWb⟩ : ∃ Wb, Wb = (w.alloc (.cells #[.slice a n c] 22)).alloc (.cells #[.slice none 0 0, .slice none 0 0, .slice none 0 0] 46) := ⟨_, rfl⟩
  have hsb : Wb.heap.size = w.heap.size + 2 := by rw [hWb]; simp
  have hbw : Below w.heap.size w Wb := by rw [hWb]; exact below_alloc (below_alloc (Below.refl _ _) _) _
  have hb13 : Below (w.heap.size + 2) Wb w13 := by
    have h9 := below_alloc (Below.refl _ Wb) (.cells #[.int .i64 (-1)] 3)
    rw [hsb] at h9
    rw [hw13, ← hWb]
    exact h9
  have HN0 : Hid (Wb.cell? ⟨w.heap.size, 0, none⟩ = some (.slice a n c)) := by
    show _ = _
    have h9 := (Box.new w [.slice a n c] 22).cell 0 _ rfl
    rw [hWb, World.cell?_alloc_lt _ _ _ (by simp)]
    exact h9
  have HRB : Hid (Box Wb (w.heap.size + 1) [.slice none 0 0, .slice none 0 0, .slice none 0 0]) := by
    have h9 := Box.new (w.alloc (.cells #[.slice a n c] 22)) [.slice none 0 0, .slice none 0 0, .slice none 0 0] 46
    rw [show (w.alloc (.cells #[.slice a n c] 22)).heap.size = w.heap.size + 1 by simp] at h9
    rw [hWb]
    exact h9
  have HNB : Hid (NetAt Wb (.slice a n c) nx) := by
    have h9 := hN.below hbw
    show NetAt _ _ _
    rw [hnn]
    exact h9
  have HM : Hid _ := hmay
  have HBW : Hid _ := hbw
  have HB13 : Hid _ := hb13
  have HWS : Hid (WI nx [0] [-1] [0] ((List.replicate n (-1)).set 0 0) [0]) := by rw [HNN.out]; exact WI.start (by rw [← HNN.out]; exact hpos)
  have hsf := fun (a : Addr) (fn : Fn) (f c : Array Value) (m : Mode) (w : World) => run_store Tryz.prog w a (.func fn f c) m rfl
  clear hN hmay hnn hbw hb13 hWb
  go_enter Tryz.func31, Tryz.ntmps31
  go_wp2_with (first
    | (go_at_call 32; go_loud (rw [← hw13]; refine Calls.mono (by exact HRP.out) ?_; rintro e w14 ⟨rfl, ho14, hb14⟩; have HO14 : Hid (w14.ownsRow (w.heap.size + 3) 3 1 (slV (w.heap.size + 3) n) n ((List.replicate n (-1)).map intV)) := (by have h9 : w14.ownsRow w13.heap.size 3 1 (slV w13.heap.size n) (List.replicate n (-1 : Int)).length ((List.replicate n (-1)).map intV) := ho14; rw [List.length_replicate, hs13] at h9; exact h9); have HB14 : Hid (Below (w.heap.size + 2) Wb w14) := HB13.out.trans (hb14.mono (by omega)); have n14 : w14.cell? ⟨w.heap.size, 0, none⟩ = some (.slice a n c) := (HB14.out.cell (p := ⟨w.heap.size, 0, none⟩) (show w.heap.size < w.heap.size + 2 by omega)).trans HN0.out; have hs14 : w.heap.size + 3 < w14.heap.size := (HO14.out.lt _ rfl).2; clear ho14 hb14 hw13 hlit))
    | (go_at_call 47; go_loud (obtain ⟨w15, hw15⟩ : ∃ w15, w15 = ((((w14.alloc (.cells #[.slice none 0 0, .slice none 0 0, .slice (some ⟨w.heap.size + 3, 0, none⟩) n n] 46)).alloc (.cells #[.slice none 0 0] 23)).alloc (.cells #[.int .i64 (-1)] 3)).alloc (.cells #[.func (.func 47) #[] #[.pointer (some ⟨w14.heap.size, 0, none⟩), .pointer (some ⟨w14.heap.size + 1 + 1, 0, none⟩), .pointer (some ⟨w14.heap.size + 1, 0, none⟩)]] 89)) := ⟨_, rfl⟩; rw [← hw15]; have hA15 : WAt w15 (w.heap.size + 2) ⟨w14.heap.size, w14.heap.size + 1, w14.heap.size + 1 + 1, w14.heap.size + 1 + 1 + 1, w.heap.size + 3, n, (.func (.func 47) #[] #[ptr w14.heap.size, ptr (w14.heap.size + 1 + 1), ptr (w14.heap.size + 1)])⟩ ⟨-1, nilV, nilV, nilV, [], [], [], List.replicate n (-1)⟩ := (by rw [hw15]; exact wat_init (by omega) HO14.out); have hB15 : Below (w.heap.size + 2) Wb w15 := HB14.out.trans (by rw [hw15]; exact bel_alloc (bel_alloc (bel_alloc (bel_alloc (Below.refl _ _) (by omega) _) (by omega) _) (by omega) _) (by omega) _); refine Calls.mono (by exact meet_first hpos hb1 hA15) ?_; rintro e w16 ⟨rfl, ⟨nV, fV, gV, hA16⟩, hB16⟩; have HA16 : Hid (WAt w16 (w.heap.size + 2) ⟨w14.heap.size, w14.heap.size + 1, w14.heap.size + 1 + 1, w14.heap.size + 1 + 1 + 1, w.heap.size + 3, n, (.func (.func 47) #[] #[ptr w14.heap.size, ptr (w14.heap.size + 1 + 1), ptr (w14.heap.size + 1)])⟩ ⟨0, nV, fV, gV, [0], [-1], [0], (List.replicate n (-1)).set 0 0⟩) := hA16; have HB16 : Hid (Below (w.heap.size + 2) Wb w16) := hB15.trans hB16; clear hA16 hB16 hA15 hB15 hw15)))
  clear hsf n14 HO14 HB14 HRP HB13
  go_loopg [17] (leftW nx.length [0] [0]) (fun gm _ wr => ∃ (s : WSt) (st : List Nat), Hid (WI nx s.ns s.fs s.gs s.ps st ∧ WAt wr (w.heap.size + 2) ⟨w14.heap.size, w14.heap.size + 1, w14.heap.size + 1 + 1, w14.heap.size + 1 + 1 + 1, w.heap.size + 3, n, (.func (.func 47) #[] #[ptr w14.heap.size, ptr (w14.heap.size + 1 + 1), ptr (w14.heap.size + 1)])⟩ s ∧ s.at' = topI st ∧ leftW nx.length s.ns st ≤ gm ∧ Below (w.heap.size + 2) Wb wr))
  case atStart => exact ⟨_, [0], HWS.out, HA16.out, rfl, Nat.le_refl _, HB16.out⟩
  case round =>
    obtain ⟨s, st, hq⟩ := hrel
    clear HWS HA16 HB16
    obtain ⟨hW, hA, hat, hlm, hBw⟩ := hq.out
    have c4 := hA.ab.1
    simp only at c4
    rw [hat] at c4
    rcases st with _ | ⟨z, st⟩
    · have c5 : wr.cell? ⟨w14.heap.size + 1 + 1, 0, none⟩ = some (.int .i64 (-1)) := c4
      obtain ⟨k1, k2, k3⟩ := hA.wb
      simp only at k1 k2 k3
      have hbx : Box wr (w.heap.size + 1) [.slice none 0 0, .slice none 0 0, .slice none 0 0] := HRB.out.same (hBw.block _ (by omega))
      have hD := hW.done
      have hn1 := wi_le hW
      have hn2 := hW.lf
      have hn3 := hW.lp
      have HD : Hid _ := hD
      obtain ⟨na, nc, hnV⟩ := own_sl hA.rn
      obtain ⟨fa, fc, hfV⟩ := own_sl hA.rf
      rw [hnV] at k1
      rw [hfV] at k2
      have r0 := hbx.cell 0 _ rfl
      have r1 := hbx.cell 1 _ rfl
      have r2 := hbx.cell 2 _ rfl
      have q0 := hbx.fz 0
      have q1 := hbx.fz 1
      have q2 := hbx.fz 2
      have hb4 := ((hbx.set (j := 0) (by simp) (.slice na s.ns.length nc)).set (j := 1) (by simp) (.slice fa s.fs.length fc)).set (j := 2) (by simp) (slV (w.heap.size + 3) n)
      have HB4 : Hid _ := hb4
      have far : ∀ (v : Value) (p : List Int), p.length ≤ 2000000 → wr.ownsRow (w.heap.size + 2) 3 1 v p.length (p.map intV) → IntsAt (((wr.setCell ⟨w.heap.size + 1, 0, none⟩ (.slice na s.ns.length nc)).setCell ⟨w.heap.size + 1, 1, none⟩ (.slice fa s.fs.length fc)).setCell ⟨w.heap.size + 1, 2, none⟩ (slV (w.heap.size + 3) n)) v p := fun v p hp ho => by
        have hne : v.ownBlock ≠ some (w.heap.size + 1) := fun e9 => by have := (ho.lt _ e9).1; omega
        exact OwnI.at' (owns_other (owns_other (owns_other ho hne _) hne _) hne _) (by omega)
      have hro := hA.rn
      have hrf := hA.rf
      rw [hnV] at hro
      rw [hfV] at hrf
      have HI1 : Hid _ := far _ s.ns (by have := HNN.out; omega) hro
      have HI2 : Hid _ := far _ s.fs (by have := HNN.out; omega) hrf
      have HI3 : Hid _ := far (slV (w.heap.size + 3) n) s.ps (by rw [hn3, ← HNN.out]; exact hb1) (by
        have h9 : wr.ownsRow (w.heap.size + 2) 3 1 (slV (w.heap.size + 3) n) n (s.ps.map intV) := hA.hp.own 6 _ rfl
        rw [hn3, ← HNN.out]
        exact h9)
      have HB9 : Hid (Below w.heap.size w (((wr.setCell ⟨w.heap.size + 1, 0, none⟩ (.slice na s.ns.length nc)).setCell ⟨w.heap.size + 1, 1, none⟩ (.slice fa s.fs.length fc)).setCell ⟨w.heap.size + 1, 2, none⟩ (slV (w.heap.size + 3) n))) := by
        have t1 : Below w.heap.size w wr := HBW.out.trans (hBw.mono (by omega))
        exact below_set (below_set (below_set t1 (by omega) _ _) (by omega) _ _) (by omega) _ _
      have hres : ∀ (t : Array Value) (Wf : World) (a b c : Value), t.getD 2 undef = .pointer (some ⟨w.heap.size + 1, 0, none⟩) → Wf.cell? ⟨w.heap.size + 1, 0, none⟩ = some a → Wf.cell? ⟨w.heap.size + 1, 1, none⟩ = some b → Wf.cell? ⟨w.heap.size + 1, 2, none⟩ = some c → (results Tryz.f31 t).run Tryz.prog Wf = .ok (.agg #[a, b, c]) Wf := by
        intro t Wf a b c ht h0 h1 h2
        have ht' : t[2]?.getD undef = .pointer (some ⟨w.heap.size + 1, 0, none⟩) := by simpa using ht
        simp [results, Tryz.results31, go_sem, ht', h0, h1, h2]
      have HRS : Hid _ := hres
      clear hq hW hA hat hlm hBw hbx hD hn1 hn2 hn3 hnV hfV hb4 far hro hrf hres c4
      go_wp2
      exact bodyPost_ret (HRS.out _ _ _ _ _ rfl (HB4.out.cell 0 _ rfl) (HB4.out.cell 1 _ rfl) (HB4.out.cell 2 _ rfl)) rfl ⟨_, _, _, s.ns, s.fs, s.ps, rfl, HD.out, HI1.out, HI2.out, HI3.out, HB9.out⟩
    · have c5 : wr.cell? ⟨w14.heap.size + 1 + 1, 0, none⟩ = some (.int .i64 (z : Int)) := c4
      have hzn : ¬ (z : Int) = -1 := by omega
      have hzn' : ((z : Int) != -1) = true := by simp [hzn]
      have HLV : Hid (Calls Tryz.prog 48 #[.pointer (some ⟨w.heap.size, 0, none⟩), .pointer (some ⟨w14.heap.size, 0, none⟩), .pointer (some ⟨w14.heap.size + 1 + 1, 0, none⟩), .pointer (some ⟨w14.heap.size + 1, 0, none⟩), .pointer (some ⟨w14.heap.size + 1 + 1 + 1, 0, none⟩)] wr fun r w' => r = .returned (.tuple #[]) ∧ LeftTo nx (w.heap.size + 2) ⟨w14.heap.size, w14.heap.size + 1, w14.heap.size + 1 + 1, w14.heap.size + 1 + 1 + 1, w.heap.size + 3, n, (.func (.func 47) #[] #[ptr w14.heap.size, ptr (w14.heap.size + 1 + 1), ptr (w14.heap.size + 1)])⟩ s (z :: st) wr w') := leave_any nx HM.out (by rw [← HNN.out]; exact hb1) (w.heap.size + 2) ⟨w14.heap.size, w14.heap.size + 1, w14.heap.size + 1 + 1, w14.heap.size + 1 + 1 + 1, w.heap.size + 3, n, (.func (.func 47) #[] #[ptr w14.heap.size, ptr (w14.heap.size + 1 + 1), ptr (w14.heap.size + 1)])⟩ s z st w.heap.size (.slice a n c) Wb wr HNB.out (by omega) hBw (by omega) ((hBw.cell (p := ⟨w.heap.size, 0, none⟩) (show w.heap.size < w.heap.size + 2 by omega)).trans HN0.out) hW hA hat HNN.out rfl
      have HLM : Hid _ := hlm
      have HBW2 : Hid _ := hBw
      clear hq hW hA hat hlm hBw c4
      go_wp2_with (go_at_call 48; go_loud (refine Calls.mono (by exact HLV.out) ?_; rintro e w17 ⟨rfl, ⟨s2, st2, hW2, hA2, hat2, hl2⟩, hB2⟩; have HW2 : Hid _ := hW2; have HA2 : Hid _ := hA2; have HAT2 : Hid _ := hat2; have HL2 : Hid _ := hl2; have HB2 : Hid _ := HBW2.out.trans hB2; clear hW2 hA2 hat2 hl2 hB2))
      go_roundg (leftW nx.length s2.ns st2)
      case measure => have := HL2.out; have := HLM.out; omega
      case rel => exact ⟨s2, st2, HW2.out, HA2.out, HAT2.out, Nat.le_refl _, HB2.out⟩
end Go.Proofs.YtogjjmbcbnceoaaGreat
