/- The law's own: is a graph great? -/
import Derived.Test.YtcggbedjhglmmaaGreatDoorLNfM
import Derived.Test.YtcggbedjhglmmaaGreatDoorGChk3M
import Derived.Test.YtcggbedjhglmmaaGreatDoorLAw
import Derived.Test.YtcggbedjhglmmaaGreatDoorLUnc
import Derived.Deep.Upon
import Derived.ArgAppend
import Derived.Test.YtcggbedjhglmmaaGreatDoorLWoc
namespace Go.Proofs.YtcggbedjhglmmaaGreatDoor
open Go.RowKit

def argS (l : List In) : Nat := (l.map fun x => x.args.length).sum
theorem argS_szI : ∀ l : List In, szI l = argS l + l.length
  | [] => rfl
  | x :: l => by
    have := argS_szI l
    unfold szI argS at *
    simp only [List.map_cons, List.sum_cons, List.length_cons]
    omega
theorem argS_drop {l : List In} {k : Nat} (h : k < l.length) : argS (l.drop k) = (l.getD k default).args.length + argS (l.drop (k + 1)) := by
  have e : l.getD k default = l[k] := by simp [List.getD, List.getElem?_eq_getElem h]
  rw [e, List.drop_eq_getElem_cons h]
  rfl
theorem argS_end (l : List In) : argS (l.drop l.length) = 0 := by rw [List.drop_length]; rfl
theorem szB_end (l : List Bl) : szB (l.drop l.length) = 0 := by rw [List.drop_length]; rfl
set_option maxRecDepth 100000 in
set_option maxHeartbeats 2000000 in
theorem greatL_any (G : Gr) (pv vv av bv : Value) (w : World) (h : GrAt w pv vv av bv G) :
    Calls Tryz.prog 5 #[.agg #[.string G.name, pv, .int .u8 G.result, vv, av, bv]] w fun e w' => ∃ b, e = .returned (.bool b) ∧ Hid (b = false → szB G.blocks ≤ 720 ∧ G.vars.length ≤ 240) ∧ Below w.heap.size w w' := by
  obtain ⟨pa, pc, va, vc, aa, ac, ba, bc, rfl, rfl, rfl, rfl, hpl, hml, hal, hbl⟩ := h.openF
  have HB : Hid (∀ i, i < G.blocks.length → _) := fun i hi => h.bs.get (i := i) hi
  have HSD : Hid (∀ i, i < G.blocks.length → szB (G.blocks.drop i) = argS (G.blocks.getD i default).ins + (G.blocks.getD i default).ins.length + 1 + szB (G.blocks.drop (i + 1))) := fun i hi => by
    have h9 := szB_drop hi
    rw [argS_szI] at h9
    exact h9
  have HSE : Hid (szB (G.blocks.drop G.blocks.length) = 0) := szB_end _
  obtain ⟨nm, ps, r, vs, ars, bs⟩ := G
  dsimp only at HB HSD HSE hbl hpl hml hal ⊢
  clear h
  obtain ⟨Z, hZ⟩ : ∃ Z, Z = szB bs := ⟨_, rfl⟩
  rw [← hZ]
  have HZ0 : Hid (Z = szB (bs.drop 0)) := hZ
  clear hZ
  generalize bs.length = n at *
  generalize ps.length = pl at *
  generalize vs.length = m at *
  generalize ars.length = al at *
  have hpl' : (pl : Int) ≤ 140737488355328 := by omega
  have hml' : (m : Int) ≤ 140737488355328 := by omega
  have hal' : (al : Int) ≤ 140737488355328 := by omega
  have H0 : Hid (Below w.heap.size w (w.alloc (.cells #[.string nm, .slice pa pl pc, .int .u8 r, .slice va m vc, .slice aa al ac, .slice ba n bc] 28)) ∧ Box (w.alloc (.cells #[.string nm, .slice pa pl pc, .int .u8 r, .slice va m vc, .slice aa al ac, .slice ba n bc] 28)) w.heap.size [.string nm, .slice pa pl pc, .int .u8 r, .slice va m vc, .slice aa al ac, .slice ba n bc]) := ⟨below_alloc (Below.refl _ _) _, Box.new w [.string nm, .slice pa pl pc, .int .u8 r, .slice va m vc, .slice aa al ac, .slice ba n bc] 28⟩
  obtain ⟨C, hCt, hCf, hCn⟩ : ∃ C : Bool → Prop, C true ∧ (Z ≤ 720 ∧ m ≤ 240 → C false) ∧ (∀ b, C b → Hid (b = false → Z ≤ 720 ∧ m ≤ 240)) := ⟨fun b => b = false → Z ≤ 720 ∧ m ≤ 240, (fun h => nomatch h), (fun h _ => h), (fun b h => h)⟩
  have HCT : Hid (C true) := hCt
  have HCF : Hid (Z ≤ 720 ∧ m ≤ 240 → C false) := hCf
  refine Calls.mono (R := fun e w' => ∃ b, e = .returned (.bool b) ∧ C b ∧ Below w.heap.size w w') ?_ (fun e w' ⟨b, he, hc, hb⟩ => ⟨b, he, hCn b hc, hb⟩)
  clear hCt hCf hCn
  go_enter Tryz.func5, Tryz.ntmps5
  go_wp2
  go_loopw [3, 4] (fun vn vi wr => ∃ (x i : Nat), vn = .int .i64 (x : Int) ∧ vi = .int .i64 i ∧ i ≤ n ∧ x ≤ 422212465065984 ∧ Hid ((Below w.heap.size w wr ∧ Box wr w.heap.size [.string nm, .slice pa pl pc, .int .u8 r, .slice va m vc, .slice aa al ac, .slice ba n bc]) ∧ (x ≤ 720 → Z = x + szB (bs.drop i)))) (fun _ vi _ => n - (intOf vi).toNat)
  case atStart => exact ⟨0, 0, rfl, rfl, by omega, by omega, H0.out, fun _ => by rw [Nat.zero_add]; exact HZ0.out⟩
  case round =>
    obtain ⟨x, i, rfl, rfl, hi, hx, hr⟩ := hrel
    clear H0 HZ0
    obtain ⟨e0, e1, e2, e3, e4, e5⟩ := box6 hr.out.1.2
    have hwl := hr.out.1.2.lt
    have hx' : (x : Int) ≤ 422212465065984 := by omega
    by_cases hbig : 720 < x
    · have hb1 : ¬ (x : Int) ≤ 720 := by omega
      have hb2 : (720 : Int) < x := by omega
      have HX : Hid _ := hr.out.1.1
      clear HB HSD HSE hr
      by_cases hin : i < n
      · have hin' : (i : Int) < n := by omega
        go_wp2
        go_ret
        first | exact ⟨true, rfl, HCT.out, HX.out⟩ | exact Or.inr ⟨rfl, HCT.out, HX.out⟩
      · have hin' : ¬ (i : Int) < n := by omega
        go_wp2
        go_ret
        first | exact ⟨true, rfl, HCT.out, HX.out⟩ | exact Or.inr ⟨rfl, HCT.out, HX.out⟩
    have hb1 : (x : Int) ≤ 720 := by omega
    have hb2 : ¬ (720 : Int) < x := by omega
    by_cases hin : i < n
    · obtain ⟨g, o, iv, rfl, hg, c0, c1, c2, c3, c4, c5, hins⟩ := HB.out i hin
      obtain ⟨ia, ic, rfl, hil⟩ := hins.form
      have hin' : (i : Int) < n := by omega
      have HE : Hid (Z = x + szB (bs.drop i)) := hr.out.2 (by omega)
      have HS1 : Hid _ := HSD.out i hin
      have HRR : Hid _ := hr.out.1
      generalize (bs.getD i default).ins = L at *
      have HI : Hid (∀ k, k < L.length → _) := fun k hk => hins.get (i := k) hk
      have HC0 : Hid _ := c0
      have HG : Hid (g < w.heap.size) := hg
      have c0' : wr.cell? ⟨g, o + i * 6, none⟩ = some (.slice ia L.length ic) := (hr.out.1.1.cell (p := ⟨g, o + i * 6, none⟩) hg).trans c0
      have hil' : (L.length : Int) ≤ 140737488355328 := by omega
      have HQ0 : Hid (x + 1 + L.length ≤ 720 → Z = x + 1 + L.length + argS (L.drop 0) + szB (bs.drop (i + 1))) := fun _ => by have h8 := HE.out; have h9 := HS1.out; rw [List.drop_zero]; omega
      clear HB c0 c1 c2 c3 c4 c5 hins hg hr HE HS1 HSD
      generalize wr = wo at *
      go_wp2
      go_loopw [3, 5] (fun vn vk wr => ∃ (y k : Nat), vn = .int .i64 (y : Int) ∧ vk = .int .i64 k ∧ k ≤ L.length ∧ y ≤ 422212465065984 ∧ Hid ((Below w.heap.size w wr ∧ Box wr w.heap.size [.string nm, .slice pa pl pc, .int .u8 r, .slice va m vc, .slice aa al ac, .slice (some ⟨g, o, none⟩) n bc]) ∧ (y ≤ 720 → Z = y + argS (L.drop k) + szB (bs.drop (i + 1))))) (fun _ vk _ => L.length - (intOf vk).toNat)
      case atStart => exact ⟨x + 1 + L.length, 0, by first | rfl | (congr 1; omega) | (simp; omega), rfl, by omega, by omega, HRR.out, HQ0.out⟩
      case round =>
        obtain ⟨y, k, rfl, rfl, hk, hyl, hq⟩ := hrel
        clear e0 e1 e2 e3 e4 e5 c0' HQ0
        obtain ⟨e0, e1, e2, e3, e4, e5⟩ := box6 hq.out.1.2
        have hwl2 := hq.out.1.2.lt
        have hyl' : (y : Int) ≤ 422212465065984 := by omega
        have c0' : wr.cell? ⟨g, o + i * 6, none⟩ = some (.slice ia L.length ic) := (hq.out.1.1.cell (p := ⟨g, o + i * 6, none⟩) HG.out).trans HC0.out
        by_cases hkn : k < L.length
        · have hkn' : (k : Int) < L.length := by omega
          obtain ⟨gi, oi, xv, rfl, hgi, d0, d1, d2, d3, d4, d5, hxa⟩ := HI.out k hkn
          obtain ⟨xa, xc, rfl, hxl⟩ := hxa.form
          have d3' := (hq.out.1.1.cell (p := ⟨gi, oi + k * 6 + 3, none⟩) hgi).trans d3
          have HA : Hid _ := argS_drop hkn
          generalize (L.getD k default).args.length = xn at *
          have hxl' : (xn : Int) ≤ 140737488355328 := by omega
          clear d0 d1 d2 d3 d4 d5 hxa HI hgi
          by_cases hy : y ≤ 720
          · have hy' : (y : Int) ≤ 720 := by omega
            have HN : Hid (y + xn ≤ 720 → Z = y + xn + argS (L.drop (k + 1)) + szB (bs.drop (i + 1))) := fun _ => by have h8 := hq.out.2 hy; have h9 := HA.out; omega
            have HQ1 : Hid _ := hq.out.1
            clear hq HA
            go_wp2
            go_roundw
            case rel => exact ⟨y + xn, k + 1, by first | rfl | (congr 1; omega) | (simp; omega), by first | rfl | (congr 1; omega), by omega, by omega, HQ1.out, HN.out⟩
            case measure => simp [intOf]; omega
          · have hy' : ¬ (y : Int) ≤ 720 := by omega
            have HQ1 : Hid _ := hq.out.1
            clear hq HA
            go_wp2
            go_roundw
            case rel => exact ⟨y, i + 1, rfl, by first | rfl | (congr 1; omega), by omega, by omega, HQ1.out, fun hc => by omega⟩
            case measure => simp [intOf]; omega
        · obtain rfl : k = L.length := by omega
          have HN : Hid (y ≤ 720 → Z = y + szB (bs.drop (i + 1))) := fun hy => by have h8 := hq.out.2 hy; rw [argS_end] at h8; omega
          have HQ1 : Hid _ := hq.out.1
          clear HI hq
          go_wp2
          go_roundw
          case rel => exact ⟨y, i + 1, rfl, by first | rfl | (congr 1; omega), by omega, by omega, HQ1.out, HN.out⟩
          case measure => simp [intOf]; omega
    · obtain rfl : i = n := by omega
      have HZ : Hid (Z ≤ 720) := by have h8 := hr.out.2 (by omega); rw [HSE.out] at h8; show _ ≤ _; omega
      have HX : Hid _ := hr.out.1.1
      clear HB HSD HSE hr
      by_cases h2 : 240 < m
      · have h2' : (240 : Int) < m := by omega
        go_wp2
        go_ret
        first | exact ⟨true, rfl, HCT.out, HX.out⟩ | exact Or.inr ⟨rfl, HCT.out, HX.out⟩
      have h2' : ¬ (240 : Int) < m := by omega
      by_cases h3 : 720 < al
      · have h3' : (720 : Int) < al := by omega
        go_wp2
        go_ret
        first | exact ⟨true, rfl, HCT.out, HX.out⟩ | exact Or.inr ⟨rfl, HCT.out, HX.out⟩
      have h3' : ¬ (720 : Int) < al := by omega
      by_cases h4 : 120 < pl
      · have h4' : (120 : Int) < pl := by omega
        go_wp2
        go_ret
        first | exact ⟨true, rfl, HCT.out, HX.out⟩ | exact Or.inr ⟨rfl, HCT.out, HX.out⟩
      have h4' : ¬ (120 : Int) < pl := by omega
      have HM : Hid (m ≤ 240) := by show _ ≤ _; omega
      go_wp2
      go_ret
      first | exact ⟨false, rfl, HCF.out ⟨HZ.out, HM.out⟩, HX.out⟩ | exact Or.inl ⟨rfl, HCF.out ⟨HZ.out, HM.out⟩, HX.out⟩
end Go.Proofs.YtcggbedjhglmmaaGreatDoor
/- What live tells, as its law reads it. -/
namespace Go.Proofs.YtcggbedjhglmmaaGreatDoor
open Go.RowKit

theorem made_z (v : Value) (n : Nat) : (madeCells #[v] n).toList = List.replicate n v := by
  refine List.ext_getElem (by simp [size_madeCells]) fun k h1 h2 => ?_
  rw [List.getElem_replicate]
  simp [madeCells, Nat.mod_one]
theorem made_row (e : TypeId) (z : Value) (W : World) (n base : Nat) (hn : n ≤ 1000000) (hb : base ≤ W.heap.size) : (W.alloc (.cells (madeCells #[z] n) e)).ownsRow base e 1 (.slice (some ⟨W.heap.size, 0, none⟩) n n) n (List.replicate n z) := by
  have h := World.ownsRow_lit (base := base) (e := e) (size := 1) W (madeCells #[z] n) n hb (by unfold maxLen; omega) (by simp [size_madeCells])
  rw [made_z] at h
  exact h
theorem lvpost_yes {w : World} {bs : List Bl} {ah : List (List Int)} {n vl : Nat} {e : Ending} {w' : World} (hn : n ≤ 100000) (hv : vl ≤ 800000) (h : LvPost w true bs ah n vl e w') :
    (∃ gA gB, e = .returned (.tuple #[.slice (some ⟨gA, 0, none⟩) n n, .slice (some ⟨gB, 0, none⟩) n n, .int .i64 0]) ∧ NetAt w' (.slice (some ⟨gA, 0, none⟩) n n) ((List.range n).map fun i => rowV (fun v => liveIn bs ah v i) vl) ∧ NetAt w' (.slice (some ⟨gB, 0, none⟩) n n) ((List.range n).map fun i => rowV (fun v => liveOut bs ah v i) vl)) ∧ Below w.heap.size w w' := by
  obtain ⟨hb, ⟨hf, _⟩ | ⟨_, gA, gB, ka, kb, he, h1, h2⟩⟩ := h
  · exact absurd hf (by decide)
  · refine ⟨⟨gA, gB, he, h1.at' (by omega) ?_, h2.at' (by omega) ?_⟩, hb⟩
    · intro r hr
      obtain ⟨i, _, rfl⟩ := List.mem_map.1 hr
      exact Nat.le_trans (rowV_len _ _) (by omega)
    · intro r hr
      obtain ⟨i, _, rfl⟩ := List.mem_map.1 hr
      exact Nat.le_trans (rowV_len _ _) (by omega)
theorem lvpost_no {w : World} {bs : List Bl} {ah : List (List Int)} {n vl : Nat} {e : Ending} {w' : World} (h : LvPost w false bs ah n vl e w') : e = .returned (.tuple #[.slice none 0 0, .slice none 0 0, .int .i64 4]) ∧ Below w.heap.size w w' := by
  obtain ⟨hb, ⟨_, he⟩ | ⟨hf, _⟩⟩ := h
  · exact ⟨he, hb⟩
  · exact absurd hf (by decide)
theorem net_nil (w : World) : NetAt w (.slice none 0 0) ([] : List (List Int)) := ⟨[], rfl, row_nil _ _, fun i r kv hr => by simp at hr⟩
end Go.Proofs.YtcggbedjhglmmaaGreatDoor
/- Lists copied: numbers, types, arrays. -/
namespace Go.Proofs.YtcggbedjhglmmaaGreatDoor
open Go.RowKit

theorem wpList_append_none {P : Program} (w : World) {ops : Array Oper} {rest : List Oper} {o : Oper} {a : Act} {Q : Exit → Act → World → Prop}
    (hg : o.guard = none) (s x : Operand) (t : TypeId) (hop : o.op = Op.call { callee := Callee.builtin Builtin.append, args := #[s, x], argTypes := #[t, t] }) (v y : Value) (hs : a.eval s = v) (hx : a.eval x = y)
    (hrun : (Builtin.append_ #[t, t] o.type #[v, y]).run P w = .ok v w) (hK : wpList P ops Q rest (a.put o.dst v) w) : wpList P ops Q (o :: rest) a w := by
  refine wpList_plain hg fun K hK' => ?_
  unfold Oper.wp
  simp [execOp, hop, resolve, invoke, builtin, hs, hx, hrun, Result.andThen]
  exact hK' _ _ hK
theorem RowAt.none0 {w : World} {n c : Nat} {cs : List Value} (h : RowAt w (.slice none n c) n cs) : n = 0 := by
  obtain ⟨a', c', hv, _, hc⟩ := h
  injection hv with e1 e2 e3
  subst e1
  rcases hc with h0 | ⟨g, o, e, _⟩
  · exact h0
  · cases e
theorem none_copyI (a : Option Addr) (c2 : Nat) (W : World) : (Builtin.append_ #[22, 22] 22 #[.slice none 0 0, .slice a 0 c2]).run Tryz.prog W = .ok (.slice none 0 0) W := by
  obtain ⟨i0, hi0, hz0, hz1, hz2⟩ := info_parts infoI
  refine run_append_nothing W 22 22 22 3 i0 Tryz.underlying22 hi0 none 0 0 (Nat.le_refl _) _ ?_
  refine ⟨.inl ⟨_, Tryz.underlying22⟩, fun w' => by simp [Builtin.lenOf], ?_, ?_, by simp, by simp⟩
  · cases a with
    | none => simp [Builtin.firstCells]
    | some a => simp [Builtin.firstCells]; first | rfl | simp [loadCells]
  · cases a with
    | none => simp [Builtin.firstCells]
    | some a => simp [Builtin.firstCells]; first | rfl | simp [loadCells]
set_option maxRecDepth 100000 in
set_option maxHeartbeats 1000000 in
theorem copyI_any {w : World} {a : Option Addr} {n c : Nat} {cs : List Value} (h : RowAt w (.slice a n c) n cs) (hl : cs.length = n * 1) (hn : n ≤ 1000000) (h1 : ∀ u ∈ cs, u.oneCell' = true) :
    Calls Tryz.prog 61 #[.slice a n c] w fun e w' => ∃ v', e = .returned v' ∧ w'.ownsRow w.heap.size 3 1 v' n cs ∧ Below w.heap.size w w' := by
  by_cases h0 : n = 0
  · subst h0
    have hcs : cs = [] := List.eq_nil_of_length_eq_zero (by simpa using hl)
    subst hcs
    have hap := none_copyI a c
    clear h hl hn h1
    go_enter Tryz.func61, Tryz.ntmps61
    go_wp2_with (at_builtin; go_loud (refine wpList_append_none _ rfl _ _ 22 rfl (.slice none 0 0) (.slice a 0 c) rfl rfl (hap _) ?_))
    go_ret
    exact ⟨_, rfl, World.ownsRow_nil _ _ _ _, Below.refl _ _⟩
  · cases a with
    | none => exact absurd h.none0 h0
    | some ad =>
      obtain ⟨i0, hi0, hz0, hz1, hz2⟩ := info_parts infoI
      have HC : Hid (∀ j u, cs[j]? = some u → w.cell? (ad.add j) = some u) := by
        intro j u hj
        obtain ⟨a', c', hv, _, hc⟩ := h
        injection hv with e1 e2 e3
        subst e1
        rcases hc with h0' | ⟨g, o, e, hg, hc⟩
        · exact absurd h0' h0
        · cases e
          rw [Addr.add_lit]
          exact hc j u hj
      have HL : Hid (cs.length = n * 1) := hl
      have H1 : Hid (∀ u ∈ cs, u.oneCell' = true) := h1
      have HN : Hid (n ≤ 1000000) := hn
      clear h hl hn h1
      go_enter Tryz.func61, Tryz.ntmps61
      go_wp2_with (at_builtin; go_loud (refine wpList_append_own_at _ rfl _ _ 22 rfl w.heap.size 3 i0 (.int .i64 0) 1 8 Tryz.underlying22 hi0 hz0 hz1 hz2 rfl (by decide) (.slice none 0 0) 0 [] rfl (World.ownsRow_nil _ _ _ _) ad n c cs rfl HL.out HC.out H1.out ?c3 ?c4 ?c5 ?_))
      case c3 => have := HN.out; unfold maxLen; omega
      case c4 => have := HN.out; omega
      case c5 => exact Nat.le_refl _
      intro v2 w2 ho hg2 _ hat
      have HQ : Hid (w2.ownsRow w.heap.size 3 1 v2 n cs ∧ Below w.heap.size w w2) := ⟨by simpa using ho, below_grown (Below.refl _ _) hg2 (fun g hg => by simp [Value.ownBlock] at hg)⟩
      clear ho hg2 hat
      go_wp2
      go_ret
      exact ⟨v2, rfl, HQ.out.1, HQ.out.2⟩
theorem info_copyT : (Tryz.prog.info? 23).map (fun i => (i.zero, i.size, i.bytes)) = some (some (.int .u8 0), 1, 1) := by kernel_rfl
theorem none_copyT (a : Option Addr) (c2 : Nat) (W : World) : (Builtin.append_ #[24, 24] 24 #[.slice none 0 0, .slice a 0 c2]).run Tryz.prog W = .ok (.slice none 0 0) W := by
  obtain ⟨i0, hi0, hz0, hz1, hz2⟩ := info_parts info_copyT
  refine run_append_nothing W 24 24 24 23 i0 Tryz.underlying24 hi0 none 0 0 (Nat.le_refl _) _ ?_
  refine ⟨.inl ⟨_, Tryz.underlying24⟩, fun w' => by simp [Builtin.lenOf], ?_, ?_, by simp, by simp⟩
  · cases a with
    | none => simp [Builtin.firstCells]
    | some a => simp [Builtin.firstCells]; first | rfl | simp [loadCells]
  · cases a with
    | none => simp [Builtin.firstCells]
    | some a => simp [Builtin.firstCells]; first | rfl | simp [loadCells]
set_option maxRecDepth 100000 in
set_option maxHeartbeats 1000000 in
theorem copyT_any {w : World} {a : Option Addr} {n c : Nat} {cs : List Value} (h : RowAt w (.slice a n c) n cs) (hl : cs.length = n * 1) (hn : n ≤ 1000000) (h1 : ∀ u ∈ cs, u.oneCell' = true) :
    Calls Tryz.prog 62 #[.slice a n c] w fun e w' => ∃ v', e = .returned v' ∧ w'.ownsRow w.heap.size 23 1 v' n cs ∧ Below w.heap.size w w' := by
  by_cases h0 : n = 0
  · subst h0
    have hcs : cs = [] := List.eq_nil_of_length_eq_zero (by simpa using hl)
    subst hcs
    have hap := none_copyT a c
    clear h hl hn h1
    go_enter Tryz.func62, Tryz.ntmps62
    go_wp2_with (at_builtin; go_loud (refine wpList_append_none _ rfl _ _ 24 rfl (.slice none 0 0) (.slice a 0 c) rfl rfl (hap _) ?_))
    go_ret
    exact ⟨_, rfl, World.ownsRow_nil _ _ _ _, Below.refl _ _⟩
  · cases a with
    | none => exact absurd h.none0 h0
    | some ad =>
      obtain ⟨i0, hi0, hz0, hz1, hz2⟩ := info_parts info_copyT
      have HC : Hid (∀ j u, cs[j]? = some u → w.cell? (ad.add j) = some u) := by
        intro j u hj
        obtain ⟨a', c', hv, _, hc⟩ := h
        injection hv with e1 e2 e3
        subst e1
        rcases hc with h0' | ⟨g, o, e, hg, hc⟩
        · exact absurd h0' h0
        · cases e
          rw [Addr.add_lit]
          exact hc j u hj
      have HL : Hid (cs.length = n * 1) := hl
      have H1 : Hid (∀ u ∈ cs, u.oneCell' = true) := h1
      have HN : Hid (n ≤ 1000000) := hn
      clear h hl hn h1
      go_enter Tryz.func62, Tryz.ntmps62
      go_wp2_with (at_builtin; go_loud (refine wpList_append_own_at _ rfl _ _ 24 rfl w.heap.size 23 i0 (.int .u8 0) 1 1 Tryz.underlying24 hi0 hz0 hz1 hz2 rfl (by decide) (.slice none 0 0) 0 [] rfl (World.ownsRow_nil _ _ _ _) ad n c cs rfl HL.out HC.out H1.out ?c3 ?c4 ?c5 ?_))
      case c3 => have := HN.out; unfold maxLen; omega
      case c4 => have := HN.out; omega
      case c5 => exact Nat.le_refl _
      intro v2 w2 ho hg2 _ hat
      have HQ : Hid (w2.ownsRow w.heap.size 23 1 v2 n cs ∧ Below w.heap.size w w2) := ⟨by simpa using ho, below_grown (Below.refl _ _) hg2 (fun g hg => by simp [Value.ownBlock] at hg)⟩
      clear ho hg2 hat
      go_wp2
      go_ret
      exact ⟨v2, rfl, HQ.out.1, HQ.out.2⟩
theorem info_copyA : (Tryz.prog.info? 110).map (fun i => (i.zero, i.size, i.bytes)) = some (some (.agg #[.int .u8 0, .int .i64 0]), 2, 16) := by kernel_rfl
theorem none_copyA (a : Option Addr) (c2 : Nat) (W : World) : (Builtin.append_ #[25, 25] 25 #[.slice none 0 0, .slice a 0 c2]).run Tryz.prog W = .ok (.slice none 0 0) W := by
  obtain ⟨i0, hi0, hz0, hz1, hz2⟩ := info_parts info_copyA
  refine run_append_nothing W 25 25 25 110 i0 Tryz.underlying25 hi0 none 0 0 (Nat.le_refl _) _ ?_
  refine ⟨.inl ⟨_, Tryz.underlying25⟩, fun w' => by simp [Builtin.lenOf], ?_, ?_, by simp, by simp⟩
  · cases a with
    | none => simp [Builtin.firstCells]
    | some a => simp [Builtin.firstCells]; first | rfl | simp [loadCells]
  · cases a with
    | none => simp [Builtin.firstCells]
    | some a => simp [Builtin.firstCells]; first | rfl | simp [loadCells]
set_option maxRecDepth 100000 in
set_option maxHeartbeats 1000000 in
theorem copyA_any {w : World} {a : Option Addr} {n c : Nat} {cs : List Value} (h : RowAt w (.slice a n c) n cs) (hl : cs.length = n * 2) (hn : n ≤ 1000000) (h1 : ∀ u ∈ cs, u.oneCell' = true) :
    Calls Tryz.prog 63 #[.slice a n c] w fun e w' => ∃ v', e = .returned v' ∧ w'.ownsRow w.heap.size 110 2 v' n cs ∧ Below w.heap.size w w' := by
  by_cases h0 : n = 0
  · subst h0
    have hcs : cs = [] := List.eq_nil_of_length_eq_zero (by simpa using hl)
    subst hcs
    have hap := none_copyA a c
    clear h hl hn h1
    go_enter Tryz.func63, Tryz.ntmps63
    go_wp2_with (at_builtin; go_loud (refine wpList_append_none _ rfl _ _ 25 rfl (.slice none 0 0) (.slice a 0 c) rfl rfl (hap _) ?_))
    go_ret
    exact ⟨_, rfl, World.ownsRow_nil _ _ _ _, Below.refl _ _⟩
  · cases a with
    | none => exact absurd h.none0 h0
    | some ad =>
      obtain ⟨i0, hi0, hz0, hz1, hz2⟩ := info_parts info_copyA
      have HC : Hid (∀ j u, cs[j]? = some u → w.cell? (ad.add j) = some u) := by
        intro j u hj
        obtain ⟨a', c', hv, _, hc⟩ := h
        injection hv with e1 e2 e3
        subst e1
        rcases hc with h0' | ⟨g, o, e, hg, hc⟩
        · exact absurd h0' h0
        · cases e
          rw [Addr.add_lit]
          exact hc j u hj
      have HL : Hid (cs.length = n * 2) := hl
      have H1 : Hid (∀ u ∈ cs, u.oneCell' = true) := h1
      have HN : Hid (n ≤ 1000000) := hn
      clear h hl hn h1
      go_enter Tryz.func63, Tryz.ntmps63
      go_wp2_with (at_builtin; go_loud (refine wpList_append_own_at _ rfl _ _ 25 rfl w.heap.size 110 i0 (.agg #[.int .u8 0, .int .i64 0]) 2 16 Tryz.underlying25 hi0 hz0 hz1 hz2 rfl (by decide) (.slice none 0 0) 0 [] rfl (World.ownsRow_nil _ _ _ _) ad n c cs rfl HL.out HC.out H1.out ?c3 ?c4 ?c5 ?_))
      case c3 => have := HN.out; unfold maxLen; omega
      case c4 => have := HN.out; omega
      case c5 => exact Nat.le_refl _
      intro v2 w2 ho hg2 _ hat
      have HQ : Hid (w2.ownsRow w.heap.size 110 2 v2 n cs ∧ Below w.heap.size w w2) := ⟨by simpa using ho, below_grown (Below.refl _ _) hg2 (fun g hg => by simp [Value.ownBlock] at hg)⟩
      clear ho hg2 hat
      go_wp2
      go_ret
      exact ⟨v2, rfl, HQ.out.1, HQ.out.2⟩
end Go.Proofs.YtcggbedjhglmmaaGreatDoor
/- An instruction copied. -/
namespace Go.Proofs.YtcggbedjhglmmaaGreatDoor
open Go.RowKit

theorem ints_one (l : List Int) : ∀ u ∈ l.map intV, u.oneCell' = true := fun u hu => by obtain ⟨x, _, rfl⟩ := List.mem_map.1 hu; rfl
/-- six cells of a block are told -/
abbrev setSix (W : World) (r : Nat) (u0 u1 u2 u3 u4 u5 : Value) : World := (((((W.setCell ⟨r, 0, none⟩ u0).setCell ⟨r, 1, none⟩ u1).setCell ⟨r, 2, none⟩ u2).setCell ⟨r, 3, none⟩ u3).setCell ⟨r, 4, none⟩ u4).setCell ⟨r, 5, none⟩ u5
theorem six_end {w W : World} {r : Nat} {t : TypeId} {z0 z1 z2 z3 z4 z5 : Value} (hb : Below w.heap.size w W) (hr : w.heap.size ≤ r) (ho : W.heap[r]? = some (.cells #[z0, z1, z2, z3, z4, z5] t (0, 0))) (u0 u1 u2 u3 u4 u5 : Value) :
    Below w.heap.size w (setSix W r u0 u1 u2 u3 u4 u5) ∧ (setSix W r u0 u1 u2 u3 u4 u5).heap[r]? = some (.cells #[u0, u1, u2, u3, u4, u5] t (0, 0)) ∧ ∀ k, k ≠ r → (setSix W r u0 u1 u2 u3 u4 u5).heap[k]? = W.heap[k]? := by
  refine ⟨((((((hb.setCell (p := ⟨r, 0, none⟩) hr _).setCell (p := ⟨r, 1, none⟩) hr _).setCell (p := ⟨r, 2, none⟩) hr _).setCell (p := ⟨r, 3, none⟩) hr _).setCell (p := ⟨r, 4, none⟩) hr _).setCell (p := ⟨r, 5, none⟩) hr _), ?_, fun k hk => ?_⟩
  · exact hsc (i := 5) (hsc (i := 4) (hsc (i := 3) (hsc (i := 2) (hsc (i := 1) (hsc (i := 0) ho u0) u1) u2) u3) u4) u5
  · have st : ∀ (V : World) (j : Nat) (u : Value), (V.setCell ⟨r, j, none⟩ u).heap[k]? = V.heap[k]? := fun V j u => Below.heap_setCell V ⟨r, j, none⟩ u k (by show k ≠ r; exact hk)
    unfold setSix
    rw [st, st, st, st, st, st]
set_option maxRecDepth 100000 in
set_option maxHeartbeats 2000000 in
theorem copyIns_any (x : In) (av : Value) (w : World) (h : IntsAt w av x.args) (hl : x.args.length ≤ 1000000) :
    Calls Tryz.prog 130 #[inV x av] w fun e w' => ∃ av', e = .returned (inV x av') ∧ OwnI w' w.heap.size av' x.args ∧ Below w.heap.size w w' := by
  obtain ⟨k, op, dst, args, bits, ref⟩ := x
  dsimp only at h hl ⊢
  obtain ⟨a, c, rfl, _⟩ := h.form
  have HCI : Hid (∀ W, Below w.heap.size w W → Calls Tryz.prog 61 #[.slice a args.length c] W fun e w' => ∃ v', e = .returned v' ∧ w'.ownsRow W.heap.size 3 1 v' args.length (args.map intV) ∧ Below W.heap.size W w') := fun W hb => copyI_any (h.below hb) (by simp) hl (ints_one _)
  have HL : Hid (args.length ≤ 1000000) := hl
  have HB0 : Hid (Box ((w.alloc (.cells #[.int .u8 k, .int .u8 op, .int .i64 dst, .slice a args.length c, .int .u64 bits, .int .i64 ref] 54)).alloc (.cells #[.int .u8 0, .int .u8 0, .int .i64 0, .slice none 0 0, .int .u64 0, .int .i64 0] 54)) w.heap.size [.int .u8 k, .int .u8 op, .int .i64 dst, .slice a args.length c, .int .u64 bits, .int .i64 ref] ∧ Box ((w.alloc (.cells #[.int .u8 k, .int .u8 op, .int .i64 dst, .slice a args.length c, .int .u64 bits, .int .i64 ref] 54)).alloc (.cells #[.int .u8 0, .int .u8 0, .int .i64 0, .slice none 0 0, .int .u64 0, .int .i64 0] 54)) (w.heap.size + 1) [.int .u8 0, .int .u8 0, .int .i64 0, .slice none 0 0, .int .u64 0, .int .i64 0] ∧ Below w.heap.size w ((w.alloc (.cells #[.int .u8 k, .int .u8 op, .int .i64 dst, .slice a args.length c, .int .u64 bits, .int .i64 ref] 54)).alloc (.cells #[.int .u8 0, .int .u8 0, .int .i64 0, .slice none 0 0, .int .u64 0, .int .i64 0] 54))) := by
    refine ⟨(Box.new w [.int .u8 k, .int .u8 op, .int .i64 dst, .slice a args.length c, .int .u64 bits, .int .i64 ref] 54).below (below_alloc (Below.refl _ _) _), ?_, below_alloc (below_alloc (Below.refl _ _) _) _⟩
    have h9 := Box.new (w.alloc (.cells #[.int .u8 k, .int .u8 op, .int .i64 dst, .slice a args.length c, .int .u64 bits, .int .i64 ref] 54)) [.int .u8 0, .int .u8 0, .int .i64 0, .slice none 0 0, .int .u64 0, .int .i64 0] 54
    rwa [show (w.alloc (.cells #[.int .u8 k, .int .u8 op, .int .i64 dst, .slice a args.length c, .int .u64 bits, .int .i64 ref] 54)).heap.size = w.heap.size + 1 by simp] at h9
  have HOB : Hid (∀ W, Below (w.heap.size + 2) ((w.alloc (.cells #[.int .u8 k, .int .u8 op, .int .i64 dst, .slice a args.length c, .int .u64 bits, .int .i64 ref] 54)).alloc (.cells #[.int .u8 0, .int .u8 0, .int .i64 0, .slice none 0 0, .int .u64 0, .int .i64 0] 54)) W → W.heap[w.heap.size + 1]? = some (.cells #[.int .u8 0, .int .u8 0, .int .i64 0, .slice none 0 0, .int .u64 0, .int .i64 0] 54 (0, 0))) := fun W hb => by
    rw [hb.block (w.heap.size + 1) (by omega)]
    have e : (w.alloc (.cells #[.int .u8 k, .int .u8 op, .int .i64 dst, .slice a args.length c, .int .u64 bits, .int .i64 ref] 54)).heap.size = w.heap.size + 1 := by simp
    have h9 := heap_alloc_new (w.alloc (.cells #[.int .u8 k, .int .u8 op, .int .i64 dst, .slice a args.length c, .int .u64 bits, .int .i64 ref] 54)) (.cells #[.int .u8 0, .int .u8 0, .int .i64 0, .slice none 0 0, .int .u64 0, .int .i64 0] 54)
    rw [e] at h9
    exact h9
  have HSZ : Hid (∀ o o' : Obj, ((w.alloc o).alloc o').heap.size = w.heap.size + 2) := fun o o' => by simp
  clear h hl
  generalize hal : args.length = al at *
  have HAL : Hid _ := hal
  clear hal
  go_enter Tryz.func130, Tryz.ntmps130
  go_wp2_with (go_at_call 61; go_loud (refine Calls.mono (by exact HCI.out _ HB0.out.2.2) ?_; rintro e w2 ⟨v2, rfl, ho2, hb2⟩; obtain ⟨ya, yc, rfl⟩ : ∃ ya yc, v2 = .slice ya al yc := (by obtain ⟨ya, yc, hv, _⟩ := own_blk (Nat.le_refl _) ho2; exact ⟨ya, yc, hv⟩); obtain ⟨e0, e1, e2, e3, e4, e5⟩ := box6 (HB0.out.1.below hb2); have ef := (HB0.out.1.below hb2).fz 3; have HX1 := HB0.out.2.1.below hb2; obtain ⟨g0, g1, g2, g3, g4, g5⟩ := box6 HX1; have gf := HX1.fz; have hwl := (HB0.out.1.below hb2).lt; have hwl2 := HX1.lt; have HO2 : Hid _ := ho2; have HB2 : Hid _ := hb2; clear ho2 hb2 HX1))
  have hoi := HOB.out w2 (by have h9 := HB2.out; rw [HSZ.out] at h9; exact h9)
  have hoi2 : (w2.setCell ⟨w.heap.size, 3, none⟩ (.slice ya al yc)).heap[w.heap.size + 1]? = _ := (Below.heap_setCell w2 ⟨w.heap.size, 3, none⟩ (.slice ya al yc) (w.heap.size + 1) (by show w.heap.size + 1 ≠ w.heap.size; omega)).trans hoi
  have hbw : Below w.heap.size w (w2.setCell ⟨w.heap.size, 3, none⟩ (.slice ya al yc)) := (below_trans HB0.out.2.2 HB2.out).setCell (p := ⟨w.heap.size, 3, none⟩) (Nat.le_refl _) _
  obtain ⟨q1, q2, q3⟩ := six_end hbw (Nat.le_succ _) hoi2 (.int .u8 k) (.int .u8 op) (.int .i64 dst) (.slice ya al yc) (.int .u64 bits) (.int .i64 ref)
  refine bodyPost_ret (results_cell_row rfl _ _ (w.heap.size + 1) 54 #[.int .u8 k, .int .u8 op, .int .i64 dst, .slice ya al yc, .int .u64 bits, .int .i64 ref] _ _ rfl q2 Tryz.underlying54 rfl (by rfl)) rfl ⟨_, rfl, ?_, q1⟩
  have ho3 : w2.ownsRow w.heap.size 3 1 (.slice ya al yc) args.length (args.map intV) := by
    have h9 := HO2.out
    rw [HAL.out]
    exact own_mono h9 HB0.out.2.2.size
  refine owns_same ho3 fun g hg => ?_
  have h7 := (World.ownsRow.lt HO2.out g hg).1
  rw [HSZ.out] at h7
  rw [q3 g (by omega)]
  exact Below.heap_setCell w2 ⟨w.heap.size, 3, none⟩ (.slice ya al yc) g (by show g ≠ w.heap.size; omega)
end Go.Proofs.YtcggbedjhglmmaaGreatDoor
