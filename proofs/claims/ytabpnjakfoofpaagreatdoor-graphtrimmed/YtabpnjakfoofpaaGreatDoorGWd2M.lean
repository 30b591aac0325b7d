/- The law's own: is a graph great? -/
import Derived.Test.YtabpnjakfoofpaaGreatDoorGBoxM
import Derived.Test.YtabpnjakfoofpaaGreatDoorGChk2M
import Derived.Test.YtabpnjakfoofpaaGreatDoorGRight1
import Derived.Test.YtabpnjakfoofpaaGreatDoorGQ0M
namespace Go.Proofs.YtabpnjakfoofpaaGreatDoor
open Go.RowKit

set_option maxRecDepth 100000 in
set_option maxHeartbeats 2000000 in
theorem great_any (G : Gr) (pv vv av bv : Value) (w : World) (h : GrAt w pv vv av bv G) :
    Calls Tryz.prog 5 #[.agg #[.string G.name, pv, .int .u8 G.result, vv, av, bv]] w fun e w' => ∃ b, e = .returned (.bool b) ∧ Hid (b = false → G.blocks.length ≤ 400) ∧ Below w.heap.size w w' := by
  obtain ⟨pa, pc, va, vc, aa, ac, ba, bc, rfl, rfl, rfl, rfl, _, _, _, hbl⟩ := h.openF
  have HB : Hid (∀ i, i < G.blocks.length → _) := fun i hi => h.bs.get (i := i) hi
  obtain ⟨nm, ps, r, vs, ars, bs⟩ := G
  dsimp only at HB hbl ⊢
  clear h
  generalize bs.length = n at *
  generalize ps.length = pl at *
  generalize vs.length = m at *
  generalize ars.length = al at *
  have H0 : Hid (Below w.heap.size w (w.alloc (.cells #[.string nm, .slice pa pl pc, .int .u8 r, .slice va m vc, .slice aa al ac, .slice ba n bc] 28)) ∧ Box (w.alloc (.cells #[.string nm, .slice pa pl pc, .int .u8 r, .slice va m vc, .slice aa al ac, .slice ba n bc] 28)) w.heap.size [.string nm, .slice pa pl pc, .int .u8 r, .slice va m vc, .slice aa al ac, .slice ba n bc]) := ⟨below_alloc (Below.refl _ _) _, Box.new w [.string nm, .slice pa pl pc, .int .u8 r, .slice va m vc, .slice aa al ac, .slice ba n bc] 28⟩
  obtain ⟨C, hCt, hCf, hCn⟩ : ∃ C : Bool → Prop, C true ∧ (n ≤ 400 → C false) ∧ (∀ b, C b → Hid (b = false → n ≤ 400)) := ⟨fun b => b = false → n ≤ 400, (fun h => nomatch h), (fun h _ => h), (fun b h => h)⟩
  have HCT : Hid (C true) := hCt
  have HCF : Hid (n ≤ 400 → C false) := hCf
  refine Calls.mono (R := fun e w' => ∃ b, e = .returned (.bool b) ∧ C b ∧ Below w.heap.size w w') ?_ (fun e w' ⟨b, he, hc, hb⟩ => ⟨b, he, hCn b hc, hb⟩)
  clear hCt hCf hCn
  by_cases h1 : 400 < n
  · have h1' : (400 : Int) < n := by omega
    go_enter Tryz.func5, Tryz.ntmps5
    go_wp2
    go_ret
    first | exact ⟨true, rfl, HCT.out, H0.out.1⟩ | exact Or.inr ⟨rfl, HCT.out, H0.out.1⟩
  have h1' : ¬ (400 : Int) < n := by omega
  by_cases h2 : 2000 < m
  · have h2' : (2000 : Int) < m := by omega
    go_enter Tryz.func5, Tryz.ntmps5
    go_wp2
    go_ret
    first | exact ⟨true, rfl, HCT.out, H0.out.1⟩ | exact Or.inr ⟨rfl, HCT.out, H0.out.1⟩
  have h2' : ¬ (2000 : Int) < m := by omega
  by_cases h3 : 2000 < al
  · have h3' : (2000 : Int) < al := by omega
    go_enter Tryz.func5, Tryz.ntmps5
    go_wp2
    go_ret
    first | exact ⟨true, rfl, HCT.out, H0.out.1⟩ | exact Or.inr ⟨rfl, HCT.out, H0.out.1⟩
  have h3' : ¬ (2000 : Int) < al := by omega
  by_cases h4 : 2000 < pl
  · have h4' : (2000 : Int) < pl := by omega
    go_enter Tryz.func5, Tryz.ntmps5
    go_wp2
    go_ret
    first | exact ⟨true, rfl, HCT.out, H0.out.1⟩ | exact Or.inr ⟨rfl, HCT.out, H0.out.1⟩
  have h4' : ¬ (2000 : Int) < pl := by omega
  have HN : Hid (n ≤ 400) := by show n ≤ 400; omega
  go_enter Tryz.func5, Tryz.ntmps5
  go_wp2
  clear h1 h2 h3 h4 h1' h2' h3' h4'
  go_loopw [3, 4] (fun vn vi wr => ∃ (x : Int) (i : Nat), vn = .int .i64 x ∧ vi = .int .i64 i ∧ i ≤ n ∧ Hid (Below w.heap.size w wr ∧ Box wr w.heap.size [.string nm, .slice pa pl pc, .int .u8 r, .slice va m vc, .slice aa al ac, .slice ba n bc])) (fun _ vi _ => n - (intOf vi).toNat)
  case atStart => exact ⟨0, 0, rfl, rfl, by omega, H0.out⟩
  case round =>
    obtain ⟨x, i, rfl, rfl, hi, hr⟩ := hrel
    clear H0
    obtain ⟨e0, e1, e2, e3, e4, e5⟩ := box6 hr.out.2
    have hwl := hr.out.2.lt
    by_cases hin : i < n
    · obtain ⟨g, o, iv, rfl, hg, c0, c1, c2, c3, c4, c5, hins⟩ := HB.out i hin
      obtain ⟨ia, ic, rfl, _⟩ := hins.form
      have hin' : (i : Int) < n := by omega
      generalize (bs.getD i default).ins = L at *
      have HI : Hid (∀ k, k < L.length → _) := fun k hk => hins.get (i := k) hk
      have HC0 : Hid _ := c0
      have HG : Hid (g < w.heap.size) := hg
      have c0' : wr.cell? ⟨g, o + i * 6, none⟩ = some (.slice ia L.length ic) := (hr.out.1.cell (p := ⟨g, o + i * 6, none⟩) hg).trans c0
      clear HB c0 c1 c2 c3 c4 c5 hins hg
      generalize wr = wo at *
      go_wp2
      go_loopw [3, 5] (fun vn vk wr => ∃ (x : Int) (k : Nat), vn = .int .i64 x ∧ vk = .int .i64 k ∧ k ≤ L.length ∧ Hid (Below w.heap.size w wr ∧ Box wr w.heap.size [.string nm, .slice pa pl pc, .int .u8 r, .slice va m vc, .slice aa al ac, .slice (some ⟨g, o, none⟩) n bc])) (fun _ vk _ => L.length - (intOf vk).toNat)
      case atStart => exact ⟨_, 0, rfl, rfl, by omega, hr.out⟩
      case round =>
        obtain ⟨y, k, rfl, rfl, hk, hq⟩ := hrel
        clear e0 e1 e2 e3 e4 e5 c0'
        obtain ⟨e0, e1, e2, e3, e4, e5⟩ := box6 hq.out.2
        have hwl2 := hq.out.2.lt
        have c0' : wr.cell? ⟨g, o + i * 6, none⟩ = some (.slice ia L.length ic) := (hq.out.1.cell (p := ⟨g, o + i * 6, none⟩) HG.out).trans HC0.out
        by_cases hkn : k < L.length
        · have hkn' : (k : Int) < L.length := by omega
          obtain ⟨gi, oi, xv, rfl, hgi, d0, d1, d2, d3, d4, d5, hxa⟩ := HI.out k hkn
          obtain ⟨xa, xc, rfl, _⟩ := hxa.form
          have d3' := (hq.out.1.cell (p := ⟨gi, oi + k * 6 + 3, none⟩) hgi).trans d3
          generalize (L.getD k default).args.length = xn at *
          clear d0 d1 d2 d3 d4 d5 hxa HI hgi
          by_cases hy : y ≤ 2000
          · go_wp2
            go_roundw
            case rel => exact ⟨_, k + 1, rfl, by first | rfl | (congr 1; omega), by omega, hq.out⟩
            case measure => simp [intOf]; omega
          · have hy' : 2000 < y := by omega
            go_wp2
            go_ret
            first | exact ⟨true, rfl, HCT.out, hq.out.1⟩ | exact Or.inr ⟨rfl, HCT.out, hq.out.1⟩
        · obtain rfl : k = L.length := by omega
          clear HI
          by_cases hy : 2000 < y
          · go_wp2
            go_ret
            first | exact ⟨true, rfl, HCT.out, hq.out.1⟩ | exact Or.inr ⟨rfl, HCT.out, hq.out.1⟩
          · go_wp2
            go_roundw
            case rel => exact ⟨y, i + 1, rfl, by first | rfl | (congr 1; omega), by omega, hq.out⟩
            case measure => simp [intOf]; omega
    · obtain rfl : i = n := by omega
      clear HB
      go_wp2
      go_ret
      first | exact ⟨false, rfl, HCF.out HN.out, hr.out.1⟩ | exact Or.inl ⟨rfl, HCF.out HN.out, hr.out.1⟩
end Go.Proofs.YtabpnjakfoofpaaGreatDoor
/- The law's own: what a graph is that is not great. -/
namespace Go.Proofs.YtabpnjakfoofpaaGreatDoor
open Go.RowKit

/-- how much a block may have -/
def OkB (b : Bl) : Prop := b.ins.length ≤ 2000 ∧ ∀ x ∈ b.ins, x.args.length ≤ 2000
def OkG (G : Gr) : Prop := G.blocks.length ≤ 400 ∧ G.vars.length ≤ 2000 ∧ G.arrs.length ≤ 2000 ∧ G.params.length ≤ 2000 ∧ ∀ b ∈ G.blocks, OkB b
theorem okB_of {b : Bl} (h1 : b.ins.length ≤ 2000) (h2 : ∀ k, k < b.ins.length → (b.ins.getD k default).args.length ≤ 2000) : OkB b := ⟨h1, fun x hx => by
  obtain ⟨k, hk, rfl⟩ := List.mem_iff_getElem.1 hx
  have := h2 k hk
  rw [List.getD_eq_getElem?_getD, List.getElem?_eq_getElem hk] at this
  exact this⟩
theorem okBs_of {bs : List Bl} {n : Nat} (hn : bs.length = n) (h : ∀ q, q < n → OkB (bs.getD q default)) : ∀ b ∈ bs, OkB b := fun b hb => by
  obtain ⟨k, hk, rfl⟩ := List.mem_iff_getElem.1 hb
  have := h k (by omega)
  rw [List.getD_eq_getElem?_getD, List.getElem?_eq_getElem hk] at this
  exact this
set_option maxRecDepth 100000 in
set_option maxHeartbeats 2000000 in
theorem great2_any (G : Gr) (pv vv av bv : Value) (w : World) (h : GrAt w pv vv av bv G) :
    Calls Tryz.prog 5 #[.agg #[.string G.name, pv, .int .u8 G.result, vv, av, bv]] w fun e w' => ∃ b, e = .returned (.bool b) ∧ Hid (b = false → OkG G) ∧ Below w.heap.size w w' := by
  obtain ⟨pa, pc, va, vc, aa, ac, ba, bc, rfl, rfl, rfl, rfl, _, _, _, hbl⟩ := h.openF
  have HB : Hid (∀ i, i < G.blocks.length → _) := fun i hi => h.bs.get (i := i) hi
  have HOK : Hid (∀ n m al pl, G.blocks.length = n → G.vars.length = m → G.arrs.length = al → G.params.length = pl → n ≤ 400 → m ≤ 2000 → al ≤ 2000 → pl ≤ 2000 → (∀ q, q < n → OkB (G.blocks.getD q default)) → OkG G) := fun n m al pl e1 e2 e3 e4 l1 l2 l3 l4 hq => ⟨by omega, by omega, by omega, by omega, okBs_of e1 hq⟩
  obtain ⟨nm, ps, r, vs, ars, bs⟩ := G
  dsimp only at HB HOK hbl ⊢
  generalize hGG : OkG ⟨nm, ps, r, vs, ars, bs⟩ = OG at *
  clear hGG
  clear h
  have HOK2 := HOK.out _ _ _ _ rfl rfl rfl rfl
  clear HOK
  generalize bs.length = n at *
  generalize ps.length = pl at *
  generalize vs.length = m at *
  generalize ars.length = al at *
  have H0 : Hid (Below w.heap.size w (w.alloc (.cells #[.string nm, .slice pa pl pc, .int .u8 r, .slice va m vc, .slice aa al ac, .slice ba n bc] 28)) ∧ Box (w.alloc (.cells #[.string nm, .slice pa pl pc, .int .u8 r, .slice va m vc, .slice aa al ac, .slice ba n bc] 28)) w.heap.size [.string nm, .slice pa pl pc, .int .u8 r, .slice va m vc, .slice aa al ac, .slice ba n bc]) := ⟨below_alloc (Below.refl _ _) _, Box.new w [.string nm, .slice pa pl pc, .int .u8 r, .slice va m vc, .slice aa al ac, .slice ba n bc] 28⟩
  obtain ⟨C, hCt, hCf, hCn⟩ : ∃ C : Bool → Prop, C true ∧ (OG → C false) ∧ (∀ b, C b → Hid (b = false → OG)) := ⟨fun b => b = false → OG, (fun h => nomatch h), (fun h _ => h), (fun b h => h)⟩
  have HCT : Hid (C true) := hCt
  have HCF : Hid (OG → C false) := hCf
  refine Calls.mono (R := fun e w' => ∃ b, e = .returned (.bool b) ∧ C b ∧ Below w.heap.size w w') ?_ (fun e w' ⟨b, he, hc, hb⟩ => ⟨b, he, hCn b hc, hb⟩)
  clear hCt hCf hCn
  by_cases h1 : 400 < n
  · have h1' : (400 : Int) < n := by omega
    go_enter Tryz.func5, Tryz.ntmps5
    go_wp2
    go_ret
    first | exact ⟨true, rfl, HCT.out, H0.out.1⟩ | exact Or.inr ⟨rfl, HCT.out, H0.out.1⟩
  have h1' : ¬ (400 : Int) < n := by omega
  by_cases h2 : 2000 < m
  · have h2' : (2000 : Int) < m := by omega
    go_enter Tryz.func5, Tryz.ntmps5
    go_wp2
    go_ret
    first | exact ⟨true, rfl, HCT.out, H0.out.1⟩ | exact Or.inr ⟨rfl, HCT.out, H0.out.1⟩
  have h2' : ¬ (2000 : Int) < m := by omega
  by_cases h3 : 2000 < al
  · have h3' : (2000 : Int) < al := by omega
    go_enter Tryz.func5, Tryz.ntmps5
    go_wp2
    go_ret
    first | exact ⟨true, rfl, HCT.out, H0.out.1⟩ | exact Or.inr ⟨rfl, HCT.out, H0.out.1⟩
  have h3' : ¬ (2000 : Int) < al := by omega
  by_cases h4 : 2000 < pl
  · have h4' : (2000 : Int) < pl := by omega
    go_enter Tryz.func5, Tryz.ntmps5
    go_wp2
    go_ret
    first | exact ⟨true, rfl, HCT.out, H0.out.1⟩ | exact Or.inr ⟨rfl, HCT.out, H0.out.1⟩
  have h4' : ¬ (2000 : Int) < pl := by omega
  have HN : Hid ((∀ q, q < n → OkB (bs.getD q default)) → OG) := HOK2 (by omega) (by omega) (by omega) (by omega)
  clear HOK2
  go_enter Tryz.func5, Tryz.ntmps5
  go_wp2
  clear h1 h2 h3 h4 h1' h2' h3' h4'
  go_loopw [3, 4] (fun vn vi wr => ∃ (x : Nat) (i : Nat), vn = .int .i64 (x : Int) ∧ vi = .int .i64 i ∧ i ≤ n ∧ x ≤ 2000 ∧ Hid ((∀ q, q < i → OkB (bs.getD q default)) ∧ Below w.heap.size w wr ∧ Box wr w.heap.size [.string nm, .slice pa pl pc, .int .u8 r, .slice va m vc, .slice aa al ac, .slice ba n bc])) (fun _ vi _ => n - (intOf vi).toNat)
  case atStart => exact ⟨0, 0, rfl, rfl, by omega, by omega, fun q hq => by omega, H0.out⟩
  case round =>
    obtain ⟨x, i, rfl, rfl, hi, hx, hr⟩ := hrel
    have hx' : (x : Int) ≤ 2000 := by omega
    clear H0
    obtain ⟨e0, e1, e2, e3, e4, e5⟩ := box6 hr.out.2.2
    have hwl := hr.out.2.2.lt
    by_cases hin : i < n
    · obtain ⟨g, o, iv, rfl, hg, c0, c1, c2, c3, c4, c5, hins⟩ := HB.out i hin
      obtain ⟨ia, ic, rfl, hil⟩ := hins.form
      have hin' : (i : Int) < n := by omega
      have HBO : Hid ((bs.getD i default).ins.length ≤ 2000 → (∀ k, k < (bs.getD i default).ins.length → ((bs.getD i default).ins.getD k default).args.length ≤ 2000) → OkB (bs.getD i default)) := okB_of
      generalize (bs.getD i default).ins = L at *
      have hil' : (L.length : Int) ≤ 140737488355328 := by omega
      have HI : Hid (∀ k, k < L.length → _) := fun k hk => hins.get (i := k) hk
      have HC0 : Hid _ := c0
      have HG : Hid (g < w.heap.size) := hg
      have c0' : wr.cell? ⟨g, o + i * 6, none⟩ = some (.slice ia L.length ic) := (hr.out.2.1.cell (p := ⟨g, o + i * 6, none⟩) hg).trans c0
      have HRO : Hid (∀ q, q < i → OkB (bs.getD q default)) := hr.out.1
      clear HB c0 c1 c2 c3 c4 c5 hins hg
      generalize wr = wo at *
      go_wp2
      go_loopw [3, 5] (fun vn vk wr => ∃ (y : Nat) (k : Nat), vn = .int .i64 (y : Int) ∧ vk = .int .i64 k ∧ k ≤ L.length ∧ y ≤ 422212465065984 ∧ Hid ((y ≤ 2000 → L.length ≤ 2000 ∧ ∀ q, q < k → (L.getD q default).args.length ≤ 2000) ∧ Below w.heap.size w wr ∧ Box wr w.heap.size [.string nm, .slice pa pl pc, .int .u8 r, .slice va m vc, .slice aa al ac, .slice (some ⟨g, o, none⟩) n bc])) (fun _ vk _ => L.length - (intOf vk).toNat)
      case atStart => exact ⟨x + L.length, 0, by first | rfl | (congr 1; omega) | (simp; omega), rfl, by omega, by omega, fun _ => ⟨by omega, fun q hq => by omega⟩, hr.out.2⟩
      case round =>
        obtain ⟨y, k, rfl, rfl, hk, hyl, hq⟩ := hrel
        have hyl' : (y : Int) ≤ 422212465065984 := by omega
        clear e0 e1 e2 e3 e4 e5 c0'
        obtain ⟨e0, e1, e2, e3, e4, e5⟩ := box6 hq.out.2.2
        have hwl2 := hq.out.2.2.lt
        have c0' : wr.cell? ⟨g, o + i * 6, none⟩ = some (.slice ia L.length ic) := (hq.out.2.1.cell (p := ⟨g, o + i * 6, none⟩) HG.out).trans HC0.out
        by_cases hkn : k < L.length
        · have hkn' : (k : Int) < L.length := by omega
          obtain ⟨gi, oi, xv, rfl, hgi, d0, d1, d2, d3, d4, d5, hxa⟩ := HI.out k hkn
          obtain ⟨xa, xc, rfl, hxl⟩ := hxa.form
          have d3' := (hq.out.2.1.cell (p := ⟨gi, oi + k * 6 + 3, none⟩) hgi).trans d3
          have HNX : Hid (y ≤ 2000 → y + (L.getD k default).args.length ≤ 2000 → L.length ≤ 2000 ∧ ∀ q, q < k + 1 → (L.getD q default).args.length ≤ 2000) := fun h1 h2 => ⟨(hq.out.1 h1).1, fun q hq2 => by
            by_cases e : q = k
            · subst e; omega
            · exact (hq.out.1 h1).2 q (by omega)⟩
          have HQ1 : Hid _ := hq.out.2
          clear hq
          generalize (L.getD k default).args.length = xn at *
          have hxl' : (xn : Int) ≤ 140737488355328 := by omega
          clear d0 d1 d2 d3 d4 d5 hxa HI hgi
          by_cases hy : y ≤ 2000
          · have hy' : (y : Int) ≤ 2000 := by omega
            have HN2 : Hid (y + xn ≤ 2000 → L.length ≤ 2000 ∧ ∀ q, q < k + 1 → (L.getD q default).args.length ≤ 2000) := HNX.out hy
            clear HNX
            go_wp2
            go_roundw
            case rel => exact ⟨y + xn, k + 1, by first | rfl | (congr 1; omega) | (simp; omega), by first | rfl | (congr 1; omega), by omega, by omega, HN2.out, HQ1.out⟩
            case measure => simp [intOf]; omega
          · have hy' : ¬ (y : Int) ≤ 2000 := by omega
            have hy2 : (2000 : Int) < y := by omega
            clear HNX
            go_wp2
            go_ret
            first | exact ⟨true, rfl, HCT.out, HQ1.out.1⟩ | exact Or.inr ⟨rfl, HCT.out, HQ1.out.1⟩
        · obtain rfl : k = L.length := by omega
          have HQ1 : Hid _ := hq.out.2
          have HQ0 : Hid _ := hq.out.1
          clear HI hq
          by_cases hy : 2000 < y
          · have hy2 : (2000 : Int) < y := by omega
            clear HQ0
            go_wp2
            go_ret
            first | exact ⟨true, rfl, HCT.out, HQ1.out.1⟩ | exact Or.inr ⟨rfl, HCT.out, HQ1.out.1⟩
          · have hy2 : ¬ (2000 : Int) < y := by omega
            have HN3 : Hid (∀ q, q < i + 1 → OkB (bs.getD q default)) := fun q hq2 => by
              by_cases e : q = i
              · subst e; exact HBO.out (HQ0.out (by omega)).1 (HQ0.out (by omega)).2
              · exact HRO.out q (by omega)
            clear HQ0
            go_wp2
            go_roundw
            case rel => exact ⟨y, i + 1, rfl, by first | rfl | (congr 1; omega), by omega, by omega, HN3.out, HQ1.out⟩
            case measure => simp [intOf]; omega
    · obtain rfl : i = n := by omega
      have HX : Hid _ := hr.out.2.1
      have HY : Hid OG := HN.out hr.out.1
      clear HB hr HN
      go_wp2
      go_ret
      first | exact ⟨false, rfl, HCF.out HY.out, HX.out⟩ | exact Or.inl ⟨rfl, HCF.out HY.out, HX.out⟩
end Go.Proofs.YtabpnjakfoofpaaGreatDoor
/- The law's own: what a program is that is not wide. -/
namespace Go.Proofs.YtabpnjakfoofpaaGreatDoor
open Go.RowKit

set_option maxRecDepth 100000 in
set_option maxHeartbeats 2000000 in
theorem wide2_any (p : List Gr) (ppv : Value) (w : World) (hp : GrsAt w ppv p) :
    Calls Tryz.prog 20 #[ppv] w fun e w' => ∃ b, e = .returned (.bool b) ∧ Hid (b = false → ∀ G ∈ p, OkG G) ∧ Below w.heap.size w w' := by
  obtain ⟨qa, qc, rfl, hql⟩ := hp.form
  have HC : Hid (∀ i, i < p.length → ∀ pv vv av bv W, Below w.heap.size w W → GrAt w pv vv av bv (p.getD i default) → Calls Tryz.prog 5 #[.agg #[.string (p.getD i default).name, pv, .int .u8 (p.getD i default).result, vv, av, bv]] W fun e w' => ∃ b, e = .returned (.bool b) ∧ Hid (b = false → OkG (p.getD i default)) ∧ Below W.heap.size W w') := fun i hi pv vv av bv W hb h => great2_any _ pv vv av bv W (h.below hb)
  have HG : Hid (∀ i, i < p.length → _) := fun i hi => hp.get (i := i) hi
  obtain ⟨C, hCt, hCf, hCn⟩ : ∃ C : Bool → Prop, C true ∧ ((∀ G ∈ p, OkG G) → C false) ∧ (∀ b, C b → Hid (b = false → ∀ G ∈ p, OkG G)) := ⟨fun b => b = false → ∀ G ∈ p, OkG G, (fun h => nomatch h), (fun h _ => h), (fun b h => h)⟩
  have HCT : Hid (C true) := hCt
  have HCF : Hid ((∀ i, i < p.length → OkG (p.getD i default)) → C false) := fun h => hCf (fun G hG => by
    obtain ⟨i, hi, he⟩ := List.mem_iff_getElem.1 hG
    have := h i hi
    rw [List.getD, List.getElem?_eq_getElem hi, Option.getD_some, he] at this
    exact this)
  refine Calls.mono (R := fun e w' => ∃ b, e = .returned (.bool b) ∧ C b ∧ Below w.heap.size w w') ?_ (fun e w' ⟨b, he, hc, hb⟩ => ⟨b, he, hCn b hc, hb⟩)
  clear hCt hCf hCn hp
  by_cases h1 : 100 < p.length
  · have h1' : (100 : Int) < p.length := by omega
    clear HC HG HCF
    go_enter Tryz.func20, Tryz.ntmps20
    go_wp2
    go_ret
    first | exact ⟨true, rfl, HCT.out, Below.refl _ _⟩ | exact Or.inr ⟨rfl, HCT.out, Below.refl _ _⟩
  have h1' : ¬ (100 : Int) < p.length := by omega
  obtain ⟨n, hn⟩ : ∃ n, n = p.length := ⟨_, rfl⟩
  rw [← hn] at HC HG HCF hql h1' ⊢
  clear hn h1
  go_enter Tryz.func20, Tryz.ntmps20
  go_wp2
  go_loopw [3] (fun vi wr => ∃ i : Nat, vi = .int .i64 i ∧ i ≤ n ∧ Hid ((∀ j, j < i → OkG (p.getD j default)) ∧ Below w.heap.size w wr)) (fun vi _ => n - (intOf vi).toNat)
  case atStart => exact ⟨0, rfl, by omega, fun j hj => by omega, Below.refl _ _⟩
  case round =>
    obtain ⟨i, rfl, hi, hr⟩ := hrel
    by_cases hin : i < n
    · obtain ⟨g, o, pv, vv, av, bv, rfl, hg, c0, c1, c2, c3, c4, c5, hG⟩ := HG.out i hin
      have hin' : (i : Int) < n := by omega
      have hcl : ∀ j, wr.cell? ⟨g, j, none⟩ = w.cell? ⟨g, j, none⟩ := fun j => hr.out.2.cell (p := ⟨g, j, none⟩) hg
      rw [← hcl] at c0 c1 c2 c3 c4 c5
      have HCI := HC.out i hin pv vv av bv wr hr.out.2 hG
      obtain ⟨pa, pc, va, vc, aa, ac, ba, bc, rfl, rfl, rfl, rfl, _, _, _, _⟩ := hG.openF
      have HCJ : Hid _ := HCI
      clear hG hcl HG HC HCI
      generalize hbq : OkG (p.getD i default) = OG at *
      have HBQ : Hid (OkG (p.getD i default) = OG) := hbq
      clear hbq
      generalize (p.getD i default).blocks.length = bl at *
      generalize (p.getD i default).name = nm at *
      generalize (p.getD i default).result = r at *
      generalize (p.getD i default).params.length = pl at *
      generalize (p.getD i default).vars.length = m at *
      generalize (p.getD i default).arrs.length = al at *
      go_wp2_with (go_at_call 5; go_loud (refine Calls.mono (by exact HCJ.out) ?_; rintro e w1 ⟨bg, rfl, hng, hb1⟩; have HW1 : Hid _ := hb1; have HNG : Hid (Hid (bg = false → OG)) := hng; clear hb1 hng; cases bg))
      · go_wp2
        go_roundw
        case rel =>
          refine ⟨i + 1, by first | rfl | (congr 1; omega), by omega, fun j hj => ?_, below_trans hr.out.2 HW1.out⟩
          by_cases hji : j = i
          · subst hji
            rw [HBQ.out]
            first | exact HNG.out.out trivial | exact HNG.out.out rfl
          · exact hr.out.1 j (by omega)
        case measure => simp [intOf]; omega
      · go_wp2
        go_ret
        first | exact ⟨true, rfl, HCT.out, below_trans hr.out.2 HW1.out⟩ | exact Or.inr ⟨rfl, HCT.out, below_trans hr.out.2 HW1.out⟩
    · obtain rfl : i = n := by omega
      have HX : Hid (C false) := HCF.out hr.out.1
      clear HG HC HCF
      go_wp2
      go_ret
      first | exact ⟨false, rfl, HX.out, hr.out.2⟩ | exact Or.inl ⟨rfl, HX.out, hr.out.2⟩
theorem GrsAt.args {w : World} {v : Value} {p : List Gr} (h : GrsAt w v p) : ∀ G ∈ p, ∀ b ∈ G.blocks, ∀ x ∈ b.ins, x.args.length ≤ 140737488355328 := by
  intro G hG b hb x hx
  obtain ⟨i, hi, rfl⟩ := List.mem_iff_getElem.1 hG
  obtain ⟨qs, hl, _, hq⟩ := h.row
  have h1 := hq i _ _ (List.getElem?_eq_getElem hi) (List.getElem?_eq_getElem (by omega : i < qs.length))
  obtain ⟨j, hj, rfl⟩ := List.mem_iff_getElem.1 hb
  obtain ⟨bv, hl2, _, hq2⟩ := h1.bs.row
  have h2 := hq2 j _ _ (List.getElem?_eq_getElem hj) (List.getElem?_eq_getElem (by omega : j < bv.length))
  obtain ⟨k, hk, rfl⟩ := List.mem_iff_getElem.1 hx
  obtain ⟨xv, hl3, _, hq3⟩ := h2.row
  have h3 := hq3 k _ _ (List.getElem?_eq_getElem hk) (List.getElem?_eq_getElem (by omega : k < xv.length))
  obtain ⟨_, _, _, h4⟩ := h3.form
  exact h4
end Go.Proofs.YtabpnjakfoofpaaGreatDoor
