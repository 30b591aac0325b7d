/- A graph with constants in the place of calls (the law's own). -/
import Derived.Test.YtcggbedjhglmmaaGreatDoorLUk0M
import Derived.Test.YtcggbedjhglmmaaGreatDoorLCiM
import Derived.Test.YtcggbedjhglmmaaGreatDoorLAlM
namespace Go.Proofs.YtcggbedjhglmmaaGreatDoor
open Go.RowKit

def unkI (x : In) : In := if x.kind = 9 then ⟨2, 0, x.dst, [], 0, 0⟩ else x
def unkB (b : Bl) : Bl := ⟨b.ins.map unkI, b.tm⟩
def unkG (G : Gr) : Gr := { G with blocks := G.blocks.map unkB }
theorem BG.six {w wr : World} {z0 z1 z2 z3 z4 z5 : Value} (h : BG w wr [z0, z1, z2, z3, z4, z5]) (u0 u1 u2 u3 u4 u5 : Value) : BG w (setSix wr w.heap.size u0 u1 u2 u3 u4 u5) [u0, u1, u2, u3, u4, u5] :=
  (((((h.set 0 (by simp) u0).set 1 (by simp) u1).set 2 (by simp) u2).set 3 (by simp) u3).set 4 (by simp) u4).set 5 (by simp) u5
theorem BG.put {w wr : World} {cs : List Value} (h : BG w wr cs) {g : Nat} (hg : w.heap.size + 2 ≤ g) (k : Nat) (u0 u1 u2 u3 u4 u5 : Value) : BG w (putSix wr g k u0 u1 u2 u3 u4 u5) cs :=
  ⟨put_below h.low (by omega) k _ _ _ _ _ _, h.box.same (put_keep wr g k _ _ _ _ _ _ (by omega)), (put_keep wr g k _ _ _ _ _ _ (by omega)).trans h.res, h.rbx.same (put_keep wr g k _ _ _ _ _ _ (by omega)), by rw [put_size]; exact h.sz⟩
theorem six_keep (W : World) (r : Nat) (u0 u1 u2 u3 u4 u5 : Value) {k : Nat} (hk : k ≠ r) : (setSix W r u0 u1 u2 u3 u4 u5).heap[k]? = W.heap[k]? := by
  have st : ∀ (V : World) (j : Nat) (u : Value), (V.setCell ⟨r, j, none⟩ u).heap[k]? = V.heap[k]? := fun V j u => Below.heap_setCell V ⟨r, j, none⟩ u k (by show k ≠ r; exact hk)
  unfold setSix
  rw [st, st, st, st, st, st]
theorem CG.same {w w' w2 : World} {G : Gr} {B : Nat} {pv vv av bv : Value} {ivs : List Value} {avss : List (List Value)} (h : CG w w' G B pv vv av bv ivs avss) (hk : ∀ g, w.heap.size ≤ g → w2.heap[g]? = w'.heap[g]?) : CG w w2 G B pv vv av bv ivs avss :=
  ⟨h.lo, owns_same h.ps fun g hg => hk g (h.ps.lt g hg).1, owns_same h.vs fun g hg => hk g (h.vs.lt g hg).1, owns_same h.ars fun g hg => hk g (h.ars.lt g hg).1, h.pb, h.vb, h.ab, h.bs.same fun g hg => hk g (Nat.le_trans h.lo hg)⟩
theorem CG.put {w w' : World} {G : Gr} {B : Nat} {pv vv av bv : Value} {ivs : List Value} {avss : List (List Value)} (h : CG w w' G B pv vv av bv ivs avss) {i k g c : Nat} {b : Bl} {x y : In} {avs : List Value} (hb : G.blocks[i]? = some b) (hx : b.ins[k]? = some x) (hi : ivs[i]? = some (.slice (some ⟨g, 0, none⟩) b.ins.length c)) (ha : avss[i]? = some avs) (hy : y.args = []) :
    CG w (putSix w' g k (bytV y.kind) (bytV y.op) (intV y.dst) (.slice none 0 0) (.int .u64 y.bits) (intV y.ref)) { G with blocks := G.blocks.set i ⟨b.ins.set k y, b.tm⟩ } B pv vv av bv ivs (avss.set i (avs.set k (.slice none 0 0))) := by
  have hgB : B ≤ g := (h.bs.iv_kb hi ha (.inl rfl)).1
  have kp : ∀ q, q < B → (putSix w' g k (bytV y.kind) (bytV y.op) (intV y.dst) (.slice none 0 0) (.int .u64 y.bits) (intV y.ref)).heap[q]? = w'.heap[q]? := fun q hq => put_keep w' g k _ _ _ _ _ _ (by omega)
  exact ⟨h.lo, owns_same h.ps fun q hq => kp q (h.pb q hq), owns_same h.vs fun q hq => kp q (h.vb q hq), owns_same h.ars fun q hq => kp q (h.ab q hq), h.pb, h.vb, h.ab, h.bs.put hb hx hi ha hy⟩
theorem CG.at' {w w' : World} {G : Gr} {B : Nat} {pv vv av bv : Value} {ivs : List Value} {avss : List (List Value)} (h : CG w w' G B pv vv av bv ivs avss) (hpl : G.params.length ≤ 1000000) (hml : G.vars.length ≤ 1000000) (hal : G.arrs.length ≤ 1000000) (hl : G.blocks.length ≤ 1000000) (hli : ∀ b ∈ G.blocks, b.ins.length ≤ 1000000) (hla : ∀ b ∈ G.blocks, ∀ x ∈ b.ins, x.args.length ≤ 1000000) (hw : ∀ b ∈ G.blocks, ∀ x ∈ b.ins, 0 ≤ x.bits ∧ x.bits < 18446744073709551616) : GrAt w' pv vv av bv G :=
  ⟨row_own h.ps hpl, row_own h.vs hml, row_own h.ars hal, h.bs.at' hl hli hla hw⟩
theorem bits_of {w : World} {v : Value} {bs : List Bl} (h : BlsAt w v bs) : ∀ b ∈ bs, ∀ x ∈ b.ins, 0 ≤ x.bits ∧ x.bits < 18446744073709551616 := fun b hb => by
  obtain ⟨ivs, hl, _, hk⟩ := h.row
  obtain ⟨i, hi, e⟩ := List.mem_iff_getElem.1 hb
  have hi2 : i < ivs.length := by rw [hl]; exact hi
  exact (hk i b _ (by rw [List.getElem?_eq_getElem hi, e]) (List.getElem?_eq_getElem hi2)).wf
theorem sz_lens {bs : List Bl} (h : szB bs ≤ 300000) : (∀ b ∈ bs, b.ins.length ≤ 1000000) ∧ ∀ b ∈ bs, ∀ x ∈ b.ins, x.args.length ≤ 1000000 := ⟨fun b hb => by
    have h1 := szB_mem hb
    have h2 : b.ins.length ≤ szI b.ins := by rw [argS_szI]; omega
    omega, fun b hb x hx => by have h1 := szB_mem hb; have h2 := szI_mem hx; omega⟩
theorem unkG_ok {G : Gr} (hli : ∀ b ∈ G.blocks, b.ins.length ≤ 1000000) (hla : ∀ b ∈ G.blocks, ∀ x ∈ b.ins, x.args.length ≤ 1000000) (hw : ∀ b ∈ G.blocks, ∀ x ∈ b.ins, 0 ≤ x.bits ∧ x.bits < 18446744073709551616) :
    (∀ b ∈ (unkG G).blocks, b.ins.length ≤ 1000000) ∧ (∀ b ∈ (unkG G).blocks, ∀ x ∈ b.ins, x.args.length ≤ 1000000) ∧ (∀ b ∈ (unkG G).blocks, ∀ x ∈ b.ins, 0 ≤ x.bits ∧ x.bits < 18446744073709551616) := by
  refine ⟨fun b hb => ?_, fun b hb x hx => ?_, fun b hb x hx => ?_⟩
  · obtain ⟨c, hc, rfl⟩ := List.mem_map.1 hb
    show (c.ins.map unkI).length ≤ _
    rw [List.length_map]; exact hli c hc
  · obtain ⟨c, hc, rfl⟩ := List.mem_map.1 hb
    obtain ⟨y, hy, rfl⟩ := List.mem_map.1 hx
    unfold unkI; split
    · simp
    · exact hla c hc y hy
  · obtain ⟨c, hc, rfl⟩ := List.mem_map.1 hb
    obtain ⟨y, hy, rfl⟩ := List.mem_map.1 hx
    unfold unkI; split
    · simp
    · exact hw c hc y hy
set_option maxRecDepth 100000 in
set_option maxHeartbeats 8000000 in
theorem unk_any (G : Gr) (pv vv av bv : Value) (w : World) (h : GrAt w pv vv av bv G) (hpl : G.params.length ≤ 1000000) (hml : G.vars.length ≤ 1000000) (hal : G.arrs.length ≤ 1000000) (hsz : szB G.blocks ≤ 300000) :
    Calls Tryz.prog 12 #[.agg #[.string G.name, pv, .int .u8 G.result, vv, av, bv]] w fun e w' => ∃ pv' vv' av' bv', e = .returned (.agg #[.string G.name, pv', .int .u8 G.result, vv', av', bv']) ∧ GrAt w' pv' vv' av' bv' (unkG G) ∧ Below w.heap.size w w' := by
  obtain ⟨hli, hla⟩ := sz_lens hsz
  have hl : G.blocks.length ≤ 1000000 := by have := szB_len G.blocks; omega
  have hw := bits_of h.bs
  have HCG : Hid (∀ W, Below w.heap.size w W → _) := fun W hb => copyG_any G pv vv av bv W (h.below hb) hpl hml hal hl hli hla
  have HFI : Hid (∀ w0 W B p v a b ivs avss, CG w0 W (unkG G) B p v a b ivs avss → GrAt W p v a b (unkG G)) := fun w0 W B p v a b ivs avss hc => by
    obtain ⟨u1, u2, u3⟩ := unkG_ok hli hla hw
    refine hc.at' hpl hml hal ?_ u1 u2 u3
    show (G.blocks.map unkB).length ≤ _
    rw [List.length_map]; exact hl
  have HLI : Hid _ := hli
  obtain ⟨pa, pc, va, vc, aa, ac, ba, bc, rfl, rfl, rfl, rfl, _, _, _, _⟩ := h.openF
  clear h hsz hli hla hw
  obtain ⟨nm, ps, r, vs, ars, bs⟩ := G
  dsimp only at *
  generalize hp1 : ps.length = pl at *
  generalize hm1 : vs.length = m at *
  generalize ha1 : ars.length = al at *
  generalize hn1 : bs.length = n at *
  have HLN : Hid (ps.length = pl ∧ vs.length = m ∧ ars.length = al ∧ bs.length = n) := ⟨hp1, hm1, ha1, hn1⟩
  clear hp1 hm1 ha1 hn1
  have hl' : (n : Int) ≤ 1000000 := by omega
  have H1 : Hid (BG w ((w.alloc (.cells #[.string nm, .slice pa pl pc, .int .u8 r, .slice va m vc, .slice aa al ac, .slice ba n bc] 28)).alloc (.cells #[.string ⟨#[]⟩, .slice none 0 0, .int .u8 0, .slice none 0 0, .slice none 0 0, .slice none 0 0] 28)) [.string nm, .slice pa pl pc, .int .u8 r, .slice va m vc, .slice aa al ac, .slice ba n bc]) := by
    refine ⟨below_alloc (below_alloc (Below.refl _ _) _) _, (Box.new w [.string nm, .slice pa pl pc, .int .u8 r, .slice va m vc, .slice aa al ac, .slice ba n bc] 28).below (below_alloc (Below.refl _ _) _), ?_, by have h9 := Box.new (w.alloc (.cells #[.string nm, .slice pa pl pc, .int .u8 r, .slice va m vc, .slice aa al ac, .slice ba n bc] 28)) [.string ⟨#[]⟩, .slice none 0 0, .int .u8 0, .slice none 0 0, .slice none 0 0, .slice none 0 0] 28; rwa [show (w.alloc (.cells #[.string nm, .slice pa pl pc, .int .u8 r, .slice va m vc, .slice aa al ac, .slice ba n bc] 28)).heap.size = w.heap.size + 1 by simp] at h9, by simp⟩
    have e : (w.alloc (.cells #[.string nm, .slice pa pl pc, .int .u8 r, .slice va m vc, .slice aa al ac, .slice ba n bc] 28)).heap.size = w.heap.size + 1 := by simp
    have h9 := heap_alloc_new (w.alloc (.cells #[.string nm, .slice pa pl pc, .int .u8 r, .slice va m vc, .slice aa al ac, .slice ba n bc] 28)) (.cells #[.string ⟨#[]⟩, .slice none 0 0, .int .u8 0, .slice none 0 0, .slice none 0 0, .slice none 0 0] 28)
    rw [e] at h9
    exact h9
  obtain ⟨w1, hw1⟩ : ∃ w1, w1 = ((w.alloc (.cells #[.string nm, .slice pa pl pc, .int .u8 r, .slice va m vc, .slice aa al ac, .slice ba n bc] 28)).alloc (.cells #[.string ⟨#[]⟩, .slice none 0 0, .int .u8 0, .slice none 0 0, .slice none 0 0, .slice none 0 0] 28)) := ⟨_, rfl⟩
  have HW1 : Hid _ := hw1
  rw [← hw1] at H1
  clear hw1
  obtain ⟨e0, e1, e2, e3, e4, e5⟩ := box6 (HW1.out ▸ H1.out.box)
  go_enter Tryz.func12, Tryz.ntmps12
  go_wp2_with (go_at_call 31; go_loud (refine Calls.mono (by rw [← HW1.out]; exact HCG.out _ H1.out.low) ?_; rintro e w2 ⟨p2, v2, a2, b2, B, ivs, avss, rfl, hc, hb⟩; obtain ⟨ya, yc, rfl⟩ : ∃ ya yc, p2 = .slice ya pl yc := (by have h9 := hc.ps; rw [HLN.out.1] at h9; obtain ⟨ya, yc, hv, _⟩ := own_blk (Nat.le_refl _) h9; exact ⟨ya, yc, hv⟩); obtain ⟨yb, yd, rfl⟩ : ∃ ya yc, v2 = .slice ya m yc := (by have h9 := hc.vs; rw [HLN.out.2.1] at h9; obtain ⟨ya, yc, hv, _⟩ := own_blk (Nat.le_refl _) h9; exact ⟨ya, yc, hv⟩); obtain ⟨ye, yf, rfl⟩ : ∃ ya yc, a2 = .slice ya al yc := (by have h9 := hc.ars; rw [HLN.out.2.2.1] at h9; obtain ⟨ya, yc, hv, _⟩ := own_blk (Nat.le_refl _) h9; exact ⟨ya, yc, hv⟩); obtain ⟨yg, yh, rfl⟩ : ∃ ya yc, b2 = .slice ya n yc := (by have h9 := hc.bs.row; rw [HLN.out.2.2.2] at h9; obtain ⟨ya, yc, hv, _⟩ := own_blk (Nat.le_refl _) h9; exact ⟨ya, yc, hv⟩); have k2 := H1.out.below hb; obtain ⟨f0, f1, f2, f3, f4, f5⟩ := box6 k2.box; have ff := k2.box.fz; have hlt2 := k2.box.lt; have HK2 : Hid _ := k2; have HC2 : Hid _ := hc; clear hc hb k2))
  have HK3 : Hid (BG w (setSix w2 w.heap.size (.string nm) (.slice ya pl yc) (.int .u8 r) (.slice yb m yd) (.slice ye al yf) (.slice yg n yh)) [.string nm, .slice ya pl yc, .int .u8 r, .slice yb m yd, .slice ye al yf, .slice yg n yh]) := HK2.out.six _ _ _ _ _ _
  have HLO : Hid (w.heap.size + 2 ≤ w1.heap.size) := H1.out.sz
  have HC3 : Hid (CG w1 (setSix w2 w.heap.size (.string nm) (.slice ya pl yc) (.int .u8 r) (.slice yb m yd) (.slice ye al yf) (.slice yg n yh)) ⟨nm, ps, r, vs, ars, (bs.take 0).map unkB ++ bs.drop 0⟩ B (.slice ya pl yc) (.slice yb m yd) (.slice ye al yf) (.slice yg n yh) ivs avss) := by
    have h9 := HC2.out.same (w2 := setSix w2 w.heap.size (.string nm) (.slice ya pl yc) (.int .u8 r) (.slice yb m yd) (.slice ye al yf) (.slice yg n yh)) fun g hg => six_keep w2 w.heap.size _ _ _ _ _ _ (by have := HLO.out; omega)
    exact h9
  have HB1 : Hid (∀ i, i < n → ((bs.take i).map unkB ++ bs.drop i)[i]? = some (bs.getD i default) ∧ ((bs.take i).map unkB ++ bs.drop i).set i (unkB (bs.getD i default)) = (bs.take (i + 1)).map unkB ++ bs.drop (i + 1)) := fun i hi => by
    have hh : bs[i]? = some (bs.getD i default) := getD_somL (by rw [HLN.out.2.2.2]; exact hi)
    exact ⟨mix_get hh, mix_step hh⟩
  have HBF : Hid ((bs.take n).map unkB ++ bs.drop n = bs.map unkB) := by show _ = _; rw [← HLN.out.2.2.2, List.take_length, List.drop_length, List.append_nil]
  have HLI2 : Hid (∀ i, i < n → (bs.getD i default).ins.length ≤ 1000000) := fun i hi => HLI.out _ (getD_memB (by rw [HLN.out.2.2.2]; exact hi))
  clear HCG HK2 HC2 H1 HW1 e0 e1 e2 e3 e4 e5 f0 f1 f2 f3 f4 f5 ff HLI
  go_loopw [3] (fun vi wr => ∃ (i : Nat) (avss : List (List Value)), vi = .int .i64 i ∧ i ≤ n ∧ Hid (BG w wr [.string nm, .slice ya pl yc, .int .u8 r, .slice yb m yd, .slice ye al yf, .slice yg n yh] ∧ CG w1 wr ⟨nm, ps, r, vs, ars, (bs.take i).map unkB ++ bs.drop i⟩ B (.slice ya pl yc) (.slice yb m yd) (.slice ye al yf) (.slice yg n yh) ivs avss)) (fun vi _ => n - (intOf vi).toNat)
  case atStart => exact ⟨0, avss, rfl, by omega, HK3.out, HC3.out⟩
  case round =>
    obtain ⟨i, avss, rfl, hi, hr⟩ := hrel
    clear HK3 HC3
    generalize wr = wo at *
    obtain ⟨e0, e1, e2, e3, e4, e5⟩ := box6 hr.out.1.box
    have hwl := hr.out.1.box.lt
    by_cases hin : i < n
    · have hin' : (i : Int) < n := by omega
      obtain ⟨hg1, hg2⟩ := HB1.out i hin
      have hlen := HLI2.out i hin
      obtain ⟨b, hbb⟩ : ∃ b, b = bs.getD i default := ⟨_, rfl⟩
      rw [← hbb] at hg1 hg2 hlen
      obtain ⟨X, hX⟩ : ∃ X, X = (bs.take i).map unkB ++ bs.drop i := ⟨_, rfl⟩
      rw [← hX] at hg1 hg2
      have hr1 := hr.out.2
      rw [← hX] at hr1
      have HG2 : Hid _ := hg2
      have HXN : Hid (X.length = n) := by show _ = _; rw [hX, mix_len]; exact HLN.out.2.2.2
      clear hbb hX HB1 HLI2 hg2
      obtain ⟨L, t⟩ := b
      dsimp only at *
      have HS0 : Hid (CG w1 wo ⟨nm, ps, r, vs, ars, X.set i ⟨(L.take 0).map unkI ++ L.drop 0, t⟩⟩ B (.slice ya pl yc) (.slice yb m yd) (.slice ye al yf) (.slice yg n yh) ivs avss) := by
        show CG _ _ _ _ _ _ _ _ _ _
        rw [show X.set i ⟨(L.take 0).map unkI ++ L.drop 0, t⟩ = X from set_same hg1]
        exact hr1
      have HB0 : Hid _ := hr.out.1
      have HX1 : Hid (X[i]? = some ⟨L, t⟩) := hg1
      obtain ⟨jv, hjv⟩ : ∃ jv, ivs[i]? = some jv := ⟨_, List.getElem?_eq_getElem (by have := hr1.bs.al; dsimp only at this; rw [this, HXN.out]; exact hin)⟩
      have HJV : Hid _ := hjv
      have HFN : Hid (X.set i ⟨(L.take L.length).map unkI ++ L.drop L.length, t⟩ = (bs.take (i + 1)).map unkB ++ bs.drop (i + 1)) := by show _ = _; rw [List.take_length, List.drop_length, List.append_nil]; exact HG2.out
      have HMI : Hid (∀ k, k < L.length → ((L.take k).map unkI ++ L.drop k)[k]? = some (L.getD k default) ∧ ((L.take k).map unkI ++ L.drop k).set k (unkI (L.getD k default)) = (L.take (k + 1)).map unkI ++ L.drop (k + 1)) := fun k hk => ⟨mix_get (getD_somL hk), mix_step (getD_somL hk)⟩
      have HML : Hid (∀ k, ((L.take k).map unkI ++ L.drop k).length = L.length) := fun k => mix_len L unkI k
      clear hr hr1 hg1 hjv HG2 hi
      -- the forms of the row's and the instructions' slices
      obtain ⟨gB, cB, hyg⟩ : ∃ gB cB, (Value.slice yg n yh) = .slice (some ⟨gB, 0, none⟩) n cB := by
        have h9 := HS0.out.bs.row
        dsimp only at h9
        rw [List.length_set, HXN.out] at h9
        rcases own_shape h9 with ⟨_, e⟩ | ⟨g, c, e, _⟩
        · omega
        · exact ⟨g, c, e⟩
      obtain ⟨jc, hjf, hjo⟩ : ∃ jc, jv = jc ∧ ((∃ c, jv = .slice none L.length c ∧ L.length = 0) ∨ ∃ g c, jv = .slice (some ⟨g, 0, none⟩) L.length c) := by
        have hva : i < avss.length := by have := HS0.out.bs.vl; dsimp only at this; rw [this, List.length_set, HXN.out]; exact hin
        have h9 := (HS0.out.bs.kid i ⟨(L.take 0).map unkI ++ L.drop 0, t⟩ jv _ (by rw [List.getElem?_set, if_pos rfl, if_pos (by rw [HXN.out]; exact hin)]) HJV.out (List.getElem?_eq_getElem hva)).row
        dsimp only at h9
        rw [HML.out] at h9
        refine ⟨jv, rfl, ?_⟩
        rcases own_shape h9 with ⟨e, e2⟩ | ⟨g, c, e, _⟩
        · exact .inl ⟨0, by rw [e, e2], e2⟩
        · exact .inr ⟨g, c, e⟩
      clear hjf jc
      injection hyg with q1 q2 q3
      subst q1 q3
      rcases hjo with ⟨ci, rfl, h0⟩ | ⟨gi, ci, rfl⟩
      · go_wp2
        go_loopw [4] (fun vk wr => ∃ (k : Nat) (avss : List (List Value)), vk = .int .i64 k ∧ k ≤ L.length ∧ Hid (BG w wr [.string nm, .slice ya pl yc, .int .u8 r, .slice yb m yd, .slice ye al yf, .slice (some ⟨gB, 0, none⟩) n yh] ∧ CG w1 wr ⟨nm, ps, r, vs, ars, X.set i ⟨(L.take k).map unkI ++ L.drop k, t⟩⟩ B (.slice ya pl yc) (.slice yb m yd) (.slice ye al yf) (.slice (some ⟨gB, 0, none⟩) n yh) ivs avss)) (fun vk _ => L.length - (intOf vk).toNat)
        case atStart => exact ⟨0, avss, rfl, by omega, HB0.out, HS0.out⟩
        case round =>
          obtain ⟨k, avss, rfl, hk, hq⟩ := hrel
          clear HS0 HB0 e0 e1 e2 e3 e4 e5
          obtain ⟨e0, e1, e2, e3, e4, e5⟩ := box6 hq.out.1.box
          have hwl2 := hq.out.1.box.lt
          have hXi : (X.set i ⟨(L.take k).map unkI ++ L.drop k, t⟩)[i]? = some ⟨(L.take k).map unkI ++ L.drop k, t⟩ := by rw [List.getElem?_set, if_pos rfl, if_pos (by rw [HXN.out]; exact hin)]
          have hrow := hq.out.2.bs.row
          dsimp only at hrow
          rw [List.length_set, HXN.out] at hrow
          have cJ : wr.cell? ⟨gB, i * 6, none⟩ = some (.slice none L.length ci) := (hrow.cellAt (i * 6) (by omega)).trans (blsCells_get hXi HJV.out 0 _ rfl)
          have hgBl := (hrow.lt gB rfl).2
          obtain rfl : k = L.length := by omega
          have HQ : Hid _ := hq.out
          rw [HFN.out] at HQ
          clear hq hrow hXi
          go_wp2
          go_roundw
          case rel => exact ⟨i + 1, avss, by first | rfl | (congr 1; omega), by omega, HQ.out.1, HQ.out.2⟩
          case measure => simp [intOf]; omega
      · go_wp2
        go_loopw [4] (fun vk wr => ∃ (k : Nat) (avss : List (List Value)), vk = .int .i64 k ∧ k ≤ L.length ∧ Hid (BG w wr [.string nm, .slice ya pl yc, .int .u8 r, .slice yb m yd, .slice ye al yf, .slice (some ⟨gB, 0, none⟩) n yh] ∧ CG w1 wr ⟨nm, ps, r, vs, ars, X.set i ⟨(L.take k).map unkI ++ L.drop k, t⟩⟩ B (.slice ya pl yc) (.slice yb m yd) (.slice ye al yf) (.slice (some ⟨gB, 0, none⟩) n yh) ivs avss)) (fun vk _ => L.length - (intOf vk).toNat)
        case atStart => exact ⟨0, avss, rfl, by omega, HB0.out, HS0.out⟩
        case round =>
          obtain ⟨k, avss, rfl, hk, hq⟩ := hrel
          clear HS0 HB0 e0 e1 e2 e3 e4 e5
          obtain ⟨e0, e1, e2, e3, e4, e5⟩ := box6 hq.out.1.box
          have hwl2 := hq.out.1.box.lt
          have hXi : (X.set i ⟨(L.take k).map unkI ++ L.drop k, t⟩)[i]? = some ⟨(L.take k).map unkI ++ L.drop k, t⟩ := by rw [List.getElem?_set, if_pos rfl, if_pos (by rw [HXN.out]; exact hin)]
          have hrow := hq.out.2.bs.row
          dsimp only at hrow
          rw [List.length_set, HXN.out] at hrow
          have cJ : wr.cell? ⟨gB, i * 6, none⟩ = some (.slice (some ⟨gi, 0, none⟩) L.length ci) := (hrow.cellAt (i * 6) (by omega)).trans (blsCells_get hXi HJV.out 0 _ rfl)
          have hgBl := (hrow.lt gB rfl).2
          by_cases hkn : k < L.length
          · have hkn' : (k : Int) < L.length := by omega
            obtain ⟨avs, hav⟩ : ∃ avs, avss[i]? = some avs := ⟨_, List.getElem?_eq_getElem (by have := hq.out.2.bs.vl; dsimp only at this; rw [this, List.length_set, HXN.out]; exact hin)⟩
            have hK := hq.out.2.bs.kid i ⟨(L.take k).map unkI ++ L.drop k, t⟩ (.slice (some ⟨gi, 0, none⟩) L.length ci) avs hXi HJV.out hav
            obtain ⟨hm1, hm2⟩ := HMI.out k hkn
            have hKr := hK.row
            dsimp only at hKr
            rw [HML.out] at hKr
            have hKl := hK.al
            dsimp only at hKl
            rw [HML.out] at hKl
            have hak : avs[k]? = some (avs[k]'(by omega)) := List.getElem?_eq_getElem _
            have hcq := fun q u (hu : (inCells (L.getD k default) (avs[k]'(by omega)))[q]? = some u) => (hKr.cellAt (k * 6 + q) (by have := (List.getElem?_eq_some_iff.1 hu).1; simp [inCells] at this; omega)).trans (insCells_get hm1 hak q u hu)
            obtain ⟨za, zc, hz⟩ : ∃ za zc, avs[k]'(by omega) = .slice za (L.getD k default).args.length zc := by obtain ⟨za, zc, e, _⟩ := own_blk (Nat.le_refl _) (hK.kid k _ _ hm1 hak); exact ⟨za, zc, e⟩
            have d0 := hcq 0 _ rfl
            have d1 := hcq 1 _ rfl
            have d2 := hcq 2 _ rfl
            have d3 := hcq 3 _ rfl
            have d4 := hcq 4 _ rfl
            have d5 := hcq 5 _ rfl
            rw [hz] at d3
            rw [Nat.add_zero] at d0
            have hfz := hKr.frozenAt
            have hgi := hKr.lt gi rfl
            have hgil := hgi.2
            have HQ : Hid _ := hq.out
            have HAV : Hid _ := hav
            have HM1 : Hid _ := hm1
            have HM2 : Hid _ := hm2
            have HXI : Hid _ := hXi
            have HGI : Hid (B ≤ gi) := hgi.1
            have HXX : Hid (∀ u v : Bl, (X.set i u).set i v = X.set i v) := fun u v => List.set_set ..
            have HUE : Hid (unkI (L.getD k default) = if (L.getD k default).kind = 9 then ⟨2, 0, (L.getD k default).dst, [], 0, 0⟩ else L.getD k default) := rfl
            clear hq hrow hXi hav hK hm1 hm2 hKr hKl hak hcq hz hgi
            generalize L.getD k default = x at *
            obtain ⟨xk, xo, xd, xargs, xb, xr⟩ := x
            dsimp only at *
            generalize xargs.length = xal at *
            by_cases hk9 : xk = 9
            · subst hk9
              rw [if_pos rfl] at HUE
              have HP : Hid (∀ nq, BG w (putSix (wr.drewN nq) gi k (.int .u8 2) (.int .u8 0) (.int .i64 xd) (.slice none 0 0) (.int .u64 0) (.int .i64 0)) [.string nm, .slice ya pl yc, .int .u8 r, .slice yb m yd, .slice ye al yf, .slice (some ⟨gB, 0, none⟩) n yh] ∧ CG w1 (putSix (wr.drewN nq) gi k (.int .u8 2) (.int .u8 0) (.int .i64 xd) (.slice none 0 0) (.int .u64 0) (.int .i64 0)) ⟨nm, ps, r, vs, ars, X.set i ⟨(L.take (k + 1)).map unkI ++ L.drop (k + 1), t⟩⟩ B (.slice ya pl yc) (.slice yb m yd) (.slice ye al yf) (.slice (some ⟨gB, 0, none⟩) n yh) ivs (avss.set i (avs.set k (.slice none 0 0)))) := fun nq => by
                refine ⟨(HQ.out.1.below (below_drewN (Below.refl _ _) nq)).put (by have h1 := HQ.out.2.lo; have h2 := HLO.out; have h3 := HGI.out; omega) k _ _ _ _ _ _, ?_⟩
                have h9 := (HQ.out.2.same (w2 := wr.drewN nq) fun _ _ => rfl).put (y := ⟨2, 0, xd, [], 0, 0⟩) HXI.out HM1.out (by show _ = some (Value.slice (some ⟨gi, 0, none⟩) ((L.take k).map unkI ++ L.drop k).length ci); rw [HML.out]; exact HJV.out) HAV.out rfl
                dsimp only at h9
                rw [HXX.out, ← HUE.out, HM2.out] at h9
                exact h9
              clear HM1 HM2 HUE HAV HXI HXX
              go_wp2
              refine wp_region_last 19 _ rfl rfl (by kernel_rfl) (by kernel_rfl) (by kernel_rfl) (by kernel_rfl) (by kernel_rfl) (by kernel_rfl) ?_
              simp only [List.take_succ_cons, List.take_zero]
              repeat (go_big_quiet_step (fail))
              refine wpQuiet_nil ?_
              intro _ hw'
              obtain ⟨nq, hw''⟩ := hw'
              subst hw''
              intro K hK
              go_simp
              refine hK _ _ ?_
              clear hK K
              go_wp2
              go_roundw
              case rel => exact ⟨k + 1, _, by first | rfl | (congr 1; omega), by omega, (HP.out nq).1, (HP.out nq).2⟩
              case measure => simp [intOf]; omega
            · have hk9f : (xk == 9) = false := beq_false_of_ne hk9
              rw [if_neg hk9] at HUE
              have HP : Hid (CG w1 wr ⟨nm, ps, r, vs, ars, X.set i ⟨(L.take (k + 1)).map unkI ++ L.drop (k + 1), t⟩⟩ B (.slice ya pl yc) (.slice yb m yd) (.slice ye al yf) (.slice (some ⟨gB, 0, none⟩) n yh) ivs avss) := by
                have h9 := HQ.out.2
                have e9 := HM2.out
                rw [HUE.out, set_same HM1.out] at e9
                rw [e9] at h9
                exact h9
              have HB9 : Hid _ := HQ.out.1
              clear HM1 HM2 HUE HAV HXI HXX HQ
              go_wp2
              go_roundw
              case rel => exact ⟨k + 1, avss, by first | rfl | (congr 1; omega), by omega, HB9.out, HP.out⟩
              case measure => simp [intOf]; omega
          · obtain rfl : k = L.length := by omega
            have HQ : Hid _ := hq.out
            rw [HFN.out] at HQ
            clear hq hrow hXi
            go_wp2
            go_roundw
            case rel => exact ⟨i + 1, avss, by first | rfl | (congr 1; omega), by omega, HQ.out.1, HQ.out.2⟩
            case measure => simp [intOf]; omega
    · obtain rfl : i = n := by omega
      have HF : Hid _ := hr.out
      rw [HBF.out] at HF
      obtain ⟨r0, r1, r2, r3, r4, r5⟩ := box6 hr.out.1.rbx
      have rf := hr.out.1.rbx.fz
      have rlt := hr.out.1.rbx.lt
      clear hr HB1 HLI2
      go_wp2
      obtain ⟨q1, q2, q3⟩ := six_end HF.out.1.low (Nat.le_succ _) HF.out.1.res (.string nm) (.slice ya pl yc) (.int .u8 r) (.slice yb m yd) (.slice ye al yf) (.slice yg i yh)
      refine bodyPost_ret (results_cell_row rfl _ _ (w.heap.size + 1) 28 #[.string nm, .slice ya pl yc, .int .u8 r, .slice yb m yd, .slice ye al yf, .slice yg i yh] _ _ rfl q2 Tryz.underlying28 rfl (by rfl)) rfl ⟨_, _, _, _, rfl, ?_, q1⟩
      exact HFI.out w1 _ B _ _ _ _ ivs avss (HF.out.2.same fun g hg => q3 g (by have := HLO.out; omega))
end Go.Proofs.YtcggbedjhglmmaaGreatDoor
