/- A right graph that is trimmed is right, and trimmed once more it is the same. Plain. -/
import Derived.Test.YtabpnjakfoofpaaGreatDoorGTrQM
import Derived.Test.YtabpnjakfoofpaaGreatDoorGRPl
namespace Go.Proofs.YtabpnjakfoofpaaGreatDoor

theorem trim_len (bs : List Bl) : (trimBs bs).length = (orderT (tms bs)).length := by unfold trimBs; simp
theorem tms_trim {bs : List Bl} {j : Nat} {c : Int} (hj : (orderT (tms bs))[j]? = some c) : (tms (trimBs bs)).getD j default = ledT (orderT (tms bs)) (tms bs).length ((tms bs).getD c.toNat default) := by
  obtain ⟨k, rfl, hk⟩ := (order_ok (tms bs)).nat c (List.mem_of_getElem? hj)
  have htl : (tms bs).length = bs.length := by simp [tms]
  unfold trimBs
  rw [getD_map_tm hj, Int.toNat_natCast, tms_get (by omega), htl]
  rfl
theorem trim_at {bs : List Bl} {b : Bl} (h : b ∈ trimBs bs) : ∃ (i a : Nat), (orderT (tms bs))[i]? = some (a : Int) ∧ (a : Int) ∈ orderT (tms bs) ∧ a < bs.length ∧ bs.getD a default ∈ bs ∧ b = trimB (orderT (tms bs)) bs.length ((aheadT (tms bs)).getD a []) (bs.getD a default) := by
  unfold trimBs at h
  obtain ⟨c, hc, rfl⟩ := List.mem_map.1 h
  obtain ⟨a, rfl, ha⟩ := (order_ok (tms bs)).nat c hc
  have htl : (tms bs).length = bs.length := by simp [tms]
  obtain ⟨_, p2, p3⟩ := place_in hc
  refine ⟨_, a, p3, hc, by omega, ?_, by rw [Int.toNat_natCast]⟩
  rw [List.getD_eq_getElem?_getD, List.getElem?_eq_getElem (by omega)]
  exact List.getElem_mem _
theorem kept_sub {args st : List Int} {x : Int} (h : x ∈ keptP args st) : x ∈ args := by
  unfold keptP at h
  obtain ⟨i, _, hi⟩ := List.mem_filterMap.1 h
  exact List.mem_of_getElem? hi
theorem kept_len {args st : List Int} (h : ∀ i ∈ st, 0 ≤ i ∧ i < (args.length : Int)) : (keptP args st).length = st.length := by
  unfold keptP
  induction st with
  | nil => rfl
  | cons i st ih =>
    obtain ⟨h0, h1⟩ := h i (by simp)
    rw [List.filterMap_cons, List.getElem?_eq_getElem (show i.toNat < args.length by omega)]
    simp only [List.length_cons]
    rw [ih fun j hj => h j (by simp [hj])]
theorem stay_in {O ah : List Int} : ∀ i ∈ stayP O ah, 0 ≤ i ∧ i < (ah.length : Int) := fun i hi => by
  unfold stayP at hi
  obtain ⟨x, hx, rfl⟩ := List.mem_map.1 hi
  have hm : x ∈ ah := by have := (List.mem_filter.1 hx).2; simpa using this
  obtain ⟨p1, p2, _⟩ := place_in hm
  rw [p1]; omega
theorem stay_len {O ah : List Int} : (stayP O ah).length = ((List.range O.length).filter fun j => decide (O.getD j 0 ∈ ah)).length := by
  unfold stayP
  rw [← map_range_get (fun x => decide (x ∈ ah)) (placeOf ah), List.length_map]
theorem trimI_kind (st : List Int) (x : In) : (trimI st x).kind = x.kind ∧ (trimI st x).dst = x.dst := by unfold trimI; split <;> exact ⟨rfl, rfl⟩
theorem alone_trim {G : Gr} {x : In} (st : List Int) (h : aloneR G x = true) : aloneR (trimG G) (trimI st x) = true := by
  unfold trimI
  by_cases hk : x.kind = 1
  · rw [if_pos hk]
    obtain ⟨k, op, dst, args, bits, ref⟩ := x
    dsimp only at hk ⊢
    subst hk
    unfold aloneR plainB kindR at h ⊢
    simp only [Bool.and_eq_true, List.all_eq_true, if_true] at h ⊢
    simp at h ⊢
    obtain ⟨h1, h2, h3, h4⟩ := h
    exact ⟨h1, fun y hy => h2 y (kept_sub hy), h3, fun y hy => h4 y (kept_sub hy)⟩
  · rw [if_neg hk]; exact h
theorem ins_trim {p : List Gr} {G : Gr} {x : In} (st : List Int) (h : insR p G x = true) : insR p (trimG G) (trimI st x) = true := by
  unfold trimI
  by_cases hk : x.kind = 1
  · rw [if_pos hk]; unfold insR; simp [hk]
  · rw [if_neg hk]; exact h
theorem place_pos {ts : List Tm} {y : Int} (hy : y ∈ orderT ts) (h0 : 0 < y) : 0 < placeOf (orderT ts) y ∧ placeOf (orderT ts) y < ((orderT ts).length : Int) := by
  have ho := order_ok ts
  obtain ⟨p1, p2, p3⟩ := place_in hy
  have hl : 0 < ts.length := by obtain ⟨k, _, hk⟩ := ho.nat y hy; omega
  obtain ⟨r, hr⟩ := order_head hl
  refine ⟨?_, by rw [p1]; omega⟩
  rw [p1]
  by_cases e : (orderT ts).idxOf y = 0
  · rw [e] at p3
    rw [hr] at p3
    simp at p3
    omega
  · omega
theorem end_trim {G : Gr} {a : Nat} (ha : (a : Int) ∈ orderT (tms G.blocks)) (hl : a < G.blocks.length) (h : rendB G (G.blocks.getD a default).tm = true) : rendB (trimG G) (ledT (orderT (tms G.blocks)) G.blocks.length (G.blocks.getD a default).tm) = true := by
  have ho := order_ok (tms G.blocks)
  have htl : (tms G.blocks).length = G.blocks.length := by simp [tms]
  have hc := fun y hy => named_closed ho ha (y := y) hy
  rw [tms_get hl, htl] at hc
  have hk : ((trimG G).blocks.length : Int) = (orderT (tms G.blocks)).length := by show (((trimBs G.blocks).length : Nat) : Int) = _; rw [trim_len]
  have hpos : ∀ y, y ∈ namedT (G.blocks.getD a default).tm → innerB y G.blocks.length = true → innerB (if inB y G.blocks.length = true then placeOf (orderT (tms G.blocks)) y else y) (trimG G).blocks.length = true := fun y hy hi => by
    unfold innerB at hi ⊢
    rw [decide_eq_true_iff] at hi ⊢
    have hin : inB y G.blocks.length = true := inB_iff.2 (by omega)
    rw [if_pos hin, hk]
    exact place_pos ((hc y hy).1 hin) hi.1
  generalize (G.blocks.getD a default).tm = t at *
  obtain ⟨k, ar, t0, t1, tr⟩ := t
  unfold rendB ledT namedT at *
  dsimp only at *
  by_cases k1 : k = 1
  · subst k1
    simp only [if_true, Bool.and_eq_true] at h ⊢
    have := hpos t0 (by simp) h.1
    simp only [show ¬ ((1 : Int) = 2) by omega, false_and, if_false, true_or, true_and]
    exact ⟨this, h.2⟩
  · by_cases k2 : k = 2
    · subst k2
      simp only [show ¬ ((2 : Int) = 1) by omega, if_false, if_true, Bool.and_eq_true] at h ⊢
      have h0 := hpos t0 (by simp) h.1
      have h1 := hpos t1 (by simp) h.2.1
      simp only [or_true, true_and]
      exact ⟨h0, h1, h.2.2⟩
    · simp only [k1, k2, if_false, or_self, false_and] at h ⊢
      exact h
theorem phiR_trim {i a na na' : Nat} {st : List Int} (hia : a ≠ 0 → i ≠ 0) (hl : ∀ args : List Int, args.length = na → (keptP args st).length = na') : ∀ (L : List In) (k : Nat) (S : List Int), phiR a na L k S = true → phiR i na' (L.map (trimI st)) k S = true
  | [], _, _, _ => rfl
  | x :: L, k, S, h => by
    rw [List.map_cons]
    unfold phiR at h ⊢
    rw [(trimI_kind st x).1, (trimI_kind st x).2]
    by_cases hk : x.kind = 1
    · rw [if_pos hk] at h ⊢
      simp only [Bool.and_eq_true, decide_eq_true_eq] at h ⊢
      obtain ⟨⟨h1, h2, h3, h4⟩, h5⟩ := h
      refine ⟨⟨hia h1, h2, ?_, h4⟩, phiR_trim hia hl L _ _ h5⟩
      unfold trimI
      rw [if_pos hk]
      exact hl _ h3
    · rw [if_neg hk] at h ⊢
      exact phiR_trim hia hl L _ _ h
theorem phisRF_iff {rows : List (List Int)} : ∀ (bs : List Bl) (i : Nat), phisRF rows bs i = true ↔ ∀ j, j < bs.length → phiR (i + j) (rows.getD (i + j) []).length (bs.getD j default).ins 0 [] = true
  | [], i => by simp [phisRF]
  | b :: bs, i => by
    unfold phisRF
    rw [Bool.and_eq_true, phisRF_iff bs (i + 1)]
    constructor
    · rintro ⟨h1, h2⟩ j hj
      cases j with
      | zero => simpa using h1
      | succ j =>
        have := h2 j (by simpa using hj)
        rw [show i + 1 + j = i + (j + 1) by omega] at this
        simpa using this
    · intro h
      refine ⟨by simpa using h 0 (by simp), fun j hj => ?_⟩
      have := h (j + 1) (by simpa using hj)
      rw [show i + (j + 1) = i + 1 + j by omega] at this
      simpa using this
theorem trim_getD {bs : List Bl} {j a : Nat} (hj : (orderT (tms bs))[j]? = some (a : Int)) : (trimBs bs).getD j default = trimB (orderT (tms bs)) bs.length ((aheadT (tms bs)).getD a []) (bs.getD a default) := by
  unfold trimBs
  rw [List.getD_eq_getElem?_getD, List.getElem?_map, hj]; rfl
theorem row_trim {bs : List Bl} {j a : Nat} (hj : (orderT (tms bs))[j]? = some (a : Int)) : (aheadT (tms (trimBs bs))).getD j [] = ((List.range (orderT (tms bs)).length).filter fun q => decide ((orderT (tms bs)).getD q 0 ∈ (aheadT (tms bs)).getD a [])).map fun q => ((q : Nat) : Int) := by
  have := now_row (order_ok (tms bs)) (us := tms (trimBs bs)) (by simp [tms, trim_len]) (fun q c hq => tms_trim hq) hj
  rw [Int.toNat_natCast] at this
  exact this
theorem order_nat {bs : List Bl} {j : Nat} (hj : j < (orderT (tms bs)).length) : ∃ a : Nat, (orderT (tms bs))[j]? = some (a : Int) ∧ a < bs.length ∧ (a : Int) ∈ orderT (tms bs) := by
  obtain ⟨a, ha, hl⟩ := (order_ok (tms bs)).nat _ (List.getElem_mem hj)
  have htl : (tms bs).length = bs.length := by simp [tms]
  refine ⟨a, by rw [List.getElem?_eq_getElem hj, ha], by omega, ?_⟩
  rw [← ha]; exact List.getElem_mem hj
theorem phis_trim {G : Gr} (h : phisR G = true) : phisR (trimG G) = true := by
  unfold phisR at h ⊢
  rw [phisRF_iff] at h ⊢
  intro j hj
  have hjl : j < (orderT (tms G.blocks)).length := by rw [← trim_len]; exact hj
  obtain ⟨a, ha, hl, hm⟩ := order_nat hjl
  rw [Nat.zero_add]
  show phiR j ((aheadT (tms (trimBs G.blocks))).getD j []).length ((trimBs G.blocks).getD j default).ins 0 [] = true
  rw [row_trim ha, trim_getD ha, List.length_map]
  have h9 := h a hl
  rw [Nat.zero_add] at h9
  refine phiR_trim (a := a) (na := ((aheadT (tms G.blocks)).getD a []).length) (fun h0 hj0 => h0 ?_) (fun args hargs => ?_) _ _ _ h9
  · subst hj0
    have hts : 0 < (tms G.blocks).length := by simp only [tms, List.length_map]; omega
    obtain ⟨r, hr⟩ := order_head hts
    rw [hr] at ha
    simp at ha
    omega
  · rw [kept_len (fun i hi => by have := stay_in i hi; rw [hargs]; exact this), stay_len]
theorem right_trim {p : List Gr} {G : Gr} (h : rightR p G = true) : rightR p (trimG G) = true := by
  unfold rightR aloneG at h ⊢
  simp only [Bool.and_eq_true] at h ⊢
  obtain ⟨⟨h1, h2, h3⟩, h4⟩ := h
  refine ⟨⟨?_, ?_, phis_trim h3⟩, ?_⟩
  · unfold headR at h1 ⊢
    simp only [Bool.and_eq_true, decide_eq_true_eq] at h1 ⊢
    have e : (trimG G).blocks.length = (orderT (tms G.blocks)).length := trim_len _
    have htl : (tms G.blocks).length = G.blocks.length := by simp [tms]
    have hz := (order_ok (tms G.blocks)).zero (by omega)
    have hle := order_len (order_ok (tms G.blocks))
    have hge : 0 < (orderT (tms G.blocks)).length := List.length_pos_of_mem hz
    refine ⟨by omega, by omega, h1.2.2⟩
  · rw [List.all_eq_true] at h2 ⊢
    intro b hb
    obtain ⟨i, a, hi, ha, hl, hm, rfl⟩ := trim_at hb
    have h9 := h2 _ hm
    unfold blockR at h9 ⊢
    rw [Bool.and_eq_true] at h9 ⊢
    refine ⟨end_trim ha hl h9.1, ?_⟩
    rw [List.all_eq_true] at *
    intro x hx
    unfold trimB at hx
    obtain ⟨y, hy, rfl⟩ := List.mem_map.1 hx
    exact alone_trim _ (h9.2 y hy)
  · rw [List.all_eq_true] at h4 ⊢
    intro b hb
    obtain ⟨i, a, hi, ha, hl, hm, rfl⟩ := trim_at hb
    have h9 := h4 _ hm
    unfold bodyR at h9 ⊢
    rw [List.all_eq_true] at *
    intro x hx
    unfold trimB at hx
    obtain ⟨y, hy, rfl⟩ := List.mem_map.1 hx
    exact ins_trim _ (h9 y hy)
/- Once more. -/
theorem range_place {k : Nat} {y : Int} (h : inB y k = true) : placeOf ((List.range k).map fun i => ((i : Nat) : Int)) y = y := by
  obtain ⟨h0, h1⟩ := inB_iff.1 h
  have hn : ((List.range k).map fun i => ((i : Nat) : Int)).Nodup := by
    unfold List.Nodup
    rw [List.pairwise_map]
    exact List.nodup_range.imp fun h => by omega
  have := place_at hn (i := y.toNat) (x := y) (by rw [List.getElem?_map, List.getElem?_range (by omega)]; simp; omega)
  omega
theorem led_range {k : Nat} (t : Tm) : ledT ((List.range k).map fun i => ((i : Nat) : Int)) k t = t := by
  obtain ⟨kd, ar, t0, t1, tr⟩ := t
  unfold ledT
  dsimp only
  have h : ∀ y, inB y k = true → placeOf ((List.range k).map fun i => ((i : Nat) : Int)) y = y := fun y hy => range_place hy
  congr 1
  · split
    · rename_i hc; exact h _ hc.2
    · rfl
  · split
    · rename_i hc; exact h _ hc.2
    · rfl
theorem stay_range {k : Nat} {ah : List Int} (hs : ah.Pairwise (· < ·)) (hin : ∀ x ∈ ah, inB x k = true) : stayP ((List.range k).map fun i => ((i : Nat) : Int)) ah = (List.range ah.length).map fun i => ((i : Nat) : Int) := by
  unfold stayP
  have e : ((List.range k).map fun i => ((i : Nat) : Int)).filter (fun x => decide (x ∈ ah)) = ah := by
    have s1 : (((List.range k).map fun i => ((i : Nat) : Int)).filter (fun x => decide (x ∈ ah))).Pairwise (· < ·) := by
      refine List.Pairwise.filter _ ?_
      rw [List.pairwise_map]
      exact List.pairwise_lt_range.imp fun h => by omega
    have n1 : (((List.range k).map fun i => ((i : Nat) : Int)).filter (fun x => decide (x ∈ ah))).Nodup := s1.imp fun h => by omega
    have n2 : ah.Nodup := hs.imp fun h => by omega
    refine List.Perm.eq_of_pairwise (le := (· < ·)) (fun a b _ _ h1 h2 => by omega) s1 hs ((List.perm_ext_iff_of_nodup n1 n2).2 fun x => ?_)
    rw [List.mem_filter, decide_eq_true_iff]
    constructor
    · exact fun h => h.2
    · intro h
      obtain ⟨q0, q1⟩ := inB_iff.1 (hin x h)
      exact ⟨List.mem_map.2 ⟨x.toNat, List.mem_range.2 (by omega), by omega⟩, h⟩
  rw [e]
  have n2 : ah.Nodup := hs.imp fun h => by omega
  apply List.ext_getElem
  · simp
  · intro i h1 h2
    rw [List.getElem_map, List.getElem_map, List.getElem_range]
    exact place_at n2 (List.getElem?_eq_getElem (by simpa using h1))
theorem kept_range {args : List Int} {m : Nat} (h : args.length = m) : keptP args ((List.range m).map fun i => ((i : Nat) : Int)) = args := by
  subst h
  unfold keptP
  rw [List.filterMap_map]
  have : ∀ (l : List Int), (List.range l.length).filterMap ((fun i : Int => l[i.toNat]?) ∘ fun i => ((i : Nat) : Int)) = l := fun l => by
    induction l with
    | nil => rfl
    | cons a l ih =>
      rw [List.length_cons, List.range_succ_eq_map, List.filterMap_cons, List.filterMap_map]
      simp only [Function.comp, Int.toNat_natCast, List.getElem?_cons_zero]
      congr 1
  exact this args
theorem phi_lens {i na : Nat} : ∀ (L : List In) (k : Nat) (S : List Int), phiR i na L k S = true → ∀ x ∈ L, x.kind = 1 → x.args.length = na
  | [], _, _, _ => fun x hx => by simp at hx
  | y :: L, k, S, h => by
    unfold phiR at h
    intro x hx hk
    by_cases hy : y.kind = 1
    · rw [if_pos hy] at h
      simp only [Bool.and_eq_true, decide_eq_true_eq] at h
      rcases List.mem_cons.1 hx with rfl | hx
      · exact h.1.2.2.1
      · exact phi_lens L _ _ h.2 x hx hk
    · rw [if_neg hy] at h
      rcases List.mem_cons.1 hx with rfl | hx
      · exact absurd hk hy
      · exact phi_lens L _ _ h x hx hk
theorem order_again (bs : List Bl) : orderT (tms (trimBs bs)) = (List.range (trimBs bs).length).map fun i => ((i : Nat) : Int) := by
  have := order_trim (ts := tms bs) (us := tms (trimBs bs)) (by simp [tms, trim_len]) (fun q c hq => tms_trim hq)
  rw [this]
  simp [tms]
theorem trim_again {G : Gr} (h : phisR G = true) : trimG (trimG G) = trimG G := by
  have h2 := phis_trim h
  unfold trimG at h2 ⊢
  dsimp only at h2 ⊢
  congr 1
  generalize hB : trimBs G.blocks = B at *
  have hO : orderT (tms B) = (List.range B.length).map fun i => ((i : Nat) : Int) := by rw [← hB]; exact order_again _
  unfold phisR at h2
  rw [phisRF_iff] at h2
  dsimp only at h2
  apply List.ext_getElem
  · rw [trim_len, hO]; simp
  · intro i h1 hi
    have hs : (orderT (tms B))[i]? = some ((i : Nat) : Int) := by rw [hO, List.getElem?_map, List.getElem?_range hi]; rfl
    have e := trim_getD hs
    rw [List.getD_eq_getElem?_getD, List.getElem?_eq_getElem h1, Option.getD_some] at e
    rw [e, hO]
    have hbi : B.getD i default = B[i] := by rw [List.getD_eq_getElem?_getD, List.getElem?_eq_getElem hi]; rfl
    have h9 := h2 i hi
    rw [Nat.zero_add, hbi] at h9
    rw [hbi]
    have htl : i < (tms B).length := by simpa [tms] using hi
    unfold trimB
    rw [led_range, stay_range (ahead_lt htl) (fun x hx => by
      obtain ⟨q, rfl, hq, _⟩ := (mem_ahead htl).1 hx
      have : (tms B).length = B.length := by simp [tms]
      exact inB_iff.2 ⟨by omega, by omega⟩)]
    have hm : B[i].ins.map (trimI ((List.range ((aheadT (tms B)).getD i []).length).map fun q => ((q : Nat) : Int))) = B[i].ins := by
      rw [List.map_eq_iff]
      intro q
      cases hq : B[i].ins[q]? with
      | none => simp
      | some x =>
        simp only [Option.map_some, Option.some.injEq]
        unfold trimI
        by_cases hk : x.kind = 1
        · rw [if_pos hk, kept_range (phi_lens _ _ _ h9 x (List.mem_of_getElem? hq) hk)]
        · rw [if_neg hk]
    rw [hm]
/- Other programs that call the same. -/
def SigSame (p q : List Gr) : Prop := p.length = q.length ∧ ∀ i, (p.getD i default).params = (q.getD i default).params ∧ (p.getD i default).vars = (q.getD i default).vars ∧ (p.getD i default).result = (q.getD i default).result
theorem right_sig {p q : List Gr} {G : Gr} (h : SigSame p q) : rightR p G = rightR q G := by
  have e : ∀ x, calledR p G.vars x = calledR q G.vars x := fun x => by
    unfold calledR
    obtain ⟨h1, h2, h3⟩ := h.2 x.ref.toNat
    rw [h.1, h1, h2, h3]
  unfold rightR bodyR insR
  simp only [e]
end Go.Proofs.YtabpnjakfoofpaaGreatDoor
