/- What is live is told to the rows of all variables. -/
import Derived.Test.YtcggbedjhglmmaaGreatDoorLToldM
namespace Go.Proofs.YtcggbedjhglmmaaGreatDoor
open Go.RowKit

structure Ans (ss : List Slot) (j G n : Nat) (kvs : List Value) (rows : List (List Int)) : Prop where
  kl : kvs.length = n
  rl : rows.length = n
  head : ss[j]? = some ⟨rowN G n, 22, 1, n, kvs⟩
  row : ∀ (i : Nat) (r : List Int) (kv : Value), rows[i]? = some r → kvs[i]? = some kv → ss[j + 1 + i]? = some ⟨kv, 3, 1, r.length, r.map intV⟩
theorem Ans.of {ss ss' : List Slot} {j G n : Nat} {kvs : List Value} {rows : List (List Int)} (h : Ans ss j G n kvs rows) (hk : ∀ i, j ≤ i → i ≤ j + n → ss'[i]? = ss[i]?) : Ans ss' j G n kvs rows := by
  refine ⟨h.kl, h.rl, by rw [hk j (Nat.le_refl _) (by omega)]; exact h.head, fun i r kv hr hv => ?_⟩
  have hi : i < n := by have := (List.getElem?_eq_some_iff.1 hr).1; rw [h.rl] at this; exact this
  rw [hk _ (by omega) (by omega)]
  exact h.row i r kv hr hv
theorem Ans.kp {ss ss' : List Slot} {j G n : Nat} {kvs : List Value} {rows : List (List Int)} (h : Ans ss j G n kvs rows) (hj : 7 ≤ j) (hk : Kp ss ss') : Ans ss' j G n kvs rows := h.of fun i hi _ => hk.at' i (by omega)
/-- one row is told more -/
theorem Fw.toldAt {E : FEnv} {w w2 : World} {wv mv : Value} {ss : List Slot} {f : Fl} (h : Fw E w wv mv ss f) {j G n : Nat} {kvs : List Value} {rows : List (List Int)} (hj : 7 ≤ j) (ha : Ans ss j G n kvs rows) {i : Nat} {r r' : List Int} {kv v' : Value} (hr : rows[i]? = some r) (hk : kvs[i]? = some kv)
    (ho : OwnI w2 E.w0.heap.size v' r') (hg : w.grownBy w2 kv.ownBlock) (hat : ∀ g, v'.ownBlock = some g → kv.ownBlock = some g ∨ w.heap.size ≤ g) :
    ∃ ss', Fw E (w2.setCell ⟨G, i, none⟩ v') wv mv ss' f ∧ Ans ss' j G n (kvs.set i v') (rows.set i r') ∧ (∀ k, k ≠ j → k ≠ j + 1 + i → ss'[k]? = ss[k]?) ∧ ss'.length = ss.length ∧ w2.cell? ⟨G, i, none⟩ = some kv ∧ w2.frozen? ⟨G, i, none⟩ = false := by
  have hi : i < n := by have := (List.getElem?_eq_some_iff.1 hr).1; rw [ha.rl] at this; exact this
  have hrow := ha.row i r kv hr hk
  have h1 : Heap w2 E.w0.heap.size (ss.set (j + 1 + i) ⟨v', 3, 1, r'.length, r'.map intV⟩) := h.heap.turn hrow (fun k hk2 hne => hg.block k hk2 (fun e => hne e.symm)) ho hat
  have k0 : (ss.set (j + 1 + i) ⟨v', 3, 1, r'.length, r'.map intV⟩)[j]? = some ⟨rowN G n, 22, 1, n, kvs⟩ := by rw [set_ne (by omega)]; exact ha.head
  have h2 := h1.store k0 i v'
  have hb := (h.heap.lt ha.head).1
  have hlow : Below E.w0.heap.size E.w0 w2 := below_grownB h.low hg (fun g hg' => ((h.heap.own _ _ hrow).lt g hg').1) h.low.size
  generalize hs' : (ss.set (j + 1 + i) ⟨v', 3, 1, r'.length, r'.map intV⟩).set j ⟨rowN G n, 22, 1, n, kvs.set i v'⟩ = ss' at *
  have hks : ∀ k, k ≠ j → k ≠ j + 1 + i → ss'[k]? = ss[k]? := fun k h1 h2 => by rw [← hs', set_ne (Ne.symm h1), set_ne (Ne.symm h2)]
  have hlen : ss'.length = ss.length := by rw [← hs']; simp
  have hjl : j < ss.length := (List.getElem?_eq_some_iff.1 ha.head).1
  have hil : j + 1 + i < ss.length := (List.getElem?_eq_some_iff.1 hrow).1
  refine ⟨ss', ⟨hlow.setCell (p := ⟨G, i, none⟩) hb _, by rw [← hs']; exact h2, ?_, ?_, ?_, ?_, ?_, ?_, ?_⟩, ⟨by simp [ha.kl], by simp [ha.rl], ?_, fun k r0 kv0 hr0 hk0 => ?_⟩, hks, hlen, h1.cell k0 (j := i) hk, h1.fz k0 i⟩
  · rw [hks 0 (by omega) (by omega)]; exact h.s0
  · rw [hks 1 (by omega) (by omega)]; exact h.s1
  · rw [hks 2 (by omega) (by omega)]; exact h.s2
  · rw [hks 3 (by omega) (by omega)]; exact h.s3
  · rw [hks 4 (by omega) (by omega)]; exact h.s4
  · rw [hks 5 (by omega) (by omega)]; exact h.s5
  · rw [hks 6 (by omega) (by omega)]; exact h.s6
  · rw [← hs']; exact set_eq k0
  · rw [List.getElem?_set] at hr0 hk0
    by_cases e : i = k
    · subst e
      rw [if_pos rfl, if_pos (by rw [ha.rl]; exact hi)] at hr0
      rw [if_pos rfl, if_pos (by rw [ha.kl]; exact hi)] at hk0
      cases hr0; cases hk0
      rw [← hs', set_ne (by omega)]
      exact set_eq hrow
    · rw [if_neg e] at hr0 hk0
      rw [hks _ (by omega) (by omega)]
      exact ha.row k r0 kv0 hr0 hk0
/-- rows told as far as blocks are gone through -/
def toldR (rows : List (List Int)) (first : Nat) (ws : List Nat) (l : List Nat) : List (List Int) := l.foldl (fun rs i => rs.set i (toldL (rs.getD i []) first (wAt ws i))) rows
theorem toldR_len (first : Nat) (ws : List Nat) : ∀ (l : List Nat) (rows : List (List Int)), (toldR rows first ws l).length = rows.length
  | [], _ => rfl
  | a :: l, rows => by unfold toldR; rw [List.foldl_cons]; exact (toldR_len first ws l _).trans (by simp)
theorem toldR_snoc (rows : List (List Int)) (first : Nat) (ws l : List Nat) (i : Nat) : toldR rows first ws (l ++ [i]) = (toldR rows first ws l).set i (toldL ((toldR rows first ws l).getD i []) first (wAt ws i)) := by
  unfold toldR; rw [List.foldl_append]; rfl
theorem toldL_zero (l : List Int) (first : Nat) : toldL l first 0 = l := by unfold toldL; rw [bitsL_zero]; simp
theorem getD_setR {rows : List (List Int)} {k : Nat} {r : List Int} (h : k < rows.length) (z : Nat) : (rows.set k r).getD z [] = if z = k then r else rows.getD z [] := by
  rw [List.getD_eq_getElem?_getD, List.getD_eq_getElem?_getD, List.getElem?_set]
  by_cases e : k = z
  · subst e; simp [h]
  · rw [if_neg e, if_neg (fun e2 => e e2.symm)]
theorem toldR_get {first : Nat} {ws : List Nat} : ∀ (l : List Nat) (rows : List (List Int)), l.Nodup → (∀ i ∈ l, i < rows.length) → ∀ z, (toldR rows first ws l).getD z [] = if z ∈ l then toldL (rows.getD z []) first (wAt ws z) else rows.getD z []
  | [], rows, _, _, z => by simp [toldR]
  | a :: l, rows, hn, hl, z => by
    rw [List.nodup_cons] at hn
    have ha := hl a (by simp)
    have ih := toldR_get (first := first) (ws := ws) l (rows.set a (toldL (rows.getD a []) first (wAt ws a))) hn.2 (fun i hi => by simpa using hl i (by simp [hi])) z
    have e : toldR rows first ws (a :: l) = toldR (rows.set a (toldL (rows.getD a []) first (wAt ws a))) first ws l := rfl
    rw [e, ih, getD_setR ha]
    by_cases hz : z = a
    · subst hz
      rw [if_neg hn.1, if_pos rfl, if_pos (by simp)]
    · rw [if_neg hz]
      simp [hz]
theorem toldR_all {rows : List (List Int)} {first : Nat} {ws l : List Nat} (hn : l.Nodup) (hl : ∀ i ∈ l, i < rows.length) (hz : ∀ i, wAt ws i ≠ 0 → i ∈ l) (z : Nat) : (toldR rows first ws l).getD z [] = toldL (rows.getD z []) first (wAt ws z) := by
  rw [toldR_get l rows hn hl]
  split
  · rfl
  · rename_i h
    have : wAt ws z = 0 := Classical.byContradiction fun hc => h (hz z hc)
    rw [this, toldL_zero]
theorem Ans.get {ss : List Slot} {j G n : Nat} {kvs : List Value} {rows : List (List Int)} (h : Ans ss j G n kvs rows) {i : Nat} (hi : i < n) : ∃ kv, kvs[i]? = some kv ∧ rows[i]? = some (rows.getD i []) := by
  refine ⟨_, List.getElem?_eq_getElem (by rw [h.kl]; exact hi), ?_⟩
  rw [List.getElem?_eq_getElem (by rw [h.rl]; exact hi)]
  simp [List.getElem?_eq_getElem (show i < rows.length by rw [h.rl]; exact hi)]
set_option maxRecDepth 100000 in
set_option maxHeartbeats 4000000 in
theorem tell_any {E : FEnv} {w : World} {wv mv : Value} {ss : List Slot} {f : Fl} (h : Fw E w wv mv ss f) (hT : TzAt w) (hb0 : 0 < E.w0.heap.size) {ja jb GA GB : Nat} {ka kb : List Value} {ra rb : List (List Int)} (hja : 7 ≤ ja) (hjb : ja + E.n < jb) (hA : Ans ss ja GA E.n ka ra) (hB : Ans ss jb GB E.n kb rb)
    (first : Nat) (hf : first ≤ 100000000) (hlen : ∀ i, (ra.getD i []).length ≤ 900000 ∧ (rb.getD i []).length ≤ 900000) (h5 : ∀ i ∈ f.met, i < E.n) (h6 : f.met.length ≤ 100000) (hnd : f.met.Nodup) (hwi : Words E.n f.into) (hwo : Words E.n f.out) :
    Calls Tryz.prog 22 #[ptr E.F, .int .i64 (first : Int), rowN GA E.n, rowN GB E.n] w fun e w' => e = .returned (.tuple #[]) ∧ ∃ ss' ka' kb', Fw E w' wv mv ss' f ∧ ss'.length = ss.length ∧ (∀ k, jb + E.n < k → ss'[k]? = ss[k]?) ∧ Ans ss' ja GA E.n ka' (toldR ra first f.into f.met) ∧ Ans ss' jb GB E.n kb' (toldR rb first f.out f.met) := by
  have HF : Hid (Fw E w wv mv ss f) := h
  have HAN : Hid (Ans ss ja GA E.n ka ra ∧ Ans ss jb GB E.n kb rb) := ⟨hA, hB⟩
  have HJ : Hid (7 ≤ ja ∧ ja + E.n < jb) := ⟨hja, hjb⟩
  have HT : Hid (TzAt w ∧ 0 < E.w0.heap.size) := ⟨hT, hb0⟩
  have HL : Hid (∀ i, (ra.getD i []).length ≤ 900000 ∧ (rb.getD i []).length ≤ 900000) := hlen
  have HM : Hid ((∀ i ∈ f.met, i < E.n) ∧ f.met.Nodup ∧ Words E.n f.into ∧ Words E.n f.out) := ⟨h5, hnd, hwi, hwo⟩
  obtain ⟨_, _, _, _, _, _, b6, _, hFl⟩ := h.box
  have ho := h.heap.own 6 _ h.s6
  obtain ⟨ma, mc, hmv⟩ : ∃ ma mc, mv = .slice ma f.met.length mc := by
    rcases own_shape ho with ⟨e, e0⟩ | ⟨g, c, e, _⟩
    · dsimp only at e e0; exact ⟨none, 0, by rw [e, e0]⟩
    · exact ⟨_, _, e⟩
  subst hmv
  have hml : (f.met.length : Int) ≤ 100000 := by omega
  clear h hT hb0 hA hB hlen h5 h6 hnd hwi hwo ho hja hjb
  generalize hFF : E.F = F at *
  have HFF : Hid (E.F = F) := hFF
  clear hFF
  generalize hml1 : f.met.length = ml at *
  have HML : Hid (f.met.length = ml) := hml1
  clear hml1
  unfold rowN
  go_enter Tryz.func22, Tryz.ntmps22
  go_wp2
  go_loopw [15] (fun vk wr => ∃ (k : Nat) (ss1 : List Slot) (ka1 kb1 : List Value), vk = .int .i64 k ∧ k ≤ ml ∧ Hid (Fw E wr wv (.slice ma ml mc) ss1 f ∧ ss1.length = ss.length ∧ (∀ q, jb + E.n < q → ss1[q]? = ss[q]?) ∧ Ans ss1 ja GA E.n ka1 (toldR ra first f.into (f.met.take k)) ∧ Ans ss1 jb GB E.n kb1 (toldR rb first f.out (f.met.take k)) ∧ TzAt wr)) (fun vk _ => ml - (intOf vk).toNat)
  case atStart => exact ⟨0, ss, ka, kb, rfl, by omega, HF.out, rfl, fun _ _ => rfl, HAN.out.1, HAN.out.2, HT.out.1⟩
  case round =>
    obtain ⟨k, ss1, ka1, kb1, rfl, hk, hr⟩ := hrel
    clear HF HAN b6
    by_cases hkn : k < ml
    · have hkn' : (k : Int) < ml := by omega
      have hkl : k < f.met.length := by rw [HML.out]; exact hkn
      have hs6 := hr.out.1.s6
      obtain ⟨g, o, rfl, cm⟩ : ∃ g o, ma = some ⟨g, o, none⟩ ∧ wr.cell? ⟨g, o + k, none⟩ = some (nmV (f.met.getD k 0)) := by
        have ho := hr.out.1.heap.own 6 _ hs6
        rcases own_shape ho with ⟨_, e0⟩ | ⟨g, c, e, _⟩
        · dsimp only at e0; omega
        · dsimp only at e
          injection e with e1 e2 e3
          subst e1
          refine ⟨g, 0, rfl, ?_⟩
          rw [← HML.out] at hs6
          rw [Nat.zero_add]
          refine hr.out.1.heap.cell hs6 ?_
          rw [List.getElem?_map, List.getElem?_eq_getElem hkl]
          simp [List.getElem?_eq_getElem hkl]
      have hmem : f.met.getD k 0 ∈ f.met := by rw [List.getD_eq_getElem?_getD, List.getElem?_eq_getElem hkl]; exact List.getElem_mem hkl
      have hmi := HM.out.1 _ hmem
      have htk : f.met.take (k + 1) = f.met.take k ++ [f.met.getD k 0] := by
        rw [List.take_succ_eq_append_getElem hkl]; simp [List.getElem?_eq_getElem hkl]
      have hni : f.met.getD k 0 ∉ f.met.take k := by
        intro hc
        have hnd := HM.out.2.1
        rw [← List.take_append_drop k f.met, List.nodup_append] at hnd
        refine hnd.2.2 _ hc (f.met.getD k 0) ?_ rfl
        have e : f.met.getD k 0 = f.met[k] := by simp [List.getElem?_eq_getElem hkl]
        rw [e, List.drop_eq_getElem_cons hkl]
        exact List.mem_cons_self
      have hla : ((toldR ra first f.into (f.met.take k)).getD (f.met.getD k 0) []).length ≤ 900000 ∧ ((toldR rb first f.out (f.met.take k)).getD (f.met.getD k 0) []).length ≤ 900000 := by
        have hnt : (f.met.take k).Nodup := List.Nodup.sublist (List.take_sublist k f.met) HM.out.2.1
        have l1 : ra.length = E.n := by have := hr.out.2.2.2.1.rl; rw [toldR_len] at this; exact this
        have l2 : rb.length = E.n := by have := hr.out.2.2.2.2.1.rl; rw [toldR_len] at this; exact this
        rw [toldR_get _ _ hnt (fun i hi => by rw [l1]; exact HM.out.1 i (List.mem_of_mem_take hi)), toldR_get _ _ hnt (fun i hi => by rw [l2]; exact HM.out.1 i (List.mem_of_mem_take hi)), if_neg hni, if_neg hni]
        exact HL.out _
      have hta : toldR ra first f.into (f.met.take (k + 1)) = (toldR ra first f.into (f.met.take k)).set (f.met.getD k 0) (toldL ((toldR ra first f.into (f.met.take k)).getD (f.met.getD k 0) []) first (wAt f.into (f.met.getD k 0))) := by rw [htk, toldR_snoc]
      have htb : toldR rb first f.out (f.met.take (k + 1)) = (toldR rb first f.out (f.met.take k)).set (f.met.getD k 0) (toldL ((toldR rb first f.out (f.met.take k)).getD (f.met.getD k 0) []) first (wAt f.out (f.met.getD k 0))) := by rw [htk, toldR_snoc]
      generalize toldR ra first f.into (f.met.take k) = Ra at *
      generalize toldR rb first f.out (f.met.take k) = Rb at *
      generalize f.met.getD k 0 = m1 at *
      obtain ⟨va, hva, hra⟩ := hr.out.2.2.2.1.get hmi
      have hsa := hr.out.2.2.2.1.row m1 _ va hra hva
      have hoa : OwnI wr E.w0.heap.size va (Ra.getD m1 []) := hr.out.1.heap.own _ _ hsa
      have ca : wr.cell? ⟨GA, m1, none⟩ = some va := hr.out.1.heap.cell hr.out.2.2.2.1.head hva
      obtain ⟨_, _, b2, b3, _, _, _, _, hFl⟩ := hr.out.1.box
      obtain ⟨_, d2, d3, _, _, _, _, _⟩ := hr.out.1.words hmi
      have HCA : Hid (∀ q, Calls Tryz.prog 43 #[va, .int .i64 (first : Int), .int .u64 (wAt f.into m1 : Nat)] (wr.drewN q) fun e w' => ∃ v', e = .returned v' ∧ OwnI w' E.w0.heap.size v' (toldL (Ra.getD m1 []) first (wAt f.into m1)) ∧ (wr.drewN q).grownBy w' va.ownBlock ∧ (∀ g, v'.ownBlock = some g → va.ownBlock = some g ∨ (wr.drewN q).heap.size ≤ g)) := fun q => told_any (w := wr.drewN q) (owns_same hoa fun _ _ => rfl) (by omega) hr.out.1.low.size HT.out.2 ⟨hr.out.2.2.2.2.2.1, fun j hj => hr.out.2.2.2.2.2.2 j hj⟩ first _ hf (HM.out.2.2.1.2 m1)
      have hmi' : (m1 : Int) < E.n := by omega
      have HUP : Hid (∀ q w3 v3, OwnI w3 E.w0.heap.size v3 (toldL (Ra.getD m1 []) first (wAt f.into m1)) → (wr.drewN q).grownBy w3 va.ownBlock → (∀ g, v3.ownBlock = some g → va.ownBlock = some g ∨ (wr.drewN q).heap.size ≤ g) → ∃ ta tc, v3 = .slice ta (toldL (Ra.getD m1 []) first (wAt f.into m1)).length tc ∧ w3.cell? ⟨GA, m1, none⟩ = some va ∧ w3.frozen? ⟨GA, m1, none⟩ = false) := fun q w3 v3 h1 h2 h3 => by
        obtain ⟨ta, tc, e⟩ := own_any h1
        obtain ⟨_, _, _, _, _, k1, k2⟩ := (hr.out.1.drewN q).toldAt HJ.out.1 hr.out.2.2.2.1 hra hva h1 h2 h3
        exact ⟨ta, tc, e, k1, k2⟩
      unfold rowN at b2 b3
      rw [HFF.out] at b2 b3 hFl
      go_wp2
      generalize hLa : (toldL (Ra.getD m1 []) first (wAt f.into m1)) = La at *
      clear hLa
      have HHR : Hid _ := hr.out
      have HPA : Hid _ := And.intro hra hva
      have HTA : Hid _ := And.intro hta htb
      have HLL : Hid _ := hla
      have HMI : Hid (m1 < E.n) := hmi
      clear hr hra hva hta htb hla hsa hoa hs6 hmem htk hni hkl
      go_region_with (go_at_call 43; refine Calls.mono (HCA.out _) ?_; rintro e w3 ⟨v3, rfl, ho3, hg3, hat3⟩; obtain ⟨ta, tc, rfl, cw, fw⟩ := HUP.out _ _ _ ho3 hg3 hat3; have HO3 : Hid _ := ho3; have HG3 : Hid _ := hg3; have HAT3 : Hid _ := hat3; clear ho3 hg3 hat3)
      all_goals (
        obtain ⟨ss2, hF2, hA2, hk2, hl2, _, _⟩ := (HHR.out.1.drewN _).toldAt HJ.out.1 HHR.out.2.2.2.1 HPA.out.1 HPA.out.2 HO3.out HG3.out HAT3.out
        have hT2 : TzAt (w3.setCell ⟨GA, m1, none⟩ (.slice ta La.length tc)) := by
          have hg := HG3.out
          have hz : va.ownBlock ≠ some 0 := fun e => by
            have := ((HHR.out.1.heap.own _ _ (HHR.out.2.2.2.1.row m1 _ va HPA.out.1 HPA.out.2)).lt 0 e).1
            have := HT.out.2
            omega
          have hGA := (HHR.out.1.heap.lt HHR.out.2.2.2.1.head).1
          have h0 := HT.out.2
          have h1 : TzAt w3 := TzAt.grown (w := wr) ⟨HHR.out.2.2.2.2.2.1, HHR.out.2.2.2.2.2.2⟩ ⟨hg.os, hg.tape, hg.output, hg.size, hg.block⟩ hz
          exact ⟨by simpa [World.setCell] using h1.1, fun j hj => (World.cell?_setCell_other _ _ _ _ (by intro hh; simp at hh <;> omega)).trans (h1.2 j hj)⟩
        have hB2 : Ans ss2 jb GB E.n kb1 Rb := HHR.out.2.2.2.2.1.of fun i hi _ => hk2 i (by have := HJ.out; have := HMI.out; omega) (by have := HJ.out; have := HMI.out; omega)
        have HKB : Hid (∀ q, jb + E.n < q → ss2[q]? = ss[q]?) := fun q hq => (hk2 q (by have := HJ.out; omega) (by have := HJ.out; have := HMI.out; omega)).trans (HHR.out.2.2.1 q hq)
        have HL2 : Hid (ss2.length = ss.length) := hl2.trans HHR.out.2.1
        generalize w3.setCell ⟨GA, m1, none⟩ (.slice ta La.length tc) = w4 at *
        obtain ⟨vb, hvb, hrb⟩ := hB2.get HMI.out
        have hsb := hB2.row m1 _ vb hrb hvb
        have hob : OwnI w4 E.w0.heap.size vb (Rb.getD m1 []) := hF2.heap.own _ _ hsb
        have cb : w4.cell? ⟨GB, m1, none⟩ = some vb := hF2.heap.cell hB2.head hvb
        obtain ⟨_, _, _, b3, _, _, _, _, hFl⟩ := hF2.box
        obtain ⟨_, _, d3, _, _, _, _, _⟩ := hF2.words HMI.out
        have HCB : Hid (∀ q, Calls Tryz.prog 43 #[vb, .int .i64 (first : Int), .int .u64 (wAt f.out m1 : Nat)] (w4.drewN q) fun e w' => ∃ v', e = .returned v' ∧ OwnI w' E.w0.heap.size v' (toldL (Rb.getD m1 []) first (wAt f.out m1)) ∧ (w4.drewN q).grownBy w' vb.ownBlock ∧ (∀ g, v'.ownBlock = some g → vb.ownBlock = some g ∨ (w4.drewN q).heap.size ≤ g)) := fun q => told_any (w := w4.drewN q) (owns_same hob fun _ _ => rfl) (by have := HLL.out.2; omega) hF2.low.size HT.out.2 ⟨hT2.1, fun j hj => hT2.2 j hj⟩ first _ hf (HM.out.2.2.2.2 m1)
        have HUB : Hid (∀ q w3 v3, OwnI w3 E.w0.heap.size v3 (toldL (Rb.getD m1 []) first (wAt f.out m1)) → (w4.drewN q).grownBy w3 vb.ownBlock → (∀ g, v3.ownBlock = some g → vb.ownBlock = some g ∨ (w4.drewN q).heap.size ≤ g) → ∃ ta tc, v3 = .slice ta (toldL (Rb.getD m1 []) first (wAt f.out m1)).length tc ∧ w3.cell? ⟨GB, m1, none⟩ = some vb ∧ w3.frozen? ⟨GB, m1, none⟩ = false) := fun q w3 v3 h1 h2 h3 => by
          obtain ⟨ta, tc, e⟩ := own_any h1
          obtain ⟨_, _, _, _, _, k1, k2⟩ := (hF2.drewN q).toldAt (by have := HJ.out; omega) hB2 hrb hvb h1 h2 h3
          exact ⟨ta, tc, e, k1, k2⟩
        generalize hLb : (toldL (Rb.getD m1 []) first (wAt f.out m1)) = Lb at *
        unfold rowN at b3
        rw [HFF.out] at b3 hFl
        have HF2 : Hid _ := hF2
        have HA2 : Hid _ := hA2
        have HB2 : Hid _ := And.intro hB2 (And.intro hrb hvb)
        have HT2 : Hid _ := hT2
        clear hLb hF2 hA2 hk2 hl2 hB2 hrb hvb hsb hob hT2 HCA HUP HO3 HG3 HAT3 ca b2 d2 cw fw cm
        go_wp2
        go_region_with (go_at_call 43; refine Calls.mono (HCB.out _) ?_; rintro e w5 ⟨v5, rfl, ho5, hg5, hat5⟩; obtain ⟨tb1, tc1, rfl, cw5, fw5⟩ := HUB.out _ _ _ ho5 hg5 hat5; have HO5 : Hid _ := ho5; have HG5 : Hid _ := hg5; have HAT5 : Hid _ := hat5; clear ho5 hg5 hat5)
        all_goals (
          obtain ⟨ss3, hF3, hA3, hk3, hl3, _, _⟩ := (HF2.out.drewN _).toldAt (by have := HJ.out; omega) HB2.out.1 HB2.out.2.1 HB2.out.2.2 HO5.out HG5.out HAT5.out
          have hT3 : TzAt (w5.setCell ⟨GB, m1, none⟩ (.slice tb1 Lb.length tc1)) := by
            have hg := HG5.out
            have hz : vb.ownBlock ≠ some 0 := fun e => by
              have := ((HF2.out.heap.own _ _ (HB2.out.1.row m1 _ vb HB2.out.2.1 HB2.out.2.2)).lt 0 e).1
              have := HT.out.2
              omega
            have hGB := (HF2.out.heap.lt HB2.out.1.head).1
            have h0 := HT.out.2
            have h1 : TzAt w5 := TzAt.grown (w := w4) HT2.out ⟨hg.os, hg.tape, hg.output, hg.size, hg.block⟩ hz
            exact ⟨by simpa [World.setCell] using h1.1, fun j hj => (World.cell?_setCell_other _ _ _ _ (by intro hh; simp at hh <;> omega)).trans (h1.2 j hj)⟩
          have hA3' := HA2.out.of (ss' := ss3) fun i _ hi => hk3 i (by have := HJ.out; have := HMI.out; omega) (by have := HJ.out; have := HMI.out; omega)
          have HQ : Hid (Fw E (w5.setCell ⟨GB, m1, none⟩ (.slice tb1 Lb.length tc1)) wv _ ss3 f ∧ ss3.length = ss.length ∧ (∀ q, jb + E.n < q → ss3[q]? = ss[q]?) ∧ Ans ss3 ja GA E.n _ (toldR ra first f.into (f.met.take (k + 1))) ∧ Ans ss3 jb GB E.n _ (toldR rb first f.out (f.met.take (k + 1))) ∧ TzAt (w5.setCell ⟨GB, m1, none⟩ (.slice tb1 Lb.length tc1))) := ⟨hF3, hl3.trans HL2.out, fun q hq => (hk3 q (by have := HJ.out; omega) (by have := HJ.out; have := HMI.out; omega)).trans (HKB.out q hq), by rw [HTA.out.1]; exact hA3', by rw [HTA.out.2]; exact hA3, hT3⟩
          clear hF3 hA3 hk3 hl3 hT3 hA3' HO5 HG5 HAT5 HCB HUB
          go_wp2
          go_roundw
          case rel => exact ⟨k + 1, ss3, _, _, by first | rfl | (congr 1; omega), by omega, HQ.out.1, HQ.out.2.1, HQ.out.2.2.1, HQ.out.2.2.2.1, HQ.out.2.2.2.2.1, HQ.out.2.2.2.2.2⟩
          case measure => simp [intOf]; omega))
    · obtain rfl : k = ml := by omega
      go_wp2
      go_end0
      refine ⟨rfl, ss1, ka1, kb1, hr.out.1, hr.out.2.1, hr.out.2.2.1, ?_, ?_⟩
      · have := hr.out.2.2.2.1; rw [← HML.out, List.take_length] at this; exact this
      · have := hr.out.2.2.2.2.1; rw [← HML.out, List.take_length] at this; exact this
end Go.Proofs.YtcggbedjhglmmaaGreatDoor
