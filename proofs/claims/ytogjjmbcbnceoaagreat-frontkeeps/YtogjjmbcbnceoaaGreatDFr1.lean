/- The document's fronts: what lies in memory. -/
import Derived.Test.YtogjjmbcbnceoaaGreatDOv2M
import Derived.Test.YtogjjmbcbnceoaaGreatDFrontM
namespace Go.Proofs.YtogjjmbcbnceoaaGreat
open Go.RowKit

def amongB (l : List Int) (x : Int) : Bool := decide (x ∈ l)
theorem among_drop {l : List Int} {i : Nat} {x : Int} (h : i < l.length) : amongB (l.drop i) x = (decide (l.getD i 0 = x) || amongB (l.drop (i + 1)) x) := by
  have e : l.getD i 0 = l[i] := by simp [List.getD, List.getElem?_eq_getElem h]
  rw [e, List.drop_eq_getElem_cons h]
  unfold amongB
  rw [← Bool.decide_or]
  exact decide_eq_decide.2 (by rw [List.mem_cons]; exact or_congr_left eq_comm)
set_option maxRecDepth 100000 in
set_option maxHeartbeats 1000000 in
theorem has_any (l : List Int) (x : Int) (v : Value) (w : World) (h : IntsAt w v l) : Calls Tryz.prog 46 #[v, .int .i64 x] w fun e w' => e = .returned (.bool (amongB l x)) ∧ w' = w := by
  obtain ⟨a, c, rfl, hll⟩ := h.form
  have HI : Hid (∀ i, i < l.length → _) := fun i hi => h.get (i := i) hi
  have HD : Hid (∀ i, i < l.length → _) := fun i hi => among_drop (l := l) (x := x) hi
  have HZ : Hid (amongB (l.drop l.length) x = false) := by show _ = _; rw [List.drop_length]; rfl
  obtain ⟨R, hR⟩ : ∃ R, R = amongB l x := ⟨_, rfl⟩
  rw [← hR]
  have HR : Hid (amongB (l.drop 0) x = R) := hR.symm
  obtain ⟨n, hn⟩ : ∃ n, n = l.length := ⟨_, rfl⟩
  rw [← hn] at HI HD HZ hll ⊢
  clear h hR hn
  go_enter Tryz.func46, Tryz.ntmps46
  go_wp2
  go_loopw [5] (fun vi wr => ∃ i : Nat, vi = .int .i64 i ∧ i ≤ n ∧ Hid (amongB (l.drop i) x = R ∧ wr = w)) (fun vi _ => n - (intOf vi).toNat)
  case atStart => exact ⟨0, rfl, by omega, HR.out, rfl⟩
  case round =>
    obtain ⟨i, rfl, hi, hr⟩ := hrel
    have hw := hr.out.2
    subst hw
    clear HR
    by_cases hin : i < n
    · obtain ⟨g, o, rfl, hg, c0⟩ := HI.out i hin
      have hin' : (i : Int) < n := by omega
      have HDD : Hid _ := HD.out i hin
      rw [hr.out.1] at HDD
      clear HI HD HZ
      generalize l.getD i 0 = y at *
      by_cases hy : y = x
      · subst hy
        have HX : Hid (R = true) := by show R = true; have h9 := HDD.out; simpa using h9
        clear HDD
        go_wp2
        go_ret
        exact ⟨ret_bool HX.out.symm, rfl⟩
      · have hyf : (y == x) = false := beq_false_of_ne hy
        have HX : Hid (R = amongB (l.drop (i + 1)) x) := by show R = amongB (l.drop (i + 1)) x; have h9 := HDD.out; simpa [hy] using h9
        clear HDD
        go_wp2
        go_roundw
        case rel => exact ⟨i + 1, by first | rfl | (congr 1; omega), by omega, HX.out.symm, by first | rfl | trivial⟩
        case measure => simp [intOf]; omega
    · obtain rfl : i = n := by omega
      have HX : Hid (false = R) := by have h9 := hr.out.1; rw [HZ.out] at h9; exact h9
      clear HI HD HZ
      go_wp2
      go_ret
      exact ⟨ret_bool HX.out, rfl⟩
theorem OvS.read {w wr : World} {nx : List (List Int)} {n Bo : Nat} {kvs : List Value} (hn : n = nx.length) (h : OvS w n Bo wr kvs (ovRows nx) n) {a b : Nat} (ha : a < n) (hb : b < n) : ∃ g, (g < wr.heap.size ∧ Bo < wr.heap.size) ∧ wr.cell? ⟨Bo, a, none⟩ = some (.slice (some ⟨g, 0, none⟩) n n) ∧ wr.cell? ⟨g, b, none⟩ = some (.bool (dec (Ov nx a b))) := by
  obtain ⟨g, h1, h2, _⟩ := h.kid a ha
  refine ⟨g, ⟨h2.lt'.2, h.ltB.2⟩, h.cellB h1, ?_⟩
  rw [h2.at' hb false, ovRows_get (by omega), ovRow_get (by omega)]
/-- Rows of one's own in a row that grows. -/
def NetG (w : World) (base : Nat) (v : Value) (rows : List (List Int)) : Prop :=
  ∃ kvs : List Value, kvs.length = rows.length ∧ w.ownsRow base 23 1 v rows.length kvs ∧ ∀ (i : Nat) (r : List Int) (kv : Value), rows[i]? = some r → kvs[i]? = some kv → OwnI w base kv r ∧ ∀ g, kv.ownBlock = some g → v.ownBlock ≠ some g
theorem NetG.nil (w : World) (base : Nat) : NetG w base (.slice none 0 0) [] := ⟨[], rfl, World.ownsRow_nil _ _ _ _, fun i r kv h => by simp at h⟩
theorem NetG.below {w w' : World} {base : Nat} {v : Value} {rows : List (List Int)} (h : NetG w base v rows) (hb : Below w.heap.size w w') : NetG w' base v rows := by
  obtain ⟨kvs, h1, h2, h3⟩ := h
  exact ⟨kvs, h1, owns_below h2 hb, fun i r kv e1 e2 => ⟨owns_below (h3 i r kv e1 e2).1 hb, (h3 i r kv e1 e2).2⟩⟩
theorem NetG.mono {w : World} {base base' : Nat} {v : Value} {rows : List (List Int)} (h : NetG w base v rows) (hb : base' ≤ base) : NetG w base' v rows := by
  obtain ⟨kvs, h1, h2, h3⟩ := h
  exact ⟨kvs, h1, own_mono h2 hb, fun i r kv e1 e2 => ⟨own_mono (h3 i r kv e1 e2).1 hb, (h3 i r kv e1 e2).2⟩⟩
theorem NetG.own {w : World} {base : Nat} {v : Value} {rows : List (List Int)} (h : NetG w base v rows) : ∃ kvs : List Value, w.ownsRow base 23 1 v rows.length kvs := by
  obtain ⟨kvs, _, h2, _⟩ := h
  exact ⟨kvs, h2⟩
/-- One more row. -/
theorem NetG.push {w w2 : World} {base : Nat} {v v2 lv : Value} {rows : List (List Int)} {l : List Int} {kvs : List Value} (hl : kvs.length = rows.length)
    (hk : ∀ (i : Nat) (r : List Int) (kv : Value), rows[i]? = some r → kvs[i]? = some kv → OwnI w base kv r ∧ ∀ g, kv.ownBlock = some g → v.ownBlock ≠ some g) (hL : OwnI w base lv l) (hLv : ∀ g, lv.ownBlock = some g → v.ownBlock ≠ some g)
    (ho : w2.ownsRow base 23 1 v2 (rows.length + 1) (kvs ++ [lv])) (hg : w.grownBy w2 v.ownBlock) (hat : v2.ownBlock = v.ownBlock ∨ v2.ownBlock = some w.heap.size) : NetG w2 base v2 (rows ++ [l]) := by
  have fr : ∀ (kv : Value) (r : List Int), OwnI w base kv r → (∀ g, kv.ownBlock = some g → v.ownBlock ≠ some g) → OwnI w2 base kv r ∧ ∀ g, kv.ownBlock = some g → v2.ownBlock ≠ some g := fun kv r h1 h2 => by
    refine ⟨owns_same h1 fun g hgk => hg.block g (h1.lt g hgk).2 (fun e => h2 g hgk e.symm), fun g hgk e => ?_⟩
    rcases hat with h3 | h3
    · exact h2 g hgk (by rw [← h3]; exact e)
    · rw [h3] at e
      have := (h1.lt g hgk).2
      cases e
      omega
  refine ⟨kvs ++ [lv], by simp [hl], by simpa using ho, fun i r kv e1 e2 => ?_⟩
  rcases Nat.lt_or_ge i rows.length with h1 | h1
  · rw [List.getElem?_append_left h1] at e1
    rw [List.getElem?_append_left (by omega)] at e2
    obtain ⟨h2, h3⟩ := hk i r kv e1 e2
    exact fr kv r h2 h3
  · rw [List.getElem?_append_right h1] at e1
    rw [List.getElem?_append_right (by omega)] at e2
    have hi : i = rows.length := by
      have := (List.getElem?_eq_some_iff.1 e1).1
      simp at this
      omega
    subst hi
    simp at e1
    rw [hl] at e2
    simp at e2
    subst e1; subst e2
    exact fr _ _ hL hLv
theorem NetG.at' {w : World} {base : Nat} {v : Value} {rows : List (List Int)} (h : NetG w base v rows) (hn : rows.length ≤ 140737488355328) (hl : ∀ r ∈ rows, r.length ≤ 140737488355328) : NetAt w v rows := by
  obtain ⟨kvs, h1, h2, h3⟩ := h
  refine ⟨kvs, h1, ?_, fun i r kv e1 e2 => (h3 i r kv e1 e2).1.at' (hl r (List.mem_of_getElem? e1))⟩
  rcases h2.2 with ⟨rfl, h0⟩ | ⟨g, cap, cur, rfl, _, hg, hc, _⟩
  · exact ⟨none, 0, by rw [h0], ⟨by omega, hn⟩, .inl h0⟩
  · refine ⟨_, _, rfl, ⟨hc, hn⟩, .inr ⟨g, 0, rfl, (Array.getElem?_eq_some_iff.1 hg).1, fun j u hj => ?_⟩⟩
    have := h2.cells (g := g) rfl j u hj
    rwa [Addr.add_lit] at this
theorem fronts_take {nx : List (List Int)} {a : Nat} (ha : a < nx.length) : (frontsL nx).take (a + 1) = (frontsL nx).take a ++ [frontL nx a] := by
  have hl : a < (frontsL nx).length := by rw [frontsL_len]; exact ha
  rw [List.take_add_one, List.getElem?_eq_getElem hl]
  congr 1
  have := frontsL_get ha
  rw [getD_of hl] at this
  simp [this]
/-- Some node up to c is below a and leads to b. -/
def MetTo (nx : List (List Int)) (a b c : Nat) : Prop := ∃ q, q < c ∧ Ov nx a q ∧ (b : Int) ∈ nx.getD q []
theorem met_zero (nx : List (List Int)) (a b : Nat) : dec (MetTo nx a b 0) = false := dec_false fun ⟨q, h, _⟩ => by omega
theorem met_old {nx : List (List Int)} {a b c : Nat} (h : dec (MetTo nx a b c) = true) : dec (MetTo nx a b (c + 1)) = true := by
  obtain ⟨q, h1, h2⟩ := dec_iff.1 h
  exact dec_true ⟨q, by omega, h2⟩
theorem met_new {nx : List (List Int)} {a b c : Nat} (h : dec (MetTo nx a b c) = false) : dec (MetTo nx a b (c + 1)) = (dec (Ov nx a c) && amongB (nx.getD c []) (b : Int)) := by
  by_cases ho : Ov nx a c
  · by_cases hm : (b : Int) ∈ nx.getD c []
    · rw [dec_true ⟨c, by omega, ho, hm⟩, dec_true ho, show amongB (nx.getD c []) (b : Int) = true from decide_eq_true hm]; rfl
    · rw [dec_true ho, show amongB (nx.getD c []) (b : Int) = false from decide_eq_false hm]
      refine dec_false fun ⟨q, h1, h2, h3⟩ => ?_
      rcases Nat.lt_or_ge q c with h4 | h4
      · rw [dec_true ⟨q, h4, h2, h3⟩] at h; cases h
      · have : q = c := by omega
        subst this; exact hm h3
  · rw [dec_false ho]
    refine dec_false fun ⟨q, h1, h2, h3⟩ => ?_
    rcases Nat.lt_or_ge q c with h4 | h4
    · rw [dec_true ⟨q, h4, h2, h3⟩] at h; cases h
    · have : q = c := by omega
      subst this; exact ho h2
theorem met_all {nx : List (List Int)} (hM : May nx) {a b : Nat} : Fr nx a b ↔ MetTo nx a b nx.length ∧ ¬ (a ≠ b ∧ Ov nx a b) := by
  unfold Fr MetTo
  exact ⟨fun ⟨⟨c, h1, h2⟩, h3⟩ => ⟨⟨c, h1.2.1.lt hM, h1, h2⟩, h3⟩, fun ⟨⟨c, _, h1, h2⟩, h3⟩ => ⟨⟨c, h1, h2⟩, h3⟩⟩
end Go.Proofs.YtogjjmbcbnceoaaGreat
