/- What stands ahead of a block: rising, just those with an edge to it, as many in all as there are edges. Plain. -/
import Derived.Test.YtabpnjakfoofpaaGreatDoorGMemM
import Derived.Test.YtabpnjakfoofpaaGreatDoorGDfsM
namespace Go.Proofs.YtabpnjakfoofpaaGreatDoor

theorem putA_get {i : Int} {rows : List (List Int)} {to : Int} {j : Nat} (hj : j < rows.length) : (putA i rows to).getD j [] = rows.getD j [] ++ (if (j : Int) = to then [i] else []) := by
  unfold putA
  by_cases hb : inB to rows.length = true
  · rw [if_pos hb]
    rw [inB_iff] at hb
    simp only [List.getD, List.getElem?_modify, List.getElem?_eq_getElem hj]
    by_cases e : (j : Int) = to
    · have : to.toNat = j := by omega
      simp [e, this]
    · have : to.toNat ≠ j := by omega
      simp [e, this]
  · rw [if_neg hb]
    have e : ¬ (j : Int) = to := by
      rw [inB_iff] at hb
      omega
    simp [e]
theorem putsA_get {i : Int} {j : Nat} : ∀ {l : List Int} {rows : List (List Int)}, l.Nodup → j < rows.length → (putsA i rows l).getD j [] = rows.getD j [] ++ (if (j : Int) ∈ l then [i] else [])
  | [], rows, _, _ => by simp [putsA]
  | a :: l, rows, hn, hj => by
    unfold putsA
    rw [List.foldl_cons]
    have := putsA_get (i := i) (l := l) (rows := putA i rows a) (List.nodup_cons.1 hn).2 (by rw [putA_len]; exact hj)
    unfold putsA at this
    rw [this, putA_get hj]
    have hna := (List.nodup_cons.1 hn).1
    by_cases e : (j : Int) = a
    · subst e
      simp [hna]
    · simp [e]
def rowF (j : Nat) : List Tm → Nat → List Int
  | [], _ => []
  | t :: ts, i => (if (j : Int) ∈ nextT t then [(i : Int)] else []) ++ rowF j ts (i + 1)
theorem aheadF_get {j : Nat} : ∀ {ts : List Tm} {i : Nat} {rows : List (List Int)}, j < rows.length → (aheadF ts i rows).getD j [] = rows.getD j [] ++ rowF j ts i
  | [], _, _, _ => by simp [aheadF, rowF]
  | t :: ts, i, rows, hj => by
    unfold aheadF rowF
    rw [aheadF_get (by rw [putsA_len]; exact hj), putsA_get (next_nodup t) hj, List.append_assoc]
theorem aheadT_get {ts : List Tm} {j : Nat} (hj : j < ts.length) : (aheadT ts).getD j [] = rowF j ts 0 := by
  unfold aheadT
  rw [aheadF_get (by simpa using hj)]
  simp [List.getD, hj]
theorem rowF_mem {j : Nat} : ∀ {ts : List Tm} {i : Nat} {x : Int}, x ∈ rowF j ts i ↔ ∃ k : Nat, x = ((i + k : Nat) : Int) ∧ k < ts.length ∧ (j : Int) ∈ nextT (ts.getD k default)
  | [], _, _ => by simp [rowF]
  | t :: ts, i, x => by
    unfold rowF
    rw [List.mem_append, rowF_mem]
    constructor
    · rintro (h | ⟨k, rfl, hk, hm⟩)
      · split at h
        · simp only [List.mem_singleton] at h
          exact ⟨0, by simpa using h, by simp, by simpa using by assumption⟩
        · simp at h
      · exact ⟨k + 1, by omega, by simpa using hk, by simpa using hm⟩
    · rintro ⟨k, rfl, hk, hm⟩
      match k, hk, hm with
      | 0, _, hm =>
        left
        have : (j : Int) ∈ nextT t := by simpa using hm
        rw [if_pos this]; simp
      | k + 1, hk, hm => exact .inr ⟨k, by omega, by simpa using hk, by simpa using hm⟩
theorem rowF_lt {j : Nat} : ∀ {ts : List Tm} {i : Nat}, (rowF j ts i).Pairwise (· < ·)
  | [], _ => by simp [rowF]
  | t :: ts, i => by
    unfold rowF
    split
    · rw [List.cons_append, List.nil_append, List.pairwise_cons]
      refine ⟨fun x hx => ?_, rowF_lt⟩
      obtain ⟨k, rfl, _⟩ := rowF_mem.1 hx
      omega
    · simpa using rowF_lt
theorem mem_ahead {ts : List Tm} {j : Nat} (hj : j < ts.length) {x : Int} : x ∈ (aheadT ts).getD j [] ↔ ∃ k : Nat, x = (k : Int) ∧ k < ts.length ∧ (j : Int) ∈ nextT (ts.getD k default) := by
  rw [aheadT_get hj, rowF_mem]
  simp
theorem ahead_lt {ts : List Tm} {j : Nat} (hj : j < ts.length) : ((aheadT ts).getD j []).Pairwise (· < ·) := by rw [aheadT_get hj]; exact rowF_lt
/-- All edges. -/
def lensA (rows : List (List Int)) : Nat := (rows.map List.length).sum
def edgesT (n : Nat) (l : List Int) : Nat := l.countP (inB · n)
theorem lens_modify : ∀ (rows : List (List Int)) (k : Nat) (i : Int), k < rows.length → lensA (rows.modify k (· ++ [i])) = lensA rows + 1
  | [], k, _, h => by simp at h
  | r :: rows, 0, i, _ => by simp [lensA, List.modify]; omega
  | r :: rows, k + 1, i, h => by
    have := lens_modify rows k i (by simpa using h)
    simp [lensA, List.modify] at this ⊢
    omega
theorem lens_putA (i : Int) (rows : List (List Int)) (to : Int) : lensA (putA i rows to) = lensA rows + (if inB to rows.length then 1 else 0) := by
  unfold putA
  split
  · rename_i h
    rw [lens_modify _ _ _ (by rw [inB_iff] at h; omega)]
  · rfl
theorem lens_putsA (i : Int) : ∀ (l : List Int) (rows : List (List Int)), lensA (putsA i rows l) = lensA rows + edgesT rows.length l
  | [], rows => by simp [putsA, edgesT]
  | a :: l, rows => by
    have := lens_putsA i l (putA i rows a)
    unfold putsA at this ⊢
    rw [List.foldl_cons, this, lens_putA, putA_len]
    unfold edgesT
    rw [List.countP_cons]
    omega
def edgesF (n : Nat) (ts : List Tm) : Nat := (ts.map fun t => edgesT n (nextT t)).sum
theorem lens_aheadF : ∀ (ts : List Tm) (i : Nat) (rows : List (List Int)), lensA (aheadF ts i rows) = lensA rows + edgesF rows.length ts
  | [], _, rows => by simp [aheadF, edgesF]
  | t :: ts, i, rows => by
    unfold aheadF
    rw [lens_aheadF ts, lens_putsA, putsA_len]
    simp [edgesF]
    omega
theorem lens_rep : ∀ n, lensA (List.replicate n []) = 0
  | 0 => rfl
  | n + 1 => by
    have := lens_rep n
    simp [lensA, List.replicate_succ] at this ⊢
theorem lens_ahead (ts : List Tm) : lensA (aheadT ts) = edgesF ts.length ts := by
  unfold aheadT
  rw [lens_aheadF, lens_rep]
  simp
theorem next_len (t : Tm) : (nextT t).length ≤ 2 := by
  unfold nextT
  repeat' split
  all_goals simp
theorem edgesT_le (n : Nat) (t : Tm) : edgesT n (nextT t) ≤ 2 := Nat.le_trans List.countP_le_length (next_len t)
theorem edgesF_le (n : Nat) : ∀ ts : List Tm, edgesF n ts ≤ 2 * ts.length
  | [] => by simp [edgesF]
  | t :: ts => by
    have := edgesF_le n ts
    have := edgesT_le n t
    simp [edgesF] at *
    omega
end Go.Proofs.YtabpnjakfoofpaaGreatDoor
/- A graph with the blocks that are reached alone: plain. -/
namespace Go.Proofs.YtabpnjakfoofpaaGreatDoor

/-- where a number stands in a row; -1: nowhere -/
def placeOf (l : List Int) (x : Int) : Int := if x ∈ l then (l.idxOf x : Int) else -1
theorem place_in {l : List Int} {x : Int} (h : x ∈ l) : placeOf l x = (l.idxOf x : Int) ∧ l.idxOf x < l.length ∧ l[l.idxOf x]? = some x := by
  have h1 : l.idxOf x < l.length := List.idxOf_lt_length_of_mem h
  refine ⟨by unfold placeOf; rw [if_pos h], h1, ?_⟩
  rw [List.getElem?_eq_getElem h1, List.getElem_idxOf h1]
theorem place_out {l : List Int} {x : Int} (h : x ∉ l) : placeOf l x = -1 := by unfold placeOf; rw [if_neg h]
theorem place_ge {l : List Int} {x : Int} : 0 ≤ placeOf l x ↔ x ∈ l := by
  by_cases h : x ∈ l
  · rw [(place_in h).1]; exact ⟨fun _ => h, fun _ => by omega⟩
  · rw [place_out h]; exact ⟨fun h => by omega, fun h9 => absurd h9 h⟩
theorem place_ne {l : List Int} {x : Int} : placeOf l x ≠ -1 ↔ x ∈ l := by
  rw [← place_ge]
  by_cases h : x ∈ l
  · rw [(place_in h).1]; omega
  · rw [place_out h]; omega
theorem place_at {l : List Int} (hn : l.Nodup) {i : Nat} {x : Int} (h : l[i]? = some x) : placeOf l x = (i : Int) := by
  obtain ⟨hi, he⟩ := List.getElem?_eq_some_iff.1 h
  have hm : x ∈ l := by rw [← he]; exact List.getElem_mem hi
  obtain ⟨h1, h2, h3⟩ := place_in hm
  rw [h1]
  have : l.idxOf x = i := by
    rcases Nat.lt_trichotomy (l.idxOf x) i with hlt | heq | hgt
    · obtain ⟨q1, q2⟩ := List.getElem?_eq_some_iff.1 h3
      exact absurd (q2.trans he.symm) (List.pairwise_iff_getElem.1 hn _ _ q1 hi hlt)
    · exact heq
    · obtain ⟨q1, q2⟩ := List.getElem?_eq_some_iff.1 h3
      exact absurd (he.trans q2.symm) (List.pairwise_iff_getElem.1 hn _ _ hi q1 hgt)
  omega
theorem place_inj {l : List Int} {x y : Int} (hx : x ∈ l) (hy : y ∈ l) (h : placeOf l x = placeOf l y) : x = y := by
  obtain ⟨h1, _, h3⟩ := place_in hx
  obtain ⟨h4, _, h6⟩ := place_in hy
  have e : l.idxOf x = l.idxOf y := by omega
  rw [e, h6] at h3
  exact (Option.some.inj h3).symm

/-- which of the blocks ahead stay, by their places among them, in the new order -/
def stayP (O ah : List Int) : List Int := (O.filter (· ∈ ah)).map (placeOf ah)
def keptP (args st : List Int) : List Int := st.filterMap fun i => args[i.toNat]?
def ledT (O : List Int) (n : Nat) (t : Tm) : Tm :=
  { t with t0 := if (t.kind = 1 ∨ t.kind = 2) ∧ inB t.t0 n = true then placeOf O t.t0 else t.t0, t1 := if t.kind = 2 ∧ inB t.t1 n = true then placeOf O t.t1 else t.t1 }
def trimI (st : List Int) (x : In) : In := if x.kind = 1 then { x with args := keptP x.args st } else x
def trimB (O : List Int) (n : Nat) (ah : List Int) (b : Bl) : Bl := ⟨b.ins.map (trimI (stayP O ah)), ledT O n b.tm⟩
def trimBs (bs : List Bl) : List Bl := (orderT (tms bs)).map fun a => trimB (orderT (tms bs)) bs.length ((aheadT (tms bs)).getD a.toNat []) (bs.getD a.toNat default)
def trimG (G : Gr) : Gr := { G with blocks := trimBs G.blocks }

/- The document's way. -/
def ledD (O : List Int) (t : Tm) : Tm :=
  { t with t0 := if 0 ≤ placeOf O t.t0 ∧ (t.kind = 2 ∨ t.kind = 1) then placeOf O t.t0 else t.t0, t1 := if 0 ≤ placeOf O t.t1 ∧ t.kind = 2 then placeOf O t.t1 else t.t1 }
def argsD (O was now had : List Int) : List Int := now.filterMap fun j => if 0 ≤ placeOf was (O.getD j.toNat 0) then had[(placeOf was (O.getD j.toNat 0)).toNat]? else none
def ledB (O : List Int) (b : Bl) : Bl := ⟨b.ins, ledD O b.tm⟩
def trimD (bs : List Bl) : List Bl :=
  let O := orderT (tms bs)
  let b1 := O.map fun a => ledB O (bs.getD a.toNat default)
  let now := aheadT (tms b1)
  (List.range O.length).map fun i => (⟨(b1.getD i default).ins.map fun x => if x.kind = 1 then { x with args := argsD O ((aheadT (tms bs)).getD (O.getD i 0).toNat []) (now.getD i []) x.args } else x, (b1.getD i default).tm⟩ : Bl)

theorem tms_get {bs : List Bl} {k : Nat} (h : k < bs.length) : (tms bs).getD k default = (bs.getD k default).tm := by
  unfold tms; rw [List.getD_eq_getElem?_getD, List.getElem?_map, List.getElem?_eq_getElem h, List.getD_eq_getElem?_getD, List.getElem?_eq_getElem h]; rfl
theorem named_closed {ts : List Tm} {O : List Int} (h : Ordered ts O) {a : Nat} (ha : (a : Int) ∈ O) {y : Int} (hy : y ∈ namedT (ts.getD a default)) : inB y ts.length = true ↔ y ∈ O := by
  constructor
  · exact h.closed a ha y hy
  · intro h1
    obtain ⟨k, rfl, hk⟩ := h.nat y h1
    exact inB_iff.2 ⟨by omega, by omega⟩
theorem led_same {ts : List Tm} {O : List Int} (h : Ordered ts O) {a : Nat} (ha : (a : Int) ∈ O) : ledD O (ts.getD a default) = ledT O ts.length (ts.getD a default) := by
  have h1 := fun y hy => named_closed h ha (y := y) hy
  unfold ledD ledT namedT at *
  generalize ts.getD a default = t at *
  obtain ⟨k, ar, t0, t1, tr⟩ := t
  dsimp only at *
  by_cases k1 : k = 1
  · subst k1
    have := h1 t0 (by simp)
    simp [place_ge, this]
  · by_cases k2 : k = 2
    · subst k2
      have e0 := h1 t0 (by simp)
      have e1 := h1 t1 (by simp)
      simp [place_ge, e0, e1]
    · simp [k1, k2]
/-- what a new end names -/
theorem named_led {O : List Int} {n : Nat} {t : Tm} : namedT (ledT O n t) = (namedT t).map fun y => if inB y n = true then placeOf O y else y := by
  unfold namedT ledT
  dsimp only
  by_cases k1 : t.kind = 1
  · simp [k1]
  · by_cases k2 : t.kind = 2
    · simp [k2]
    · simp [k1, k2]
theorem order_len {ts : List Tm} {O : List Int} (h : Ordered ts O) : O.length ≤ ts.length := by
  have h1 : O.Nodup := h.nodup
  have h2 : O ⊆ (List.range ts.length).map fun i => ((i : Nat) : Int) := fun x hx => by
    obtain ⟨k, rfl, hk⟩ := h.nat x hx
    exact List.mem_map.2 ⟨k, List.mem_range.2 hk, rfl⟩
  have := (List.Nodup.length_le_of_subset h1 h2)
  simpa using this
theorem named_new {ts : List Tm} {O : List Int} (h : Ordered ts O) {i j : Nat} {a c : Int} (hi : O[i]? = some a) (hj : O[j]? = some c) : (i : Int) ∈ namedT (ledT O ts.length (ts.getD c.toNat default)) ↔ a ∈ namedT (ts.getD c.toNat default) := by
  have hc : c ∈ O := List.mem_of_getElem? hj
  have ha : a ∈ O := List.mem_of_getElem? hi
  obtain ⟨k, rfl, hk⟩ := h.nat c hc
  rw [Int.toNat_natCast, named_led, List.mem_map]
  have hil : i < O.length := (List.getElem?_eq_some_iff.1 hi).1
  have hol := order_len h
  constructor
  · rintro ⟨y, hy, he⟩
    have h1 := named_closed h hc hy
    by_cases hin : inB y ts.length = true
    · rw [if_pos hin] at he
      have hyO := h1.1 hin
      obtain ⟨p1, p2, p3⟩ := place_in hyO
      have e : O.idxOf y = i := by omega
      rw [e, hi] at p3
      rw [Option.some.inj p3]
      exact hy
    · rw [if_neg hin] at he
      exact absurd (inB_iff.2 ⟨by omega, by omega⟩) hin
  · intro hy
    refine ⟨a, hy, ?_⟩
    rw [if_pos ((named_closed h hc hy).2 ha), place_at h.nodup hi]
theorem getD_map_tm {O : List Int} {f : Int → Bl} {j : Nat} {c : Int} (hj : O[j]? = some c) : (tms (O.map f)).getD j default = (f c).tm := by
  unfold tms
  rw [List.getD_eq_getElem?_getD, List.getElem?_map, List.getElem?_map, hj]; rfl
/-- the blocks ahead of a new block -/
theorem now_row {ts : List Tm} {O : List Int} (h : Ordered ts O) {us : List Tm} (hl : us.length = O.length) (hu : ∀ (j : Nat) c, O[j]? = some c → us.getD j default = ledT O ts.length (ts.getD c.toNat default)) {i : Nat} {a : Int} (hi : O[i]? = some a) :
    (aheadT us).getD i [] = ((List.range O.length).filter fun j => decide (O.getD j 0 ∈ (aheadT ts).getD a.toNat [])).map fun j => ((j : Nat) : Int) := by
  have hil : i < O.length := (List.getElem?_eq_some_iff.1 hi).1
  have ha : a ∈ O := List.mem_of_getElem? hi
  obtain ⟨ka, rfl, hka⟩ := h.nat a ha
  have hm : ∀ x, x ∈ (aheadT us).getD i [] ↔ x ∈ ((List.range O.length).filter fun j => decide (O.getD j 0 ∈ (aheadT ts).getD ((ka : Nat) : Int).toNat [])).map fun j => ((j : Nat) : Int) := fun x => by
    rw [mem_ahead (by omega), List.mem_map]
    constructor
    · rintro ⟨j, rfl, hj, hn⟩
      have hjl : j < O.length := by omega
      have hjs : O[j]? = some O[j] := List.getElem?_eq_getElem hjl
      refine ⟨j, List.mem_filter.2 ⟨List.mem_range.2 hjl, ?_⟩, rfl⟩
      rw [hu j _ hjs, next_named, named_new h hi hjs] at hn
      obtain ⟨kc, hkc, hkl⟩ := h.nat O[j] (List.getElem_mem hjl)
      rw [decide_eq_true_iff, Int.toNat_natCast, mem_ahead hka, List.getD_eq_getElem?_getD, hjs]
      refine ⟨kc, hkc, hkl, ?_⟩
      rw [next_named]
      rw [hkc, Int.toNat_natCast] at hn
      exact hn
    · rintro ⟨j, hj, rfl⟩
      obtain ⟨hj1, hj2⟩ := List.mem_filter.1 hj
      have hjl : j < O.length := List.mem_range.1 hj1
      have hjs : O[j]? = some O[j] := List.getElem?_eq_getElem hjl
      refine ⟨j, rfl, by omega, ?_⟩
      rw [decide_eq_true_iff, Int.toNat_natCast, mem_ahead hka, List.getD_eq_getElem?_getD, hjs] at hj2
      obtain ⟨kc, hkc, hkl, hn⟩ := hj2
      rw [Option.getD_some] at hkc
      rw [hu j _ hjs, next_named, named_new h hi hjs, hkc, Int.toNat_natCast]
      rw [next_named] at hn
      exact hn
  have s1 : ((aheadT us).getD i []).Pairwise (· < ·) := ahead_lt (by omega)
  have s2 : (((List.range O.length).filter fun j => decide (O.getD j 0 ∈ (aheadT ts).getD ((ka : Nat) : Int).toNat [])).map fun j => ((j : Nat) : Int)).Pairwise (· < ·) := by
    rw [List.pairwise_map]
    refine (List.pairwise_lt_range.filter _).imp fun h => by omega
  have n1 : ((aheadT us).getD i []).Nodup := s1.imp fun h => by omega
  have n2 := s2.imp (S := fun a b : Int => a ≠ b) fun h => by omega
  refine List.Perm.eq_of_pairwise (le := (· < ·)) (fun a b _ _ h1 h2 => by omega) s1 s2 ((List.perm_ext_iff_of_nodup n1 n2).2 hm)
theorem map_range_get {O : List Int} (p : Int → Bool) (f : Int → Int) : ((List.range O.length).filter fun j => p (O.getD j 0)).map (fun j => f (O.getD j 0)) = (O.filter p).map f := by
  have e : O = (List.range O.length).map fun j => O.getD j 0 := by
    apply List.ext_getElem
    · simp
    · intro i h1 h2
      rw [List.getElem_map, List.getElem_range, List.getD_eq_getElem?_getD, List.getElem?_eq_getElem h1]; rfl
  conv => rhs; rw [e]
  rw [List.filter_map, List.map_map]
  rfl
theorem fm_congr {α β : Type} {f g : α → Option β} : ∀ {l : List α}, (∀ x ∈ l, f x = g x) → l.filterMap f = l.filterMap g
  | [], _ => rfl
  | a :: l, h => by rw [List.filterMap_cons, List.filterMap_cons, h a (by simp), fm_congr (l := l) fun x hx => h x (by simp [hx])]
/-- a phi's arguments, the document's way and the program's -/
theorem args_same {O was had : List Int} : argsD O was (((List.range O.length).filter fun j => decide (O.getD j 0 ∈ was)).map fun j => ((j : Nat) : Int)) had = keptP had (stayP O was) := by
  unfold argsD keptP stayP
  rw [← map_range_get (fun x => decide (x ∈ was)) (placeOf was), List.filterMap_map, List.filterMap_map]
  refine fm_congr fun j hj => ?_
  have hm : O.getD j 0 ∈ was := by have := (List.mem_filter.1 hj).2; simpa using this
  simp only [Function.comp, Int.toNat_natCast]
  rw [if_pos (place_ge.2 hm)]
theorem trim_same (bs : List Bl) : trimD bs = trimBs bs := by
  unfold trimD trimBs
  dsimp only
  have ho := order_ok (tms bs)
  have htl : (tms bs).length = bs.length := by simp [tms]
  generalize hO : orderT (tms bs) = O at *
  apply List.ext_getElem
  · simp
  · intro i h1 h2
    have hil : i < O.length := by simpa using h1
    have his : O[i]? = some O[i] := List.getElem?_eq_getElem hil
    have hu : ∀ (j : Nat) c, O[j]? = some c → (tms (O.map fun a => ledB O (bs.getD a.toNat default))).getD j default = ledT O (tms bs).length ((tms bs).getD c.toNat default) := fun j c hj => by
      rw [getD_map_tm hj]
      obtain ⟨kc, rfl, hkc⟩ := ho.nat c (List.mem_of_getElem? hj)
      rw [Int.toNat_natCast, ← led_same ho (List.mem_of_getElem? hj), tms_get (by omega)]
      rfl
    have hnow := now_row ho (us := tms (O.map fun a => ledB O (bs.getD a.toNat default))) (by simp [tms]) hu his
    have hgd : O.getD i 0 = O[i] := by rw [List.getD_eq_getElem?_getD, his]; rfl
    rw [List.getElem_map, List.getElem_range, List.getElem_map, hnow, hgd]
    have hb : (List.map (fun a => ledB O (bs.getD a.toNat default)) O).getD i default = ledB O (bs.getD O[i].toNat default) := by
      rw [List.getD_eq_getElem?_getD, List.getElem?_map, his]; rfl
    rw [hb]
    unfold ledB
    dsimp only
    obtain ⟨kc, hkc, hkl⟩ := ho.nat O[i] (List.getElem_mem hil)
    have hled := led_same ho (a := kc) (by rw [← hkc]; exact List.getElem_mem hil)
    rw [tms_get (by omega), htl] at hled
    unfold trimB
    rw [hkc] at *
    simp only [Int.toNat_natCast] at *
    rw [hled]
    congr 1
    apply List.map_congr_left
    intro x _
    unfold trimI
    rw [args_same]
end Go.Proofs.YtabpnjakfoofpaaGreatDoor
