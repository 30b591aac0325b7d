/- The document's side: a place of so many; where a number stands. -/
import Derived.Test.YtabpnjakfoofpaaGreatDoorGLaidM
import Derived.Test.YtabpnjakfoofpaaGreatDoorGRPl
import Derived.Test.YtabpnjakfoofpaaGreatDoorGDfs
import Derived.Test.YtabpnjakfoofpaaGreatDoorGAhd1M
namespace Go.Proofs.YtabpnjakfoofpaaGreatDoor
open Go.RowKit Go.Sort

theorem rin_any (a b : Int) (w : World) : Calls Tryz.prog 29 #[.int .i64 a, .int .i64 b] w fun e w' => e = .returned (.bool (placeB a b)) ∧ w' = w := by
  unfold placeB
  go_enter Tryz.func29, Tryz.ntmps29
  by_cases h : 0 ≤ a
  · go_wp2
    go_ret
    exact ⟨ret_bool (by simp [h]), rfl⟩
  · go_wp2
    go_ret
    exact ⟨ret_bool (by simp; omega), rfl⟩
set_option maxRecDepth 100000 in
set_option maxHeartbeats 1000000 in
theorem rplace_any (l : List Int) (x : Int) (v : Value) (w : World) (h : IntsAt w v l) : Calls Tryz.prog 44 #[v, .int .i64 x] w fun e w' => e = .returned (.int .i64 (plcF x l 0)) ∧ w' = w := by
  obtain ⟨a, c, rfl, hll⟩ := h.form
  have HI : Hid (∀ i, i < l.length → _) := fun i hi => h.get (i := i) hi
  have HD : Hid (∀ i, i < l.length → _) := fun i hi => plcF_drop (x := x) (l := l) hi
  have HZ : Hid (plcF x (l.drop l.length) l.length = -1) := by show plcF x (l.drop l.length) l.length = -1; rw [List.drop_length]; rfl
  obtain ⟨R, hR⟩ : ∃ R, R = plcF x l 0 := ⟨_, rfl⟩
  rw [← hR]
  have HR : Hid (plcF x (l.drop 0) 0 = R) := hR.symm
  obtain ⟨n, hn⟩ : ∃ n, n = l.length := ⟨_, rfl⟩
  rw [← hn] at HI HD HZ hll ⊢
  clear h hR hn
  go_enter Tryz.func44, Tryz.ntmps44
  go_wp2
  go_loopw [5] (fun vi wr => ∃ i : Nat, vi = .int .i64 i ∧ i ≤ n ∧ Hid (plcF x (l.drop i) i = R ∧ wr = w)) (fun vi _ => n - (intOf vi).toNat)
  case atStart => exact ⟨0, rfl, by omega, HR.out, rfl⟩
  case round =>
    obtain ⟨i, rfl, hi, hr⟩ := hrel
    have hw := hr.out.2
    subst hw
    clear HR
    by_cases hin : i < n
    · obtain ⟨g, o, rfl, hg, c0⟩ := HI.out i hin
      have hin' : (i : Int) < n := by omega
      have HDD : Hid _ := HD.out i hin
      rw [hr.out.1] at HDD
      clear HI HD HZ
      generalize l.getD i 0 = y at *
      by_cases hy : y = x
      · subst hy
        have HX : Hid (R = (i : Int)) := by show R = (i : Int); have h9 := HDD.out; simpa using h9
        clear HDD
        go_wp2
        go_ret
        exact ⟨ret_int HX.out.symm, rfl⟩
      · have hyf : (y == x) = false := beq_false_of_ne hy
        have HX : Hid (R = plcF x (l.drop (i + 1)) (i + 1)) := by show R = plcF x (l.drop (i + 1)) (i + 1); have h9 := HDD.out; simpa [hy] using h9
        clear HDD
        go_wp2
        go_roundw
        case rel => exact ⟨i + 1, by first | rfl | (congr 1; omega), by omega, HX.out.symm, by first | rfl | trivial⟩
        case measure => simp [intOf]; omega
    · obtain rfl : i = n := by omega
      have HX : Hid (-1 = R) := by have h9 := hr.out.1; rw [HZ.out] at h9; exact h9
      clear HI HD HZ
      go_wp2
      go_ret
      exact ⟨ret_int HX.out, rfl⟩
end Go.Proofs.YtabpnjakfoofpaaGreatDoor
/- A graph with the blocks that are reached alone: plain. -/
namespace Go.Proofs.YtabpnjakfoofpaaGreatDoor

/-- where a number stands in a row; -1: nowhere -/
def placeOf (l : List Int) (x : Int) : Int := if x ∈ l then (l.idxOf x : Int) else -1
theorem place_in {l : List Int} {x : Int} (h : x ∈ l) : placeOf l x = (l.idxOf x : Int) ∧ l.idxOf x < l.length ∧ l[l.idxOf x]? = some x := by
  have h1 : l.idxOf x < l.length := List.idxOf_lt_length_of_mem h
  refine ⟨by unfold placeOf; rw [if_pos h], h1, ?_⟩
  rw [List.getElem?_eq_getElem h1, List.getElem_idxOf h1]
theorem place_out {l : List Int} {x : Int} (h : x ∉ l) : placeOf l x = -1 := by unfold placeOf; rw [if_neg h]
theorem place_ge {l : List Int} {x : Int} : 0 ≤ placeOf l x ↔ x ∈ l := by
  by_cases h : x ∈ l
  · rw [(place_in h).1]; exact ⟨fun _ => h, fun _ => by omega⟩
  · rw [place_out h]; exact ⟨fun h => by omega, fun h9 => absurd h9 h⟩
theorem place_ne {l : List Int} {x : Int} : placeOf l x ≠ -1 ↔ x ∈ l := by
  rw [← place_ge]
  by_cases h : x ∈ l
  · rw [(place_in h).1]; omega
  · rw [place_out h]; omega
theorem place_at {l : List Int} (hn : l.Nodup) {i : Nat} {x : Int} (h : l[i]? = some x) : placeOf l x = (i : Int) := by
  obtain ⟨hi, he⟩ := List.getElem?_eq_some_iff.1 h
  have hm : x ∈ l := by rw [← he]; exact List.getElem_mem hi
  obtain ⟨h1, h2, h3⟩ := place_in hm
  rw [h1]
  have : l.idxOf x = i := by
    rcases Nat.lt_trichotomy (l.idxOf x) i with hlt | heq | hgt
    · obtain ⟨q1, q2⟩ := List.getElem?_eq_some_iff.1 h3
      exact absurd (q2.trans he.symm) (List.pairwise_iff_getElem.1 hn _ _ q1 hi hlt)
    · exact heq
    · obtain ⟨q1, q2⟩ := List.getElem?_eq_some_iff.1 h3
      exact absurd (he.trans q2.symm) (List.pairwise_iff_getElem.1 hn _ _ hi q1 hgt)
  omega
theorem place_inj {l : List Int} {x y : Int} (hx : x ∈ l) (hy : y ∈ l) (h : placeOf l x = placeOf l y) : x = y := by
  obtain ⟨h1, _, h3⟩ := place_in hx
  obtain ⟨h4, _, h6⟩ := place_in hy
  have e : l.idxOf x = l.idxOf y := by omega
  rw [e, h6] at h3
  exact (Option.some.inj h3).symm

/-- which of the blocks ahead stay, by their places among them, in the new order -/
def stayP (O ah : List Int) : List Int := (O.filter (· ∈ ah)).map (placeOf ah)
def keptP (args st : List Int) : List Int := st.filterMap fun i => args[i.toNat]?
def ledT (O : List Int) (n : Nat) (t : Tm) : Tm :=
  { t with t0 := if (t.kind = 1 ∨ t.kind = 2) ∧ inB t.t0 n = true then placeOf O t.t0 else t.t0, t1 := if t.kind = 2 ∧ inB t.t1 n = true then placeOf O t.t1 else t.t1 }
def trimI (st : List Int) (x : In) : In := if x.kind = 1 then { x with args := keptP x.args st } else x
def trimB (O : List Int) (n : Nat) (ah : List Int) (b : Bl) : Bl := ⟨b.ins.map (trimI (stayP O ah)), ledT O n b.tm⟩
def trimBs (bs : List Bl) : List Bl := (orderT (tms bs)).map fun a => trimB (orderT (tms bs)) bs.length ((aheadT (tms bs)).getD a.toNat []) (bs.getD a.toNat default)
def trimG (G : Gr) : Gr := { G with blocks := trimBs G.blocks }

/- The document's way. -/
def ledD (O : List Int) (t : Tm) : Tm :=
  { t with t0 := if 0 ≤ placeOf O t.t0 ∧ (t.kind = 2 ∨ t.kind = 1) then placeOf O t.t0 else t.t0, t1 := if 0 ≤ placeOf O t.t1 ∧ t.kind = 2 then placeOf O t.t1 else t.t1 }
def argsD (O was now had : List Int) : List Int := now.filterMap fun j => if 0 ≤ placeOf was (O.getD j.toNat 0) then had[(placeOf was (O.getD j.toNat 0)).toNat]? else none
def ledB (O : List Int) (b : Bl) : Bl := ⟨b.ins, ledD O b.tm⟩
def trimD (bs : List Bl) : List Bl :=
  let O := orderT (tms bs)
  let b1 := O.map fun a => ledB O (bs.getD a.toNat default)
  let now := aheadT (tms b1)
  (List.range O.length).map fun i => (⟨(b1.getD i default).ins.map fun x => if x.kind = 1 then { x with args := argsD O ((aheadT (tms bs)).getD (O.getD i 0).toNat []) (now.getD i []) x.args } else x, (b1.getD i default).tm⟩ : Bl)

theorem tms_get {bs : List Bl} {k : Nat} (h : k < bs.length) : (tms bs).getD k default = (bs.getD k default).tm := by
  unfold tms; rw [List.getD_eq_getElem?_getD, List.getElem?_map, List.getElem?_eq_getElem h, List.getD_eq_getElem?_getD, List.getElem?_eq_getElem h]; rfl
theorem named_closed {ts : List Tm} {O : List Int} (h : Ordered ts O) {a : Nat} (ha : (a : Int) ∈ O) {y : Int} (hy : y ∈ namedT (ts.getD a default)) : inB y ts.length = true ↔ y ∈ O := by
  constructor
  · exact h.closed a ha y hy
  · intro h1
    obtain ⟨k, rfl, hk⟩ := h.nat y h1
    exact inB_iff.2 ⟨by omega, by omega⟩
theorem led_same {ts : List Tm} {O : List Int} (h : Ordered ts O) {a : Nat} (ha : (a : Int) ∈ O) : ledD O (ts.getD a default) = ledT O ts.length (ts.getD a default) := by
  have h1 := fun y hy => named_closed h ha (y := y) hy
  unfold ledD ledT namedT at *
  generalize ts.getD a default = t at *
  obtain ⟨k, ar, t0, t1, tr⟩ := t
  dsimp only at *
  by_cases k1 : k = 1
  · subst k1
    have := h1 t0 (by simp)
    simp [place_ge, this]
  · by_cases k2 : k = 2
    · subst k2
      have e0 := h1 t0 (by simp)
      have e1 := h1 t1 (by simp)
      simp [place_ge, e0, e1]
    · simp [k1, k2]
/-- what a new end names -/
theorem named_led {O : List Int} {n : Nat} {t : Tm} : namedT (ledT O n t) = (namedT t).map fun y => if inB y n = true then placeOf O y else y := by
  unfold namedT ledT
  dsimp only
  by_cases k1 : t.kind = 1
  · simp [k1]
  · by_cases k2 : t.kind = 2
    · simp [k2]
    · simp [k1, k2]
theorem order_len {ts : List Tm} {O : List Int} (h : Ordered ts O) : O.length ≤ ts.length := by
  have h1 : O.Nodup := h.nodup
  have h2 : O ⊆ (List.range ts.length).map fun i => ((i : Nat) : Int) := fun x hx => by
    obtain ⟨k, rfl, hk⟩ := h.nat x hx
    exact List.mem_map.2 ⟨k, List.mem_range.2 hk, rfl⟩
  have := (List.Nodup.length_le_of_subset h1 h2)
  simpa using this
theorem named_new {ts : List Tm} {O : List Int} (h : Ordered ts O) {i j : Nat} {a c : Int} (hi : O[i]? = some a) (hj : O[j]? = some c) : (i : Int) ∈ namedT (ledT O ts.length (ts.getD c.toNat default)) ↔ a ∈ namedT (ts.getD c.toNat default) := by
  have hc : c ∈ O := List.mem_of_getElem? hj
  have ha : a ∈ O := List.mem_of_getElem? hi
  obtain ⟨k, rfl, hk⟩ := h.nat c hc
  rw [Int.toNat_natCast, named_led, List.mem_map]
  have hil : i < O.length := (List.getElem?_eq_some_iff.1 hi).1
  have hol := order_len h
  constructor
  · rintro ⟨y, hy, he⟩
    have h1 := named_closed h hc hy
    by_cases hin : inB y ts.length = true
    · rw [if_pos hin] at he
      have hyO := h1.1 hin
      obtain ⟨p1, p2, p3⟩ := place_in hyO
      have e : O.idxOf y = i := by omega
      rw [e, hi] at p3
      rw [Option.some.inj p3]
      exact hy
    · rw [if_neg hin] at he
      exact absurd (inB_iff.2 ⟨by omega, by omega⟩) hin
  · intro hy
    refine ⟨a, hy, ?_⟩
    rw [if_pos ((named_closed h hc hy).2 ha), place_at h.nodup hi]
theorem getD_map_tm {O : List Int} {f : Int → Bl} {j : Nat} {c : Int} (hj : O[j]? = some c) : (tms (O.map f)).getD j default = (f c).tm := by
  unfold tms
  rw [List.getD_eq_getElem?_getD, List.getElem?_map, List.getElem?_map, hj]; rfl
/-- the blocks ahead of a new block -/
theorem now_row {ts : List Tm} {O : List Int} (h : Ordered ts O) {us : List Tm} (hl : us.length = O.length) (hu : ∀ (j : Nat) c, O[j]? = some c → us.getD j default = ledT O ts.length (ts.getD c.toNat default)) {i : Nat} {a : Int} (hi : O[i]? = some a) :
    (aheadT us).getD i [] = ((List.range O.length).filter fun j => decide (O.getD j 0 ∈ (aheadT ts).getD a.toNat [])).map fun j => ((j : Nat) : Int) := by
  have hil : i < O.length := (List.getElem?_eq_some_iff.1 hi).1
  have ha : a ∈ O := List.mem_of_getElem? hi
  obtain ⟨ka, rfl, hka⟩ := h.nat a ha
  have hm : ∀ x, x ∈ (aheadT us).getD i [] ↔ x ∈ ((List.range O.length).filter fun j => decide (O.getD j 0 ∈ (aheadT ts).getD ((ka : Nat) : Int).toNat [])).map fun j => ((j : Nat) : Int) := fun x => by
    rw [mem_ahead (by omega), List.mem_map]
    constructor
    · rintro ⟨j, rfl, hj, hn⟩
      have hjl : j < O.length := by omega
      have hjs : O[j]? = some O[j] := List.getElem?_eq_getElem hjl
      refine ⟨j, List.mem_filter.2 ⟨List.mem_range.2 hjl, ?_⟩, rfl⟩
      rw [hu j _ hjs, next_named, named_new h hi hjs] at hn
      obtain ⟨kc, hkc, hkl⟩ := h.nat O[j] (List.getElem_mem hjl)
      rw [decide_eq_true_iff, Int.toNat_natCast, mem_ahead hka, List.getD_eq_getElem?_getD, hjs]
      refine ⟨kc, hkc, hkl, ?_⟩
      rw [next_named]
      rw [hkc, Int.toNat_natCast] at hn
      exact hn
    · rintro ⟨j, hj, rfl⟩
      obtain ⟨hj1, hj2⟩ := List.mem_filter.1 hj
      have hjl : j < O.length := List.mem_range.1 hj1
      have hjs : O[j]? = some O[j] := List.getElem?_eq_getElem hjl
      refine ⟨j, rfl, by omega, ?_⟩
      rw [decide_eq_true_iff, Int.toNat_natCast, mem_ahead hka, List.getD_eq_getElem?_getD, hjs] at hj2
      obtain ⟨kc, hkc, hkl, hn⟩ := hj2
      rw [Option.getD_some] at hkc
      rw [hu j _ hjs, next_named, named_new h hi hjs, hkc, Int.toNat_natCast]
      rw [next_named] at hn
      exact hn
  have s1 : ((aheadT us).getD i []).Pairwise (· < ·) := ahead_lt (by omega)
  have s2 : (((List.range O.length).filter fun j => decide (O.getD j 0 ∈ (aheadT ts).getD ((ka : Nat) : Int).toNat [])).map fun j => ((j : Nat) : Int)).Pairwise (· < ·) := by
    rw [List.pairwise_map]
    refine (List.pairwise_lt_range.filter _).imp fun h => by omega
  have n1 : ((aheadT us).getD i []).Nodup := s1.imp fun h => by omega
  have n2 := s2.imp (S := fun a b : Int => a ≠ b) fun h => by omega
  refine List.Perm.eq_of_pairwise (le := (· < ·)) (fun a b _ _ h1 h2 => by omega) s1 s2 ((List.perm_ext_iff_of_nodup n1 n2).2 hm)
theorem map_range_get {O : List Int} (p : Int → Bool) (f : Int → Int) : ((List.range O.length).filter fun j => p (O.getD j 0)).map (fun j => f (O.getD j 0)) = (O.filter p).map f := by
  have e : O = (List.range O.length).map fun j => O.getD j 0 := by
    apply List.ext_getElem
    · simp
    · intro i h1 h2
      rw [List.getElem_map, List.getElem_range, List.getD_eq_getElem?_getD, List.getElem?_eq_getElem h1]; rfl
  conv => rhs; rw [e]
  rw [List.filter_map, List.map_map]
  rfl
theorem fm_congr {α β : Type} {f g : α → Option β} : ∀ {l : List α}, (∀ x ∈ l, f x = g x) → l.filterMap f = l.filterMap g
  | [], _ => rfl
  | a :: l, h => by rw [List.filterMap_cons, List.filterMap_cons, h a (by simp), fm_congr (l := l) fun x hx => h x (by simp [hx])]
/-- a phi's arguments, the document's way and the program's -/
theorem args_same {O was had : List Int} : argsD O was (((List.range O.length).filter fun j => decide (O.getD j 0 ∈ was)).map fun j => ((j : Nat) : Int)) had = keptP had (stayP O was) := by
  unfold argsD keptP stayP
  rw [← map_range_get (fun x => decide (x ∈ was)) (placeOf was), List.filterMap_map, List.filterMap_map]
  refine fm_congr fun j hj => ?_
  have hm : O.getD j 0 ∈ was := by have := (List.mem_filter.1 hj).2; simpa using this
  simp only [Function.comp, Int.toNat_natCast]
  rw [if_pos (place_ge.2 hm)]
theorem trim_same (bs : List Bl) : trimD bs = trimBs bs := by
  unfold trimD trimBs
  dsimp only
  have ho := order_ok (tms bs)
  have htl : (tms bs).length = bs.length := by simp [tms]
  generalize hO : orderT (tms bs) = O at *
  apply List.ext_getElem
  · simp
  · intro i h1 h2
    have hil : i < O.length := by simpa using h1
    have his : O[i]? = some O[i] := List.getElem?_eq_getElem hil
    have hu : ∀ (j : Nat) c, O[j]? = some c → (tms (O.map fun a => ledB O (bs.getD a.toNat default))).getD j default = ledT O (tms bs).length ((tms bs).getD c.toNat default) := fun j c hj => by
      rw [getD_map_tm hj]
      obtain ⟨kc, rfl, hkc⟩ := ho.nat c (List.mem_of_getElem? hj)
      rw [Int.toNat_natCast, ← led_same ho (List.mem_of_getElem? hj), tms_get (by omega)]
      rfl
    have hnow := now_row ho (us := tms (O.map fun a => ledB O (bs.getD a.toNat default))) (by simp [tms]) hu his
    have hgd : O.getD i 0 = O[i] := by rw [List.getD_eq_getElem?_getD, his]; rfl
    rw [List.getElem_map, List.getElem_range, List.getElem_map, hnow, hgd]
    have hb : (List.map (fun a => ledB O (bs.getD a.toNat default)) O).getD i default = ledB O (bs.getD O[i].toNat default) := by
      rw [List.getD_eq_getElem?_getD, List.getElem?_map, his]; rfl
    rw [hb]
    unfold ledB
    dsimp only
    obtain ⟨kc, hkc, hkl⟩ := ho.nat O[i] (List.getElem_mem hil)
    have hled := led_same ho (a := kc) (by rw [← hkc]; exact List.getElem_mem hil)
    rw [tms_get (by omega), htl] at hled
    unfold trimB
    rw [hkc] at *
    simp only [Int.toNat_natCast] at *
    rw [hled]
    congr 1
    apply List.map_congr_left
    intro x _
    unfold trimI
    rw [args_same]
end Go.Proofs.YtabpnjakfoofpaaGreatDoor
