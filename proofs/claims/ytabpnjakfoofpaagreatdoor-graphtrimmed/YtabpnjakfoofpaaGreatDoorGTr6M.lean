/- Which blocks ahead stay, in memory: how two of them are held against each other; sorted. -/
import Derived.Test.YtabpnjakfoofpaaGreatDoorShelfBM
namespace Go.Proofs.YtabpnjakfoofpaaGreatDoor
open Go.RowKit

theorem putRow_as {α : Type} [Inhabited α] (f : α → Int) (w : World) (blk off : Nat) (d : Array α) : Sort.putRow (fun x => Value.int .i64 (f x)) w blk off d = Sort.putRow (Value.int .i64) w blk off (d.map f) := by
  unfold Sort.putRow
  congr 1
  funext c
  unfold Sort.putCells
  congr 1
  funext k x
  rw [Array.size_map]
  by_cases h : off ≤ k ∧ k < off + d.size
  · rw [if_pos h, if_pos h]
    have hk : k - off < d.size := by omega
    rw [getElem!_pos d _ hk, getElem!_pos (d.map f) _ (by simpa using hk)]
    simp
  · rw [if_neg h, if_neg h]
set_option maxRecDepth 100000 in
set_option maxHeartbeats 2000000 in
theorem stayc_any {w0 W : World} {O ah : List Int} {n bp ba : Nat} {pa aa : Option Addr} {pc ac : Nat} (hp : IntsAt w0 (.slice pa n pc) (placesL O n)) (ha : IntsAt w0 (.slice aa ah.length ac) ah) (cp : w0.cell? ⟨bp, 0, none⟩ = some (.slice pa n pc)) (ca : w0.cell? ⟨ba, 0, none⟩ = some (.slice aa ah.length ac)) (lp : bp < w0.heap.size) (la : ba < w0.heap.size)
    (hin : ∀ x ∈ ah, ∃ k : Nat, x = (k : Int) ∧ k < n) (hb : Below w0.heap.size w0 W) (x y : Nat) (hx : x < ah.length) (hy : y < ah.length) :
    Calls Tryz.prog 56 #[.int .i64 (x : Int), .int .i64 (y : Int), ptr bp, ptr ba] W fun e w' => e = .returned (.int .i64 (Lib.compareInt (keyS O ah x) (keyS O ah y))) ∧ ∃ q, w' = W.drewN q := by
  have hget : ∀ i, i < ah.length → ∃ k : Nat, ah.getD i 0 = (k : Int) ∧ k < n := fun i hi => hin _ (by rw [List.getD_eq_getElem?_getD, List.getElem?_eq_getElem hi]; exact List.getElem_mem hi)
  obtain ⟨k1, e1, l1⟩ := hget x hx
  obtain ⟨k2, e2, l2⟩ := hget y hy
  obtain ⟨ga, oa, rfl, hga, c1⟩ := ha.get hx
  obtain ⟨ga', oa', hh, _, c2⟩ := ha.get hy
  injection hh with hh
  injection hh with y1 y2
  subst y1 y2
  have hl : (placesL O n).length = n := places_len O n
  obtain ⟨gp, op, rfl, hgp, d1⟩ := hp.get (i := k1) (by rw [hl]; exact l1)
  obtain ⟨gp', op', hh, _, d2⟩ := hp.get (i := k2) (by rw [hl]; exact l2)
  injection hh with hh
  injection hh with y1 y2
  subst y1 y2
  rw [places_get l1] at d1
  rw [places_get l2] at d2
  have q1 : keyS O ah x = placeOf O (k1 : Int) := by unfold keyS; rw [e1]
  have q2 : keyS O ah y = placeOf O (k2 : Int) := by unfold keyS; rw [e2]
  rw [q1, q2]
  rw [e1] at c1
  rw [e2] at c2
  have cp' := (hb.cell (p := ⟨bp, 0, none⟩) lp).trans cp
  have ca' := (hb.cell (p := ⟨ba, 0, none⟩) la).trans ca
  have c1' := (hb.cell (p := ⟨ga, oa + x, none⟩) hga).trans c1
  have c2' := (hb.cell (p := ⟨ga, oa + y, none⟩) hga).trans c2
  have d1' := (hb.cell (p := ⟨gp, op + k1, none⟩) hgp).trans d1
  have d2' := (hb.cell (p := ⟨gp, op + k2, none⟩) hgp).trans d2
  have HCP : Hid (∀ a b W, Calls Tryz.prog 57 #[.int .i64 a, .int .i64 b] W fun e w' => e = .returned (.int .i64 (Lib.compareInt a b)) ∧ w' = W) := fun a b W => Tryz.cmp_Compare_int a b W
  generalize placeOf O (k1 : Int) = v1 at *
  generalize placeOf O (k2 : Int) = v2 at *
  have hx' : (x : Int) < (ah.length : Int) := by omega
  have hy' : (y : Int) < (ah.length : Int) := by omega
  have l1' : (k1 : Int) < (n : Int) := by omega
  have l2' : (k2 : Int) < (n : Int) := by omega
  clear hp ha cp ca hin hget e1 e2 c1 c2 d1 d2 q1 q2 hl
  generalize ah.length = m at *
  go_enter Tryz.func56, Tryz.ntmps56
  go_wp2
  go_quiet ((go_at_call 57; exact Calls.quiet_of_same (HCP.out _ _ _)))
  go_wp2
  go_ret
  exact ⟨rfl, _, rfl⟩
end Go.Proofs.YtabpnjakfoofpaaGreatDoor
/- Which blocks ahead stay, in memory. -/
namespace Go.Proofs.YtabpnjakfoofpaaGreatDoor
open Go.RowKit

theorem holds_as {α : Type} [Inhabited α] (f : α → Int) {w : World} {blk off : Nat} {d : Array α} (h : Sort.Holds (Value.int .i64) w blk off (d.map f)) : Sort.Holds (fun x => Value.int .i64 (f x)) w blk off d := fun j hj => by
  have h9 := h j (by simpa using hj)
  rw [getElem!_pos (d.map f) _ (by simpa using hj), Array.getElem_map] at h9
  rw [getElem!_pos d _ hj]
  exact h9
def cmpS (O ah : List Int) (m : Nat) (x y : Fin m) : Int := Lib.compareInt (keyS O ah x.val) (keyS O ah y.val)
theorem ltS {O ah : List Int} {m : Nat} (x y : Fin m) : ltOf (cmpS O ah m) x y = decide (keyS O ah x.val < keyS O ah y.val) := by
  unfold ltOf cmpS Lib.compareInt
  generalize keyS O ah x.val = a
  generalize keyS O ah y.val = b
  by_cases h1 : a < b
  · simp [h1]
  · by_cases h2 : b < a <;> simp [h1, h2]
theorem swoS (O ah : List Int) (m : Nat) : Sort.SWO (ltOf (cmpS O ah m)) where
  irrefl x := by rw [ltS]; simp
  trans x y z h1 h2 := by rw [ltS] at *; simp at *; omega
  ntrans x y z h1 h2 := by rw [ltS] at *; simp at *; omega
theorem sort_stay {w0 w : World} {O ah : List Int} {n bp ba base : Nat} {v : Value} {pa aa : Option Addr} {pc ac : Nat} (hO : O.Nodup) (hA : ah.Nodup) (hp : IntsAt w0 (.slice pa n pc) (placesL O n)) (ha : IntsAt w0 (.slice aa ah.length ac) ah) (cp : w0.cell? ⟨bp, 0, none⟩ = some (.slice pa n pc)) (ca : w0.cell? ⟨ba, 0, none⟩ = some (.slice aa ah.length ac)) (lp : bp < w0.heap.size) (la : ba < w0.heap.size)
    (hin : ∀ x ∈ ah, ∃ k : Nat, x = (k : Int) ∧ k < n) (hb : Below w0.heap.size w0 w) (hbase : w0.heap.size ≤ base) (hl : ah.length ≤ 1000000) (h : OwnI w base v ((staysN O ah ah.length).map fun i => ((i : Nat) : Int))) :
    Calls Tryz.prog 55 #[v, .func (.func 56) #[] #[ptr bp, ptr ba]] w fun e w' => e = .returned (.tuple #[]) ∧ OwnI w' base v (stayP O ah) ∧ w.grownBy w' v.ownBlock := by
  rcases h.2 with ⟨rfl, h0⟩ | ⟨g, cap, cur, rfl, h1, hh, h2, h3, h4, h5⟩
  · have hn : staysN O ah ah.length = [] := List.eq_nil_of_length_eq_zero (by simpa using h0)
    have he : ([] : List Int) = stayP O ah := stay_unique hO hA (R := []) (by rw [hn]) List.Pairwise.nil
    rw [hn] at h
    refine (Tryz.slices_SortFunc_none (α := Nat) none 0 _ w).mono ?_
    rintro e w' ⟨rfl, rfl⟩
    refine ⟨rfl, ?_, grownBy_refl _ _⟩
    rw [← he]
    exact h
  · by_cases hm0 : ah.length = 0
    · have hn : staysN O ah ah.length = [] := by rw [hm0]; rfl
      have he : ([] : List Int) = stayP O ah := stay_unique hO hA (R := []) (by rw [hn]) List.Pairwise.nil
      rw [hn] at h
      rw [hn]
      refine (Tryz.slices_SortFunc_none (α := Nat) _ cap _ w).mono ?_
      rintro e w' ⟨rfl, rfl⟩
      refine ⟨rfl, ?_, grownBy_refl _ _⟩
      rw [← he]
      exact h
    · haveI : Inhabited (Fin ah.length) := ⟨⟨0, by omega⟩⟩
      obtain ⟨D, hD⟩ : ∃ D : List (Fin ah.length), D.map Fin.val = staysN O ah ah.length := by
        refine ⟨(staysN O ah ah.length).attach.map fun i => ⟨i.val, (stays_lt i.property).1⟩, ?_⟩
        rw [List.map_map]
        exact List.attach_map_subtype_val _
      have hDl : D.length = (staysN O ah ah.length).length := by rw [← hD]; simp
      have hDm : (D.toArray.map fun i => ((i.val : Nat) : Int)) = ((staysN O ah ah.length).map fun i => ((i : Nat) : Int)).toArray := by
        rw [← hD, List.map_map]
        simp
      have hH0 := holds_of_blockI (ss := (staysN O ah ah.length).map fun i => ((i : Nat) : Int)) hh (by simpa using h5)
      rw [← hDm] at hH0
      have hH := holds_as (fun i : Fin ah.length => ((i.val : Nat) : Int)) hH0
      have eg : ∀ args w, (callFunc 56 args).run Tryz.prog w = .ok (.enter 56 args) w := enters_of Tryz.func56 (by kernel_rfl) rfl
      have hgb : ∀ (mm : Nat) (os : Array Obj) (dk : Array (Fin ah.length)), w.grownBy (sortWorld (fun i : Fin ah.length => Value.int .i64 ((i.val : Nat) : Int)) w g 0 mm dk os) (some g) := fun mm os dk => by
        unfold sortWorld
        rw [putRow_as (fun i : Fin ah.length => ((i.val : Nat) : Int))]
        exact grownBy_sortedI _
      have hcmp : CmpReads Tryz.prog 56 #[ptr bp, ptr ba] (fun i : Fin ah.length => Value.int .i64 ((i.val : Nat) : Int)) (cmpS O ah ah.length) g 0 D.toArray.size w := fun mm os dk _ x y =>
        stayc_any hp ha cp ca lp la hin (below_grown hb (hgb mm os dk) (fun q hq => by cases hq; omega)) x.val y.val x.isLt y.isLt
      have hcon := Tryz.slices_SortFunc (fun i : Fin ah.length => Value.int .i64 ((i.val : Nat) : Int)) (fun _ => rfl) (cmpS O ah ah.length) (swoS O ah ah.length) 56 #[ptr bp, ptr ba] g 0 cap D.toArray w eg hcmp.lays hH (Array.getElem?_eq_some_iff.1 hh).1 (by have := stays_len O ah ah.length; simp; omega)
      have hsz : D.toArray.size = ((staysN O ah ah.length).map fun i => ((i : Nat) : Int)).length := by simp [hDl]
      rw [hsz] at hcon
      refine hcon.mono ?_
      rintro e w' ⟨rfl, d', nn, os, hperm, hsort, rfl⟩
      obtain ⟨s1, _, s3⟩ := hperm
      have hds : d'.size = D.length := by rw [s1]; simp
      have hR : (d'.toList.map Fin.val).Perm (staysN O ah ah.length) := by
        rw [← hD]
        refine List.Perm.map _ ?_
        have x1 : (d'.extract 0 D.toArray.size).toList = d'.toList := by rw [List.size_toArray, ← hds, Array.extract_size]
        have x2 : (D.toArray.extract 0 D.toArray.size).toList = D := by rw [Array.extract_size]
        rw [← hsz] at s3
        rw [x1, x2] at s3
        exact s3
      have hS : (d'.toList.map Fin.val).Pairwise fun a b => keyS O ah a ≤ keyS O ah b := by
        rw [List.pairwise_map, List.pairwise_iff_getElem]
        intro i j hi hj hij
        have hi' : i < d'.size := by simpa using hi
        have hj' : j < d'.size := by simpa using hj
        have h9 := hsort i j (Nat.zero_le _) hij (by rw [← hsz, List.size_toArray]; omega)
        rw [ltS, getElem!_pos d' _ hj', getElem!_pos d' _ hi'] at h9
        have h8 := of_decide_eq_false h9
        simp only [Array.getElem_toList]
        omega
      have hE := stay_unique hO hA hR hS
      have hts : (d'.map fun i : Fin ah.length => ((i.val : Nat) : Int)) = (stayP O ah).toArray := by
        rw [← hE, List.map_map]
        apply Array.ext'
        simp
      refine ⟨rfl, ?_, hgb _ _ _⟩
      unfold sortWorld
      rw [putRow_as (fun i : Fin ah.length => ((i.val : Nat) : Int)), hts]
      have hln : (stayP O ah).length = ((staysN O ah ah.length).map fun i => ((i : Nat) : Int)).length := by rw [← hE, List.length_map, List.length_map, List.length_map]; have := hR.length_eq; simpa using this
      have h9 := ownsRow_sortedI (ts := stayP O ah) (n := nn) (os := os) hln h1 hh h2 h3 h4
      show World.ownsRow _ _ _ _ _ _ _
      rw [hln]
      exact h9
end Go.Proofs.YtabpnjakfoofpaaGreatDoor
