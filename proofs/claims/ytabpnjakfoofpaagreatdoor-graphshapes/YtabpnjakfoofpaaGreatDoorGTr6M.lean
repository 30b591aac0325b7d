/- Which blocks ahead stay: their order, plain. -/
import Derived.Test.YtabpnjakfoofpaaGreatDoorGTr3
import Derived.Shelf.Small.Wraps
import Derived.Shelf.SlSortCmp.Whole1
import Derived.Shelf.SlSortCmp.NoneTotal
import Derived.Test.YtabpnjakfoofpaaGreatDoorProg
namespace Go.Proofs.YtabpnjakfoofpaaGreatDoor

/-- where what stands ahead is now -/
def keyS (O ah : List Int) (i : Nat) : Int := placeOf O (ah.getD i 0)
def staysB (O ah : List Int) (i : Nat) : Bool := decide (ah.getD i 0 ∈ O)
def staysN (O ah : List Int) (m : Nat) : List Nat := (List.range m).filter (staysB O ah)
theorem stays_snoc (O ah : List Int) (m : Nat) : staysN O ah (m + 1) = staysN O ah m ++ (if staysB O ah m = true then [m] else []) := by
  unfold staysN
  rw [List.range_succ, List.filter_append]
  congr 1
  by_cases h : staysB O ah m = true
  · simp [h]
  · simp [h]
theorem stays_len (O ah : List Int) (m : Nat) : (staysN O ah m).length ≤ m := by
  have := List.length_filter_le (staysB O ah) (List.range m)
  simpa [staysN] using this
theorem stays_lt {O ah : List Int} {m i : Nat} (h : i ∈ staysN O ah m) : i < m ∧ ah.getD i 0 ∈ O := by
  obtain ⟨h1, h2⟩ := List.mem_filter.1 h
  exact ⟨List.mem_range.1 h1, by simpa [staysB] using h2⟩
theorem order_keys {O : List Int} (hn : O.Nodup) : O.Pairwise fun a b => placeOf O a < placeOf O b := by
  rw [List.pairwise_iff_getElem]
  intro i j hi hj hij
  rw [place_at hn (List.getElem?_eq_getElem hi), place_at hn (List.getElem?_eq_getElem hj)]
  omega
theorem getD_idx {l : List Int} {x : Int} (h : x ∈ l) : l.getD (l.idxOf x) 0 = x := by
  rw [List.getD_eq_getElem?_getD, (place_in h).2.2]; rfl
/-- sorted by where they stand now they are what stays -/
theorem stay_unique {O ah : List Int} (hO : O.Nodup) (hA : ah.Nodup) {R : List Nat} (hp : R.Perm (staysN O ah ah.length)) (hs : R.Pairwise fun a b => keyS O ah a ≤ keyS O ah b) : R.map (fun i => ((i : Nat) : Int)) = stayP O ah := by
  have hT : stayP O ah = ((O.filter (· ∈ ah)).map ah.idxOf).map fun i => ((i : Nat) : Int) := by
    unfold stayP
    rw [List.map_map]
    apply List.map_congr_left
    intro x hx
    have : x ∈ ah := by have := (List.mem_filter.1 hx).2; simpa using this
    exact (place_in this).1
  rw [hT]
  congr 1
  have hfa : ∀ x ∈ O.filter (· ∈ ah), x ∈ ah ∧ x ∈ O := fun x hx => ⟨by have := (List.mem_filter.1 hx).2; simpa using this, (List.mem_filter.1 hx).1⟩
  have s2 : ((O.filter (· ∈ ah)).map ah.idxOf).Pairwise fun a b => keyS O ah a < keyS O ah b := by
    rw [List.pairwise_map]
    refine ((order_keys hO).filter _).imp_of_mem ?_
    intro a b ha hb h
    unfold keyS
    rw [getD_idx (hfa a ha).1, getD_idx (hfa b hb).1]
    exact h
  have n2 : ((O.filter (· ∈ ah)).map ah.idxOf).Nodup := s2.imp fun h e => by rw [e] at h; omega
  have n1 : (staysN O ah ah.length).Nodup := List.nodup_range.filter _
  have hperm : R.Perm ((O.filter (· ∈ ah)).map ah.idxOf) := by
    refine hp.trans ((List.perm_ext_iff_of_nodup n1 n2).2 fun i => ?_)
    constructor
    · intro hi
      obtain ⟨h1, h2⟩ := stays_lt hi
      have hs : ah[i]? = some (ah.getD i 0) := by rw [List.getD_eq_getElem?_getD, List.getElem?_eq_getElem h1]; rfl
      refine List.mem_map.2 ⟨ah.getD i 0, List.mem_filter.2 ⟨h2, by simpa using List.mem_of_getElem? hs⟩, ?_⟩
      have h9 := place_at hA hs
      rw [(place_in (List.mem_of_getElem? hs)).1] at h9
      omega
    · intro hi
      obtain ⟨x, hx, rfl⟩ := List.mem_map.1 hi
      obtain ⟨h1, h2⟩ := hfa x hx
      refine List.mem_filter.2 ⟨List.mem_range.2 (place_in h1).2.1, ?_⟩
      unfold staysB
      rw [getD_idx h1]
      simpa using h2
  refine List.Perm.eq_of_pairwise (le := fun a b => keyS O ah a ≤ keyS O ah b) ?_ hs (s2.imp fun h => by omega) hperm
  intro a b ha hb h1 h2
  have ha' := stays_lt (hp.mem_iff.1 ha)
  have hb' := stays_lt (hp.mem_iff.1 (hperm.mem_iff.2 hb))
  unfold keyS at h1 h2
  have he := place_inj ha'.2 hb'.2 (by omega)
  have e1 := place_at hA (i := a) (x := ah.getD a 0) (by rw [List.getD_eq_getElem?_getD, List.getElem?_eq_getElem ha'.1]; rfl)
  have e2 := place_at hA (i := b) (x := ah.getD b 0) (by rw [List.getD_eq_getElem?_getD, List.getElem?_eq_getElem hb'.1]; rfl)
  rw [he, e2] at e1
  omega
end Go.Proofs.YtabpnjakfoofpaaGreatDoor
/- Contracts of the library at this program, laid by the shelf: a row sorted by a function, numbers compared. -/
namespace Go.Proofs
open Go.Shelf Go.RowKit Go.Lib Go.Sort
def Tryz.lays122_ren : Go.Shelf.Ren := ⟨fun | 122 => 57 | 215 => 89 | n => n, fun | 3 => 3 | 4 => 4 | n => n, fun | n => n⟩
theorem Tryz.lays122 : Go.Proofs.Lays.n122 Tryz.prog Tryz.lays122_ren := {
  mixed := by kernel_rfl
  f122 := Tryz.func57.trans (congrArg some (by kernel_rfl))
  f215 := Tryz.func89.trans (congrArg some (by kernel_rfl))
  t3 := Tryz.underlying3
  a3 := Tryz.isAgg3
  z3 := Tryz.sizeOf3
  v3 := Tryz.zeroValue3
  t4 := Tryz.underlying4
  a4 := Tryz.isAgg4
  z4 := Tryz.sizeOf4
  v4 := Tryz.zeroValue4 }
theorem Tryz.cmp_Compare_int (x y : Int) (w : World) :
    Calls Tryz.prog 57 #[.int .i64 x, .int .i64 y] w fun e w' => e = .returned (.int .i64 (Lib.compareInt x y)) ∧ w' = w := Any.cmp_Compare_int Tryz.lays122 x y w
def Tryz.laysSlF6_f55_ren : Go.Shelf.Ren := ⟨fun | 6 => 55 | 15 => 50 | 14 => 88 | 28 => 84 | 29 => 85 | 20 => 107 | 21 => 108 | 22 => 109 | 23 => 110 | 24 => 111 | 25 => 112 | 26 => 113 | 27 => 114 | 46 => 122 | 47 => 100 | 48 => 101 | 49 => 123 | 50 => 124 | 57 => 126 | n => n, fun | 22 => 22 | 24 => 3 | 25 => 93 | 3 => 3 | 39 => 89 | 0 => 0 | 53 => 109 | 55 => 56 | 4 => 4 | 46 => 102 | 45 => 101 | 50 => 106 | 5 => 5 | 9 => 9 | 66 => 122 | 70 => 126 | 76 => 143 | 77 => 144 | n => n, fun | n => n⟩
theorem Tryz.laysSlF6_f55 : Go.Proofs.SlLaysF.n6 Tryz.prog Tryz.laysSlF6_f55_ren := {
  mixed := by kernel_rfl
  f6 := ⟨Tryz.f55.name, by decide, Tryz.func55.trans (congrArg some (by kernel_rfl))⟩
  f14 := ⟨Tryz.f88.name, by decide, Tryz.func88.trans (congrArg some (by kernel_rfl))⟩
  f15 := Tryz.func50.trans (congrArg some (by kernel_rfl))
  f20 := ⟨Tryz.f107.name, by decide, Tryz.func107.trans (congrArg some (by kernel_rfl))⟩
  f21 := ⟨Tryz.f108.name, by decide, Tryz.func108.trans (congrArg some (by kernel_rfl))⟩
  f22 := ⟨Tryz.f109.name, by decide, Tryz.func109.trans (congrArg some (by kernel_rfl))⟩
  f23 := ⟨Tryz.f110.name, by decide, Tryz.func110.trans (congrArg some (by kernel_rfl))⟩
  f24 := ⟨Tryz.f111.name, by decide, Tryz.func111.trans (congrArg some (by kernel_rfl))⟩
  f25 := ⟨Tryz.f112.name, by decide, Tryz.func112.trans (congrArg some (by kernel_rfl))⟩
  f26 := ⟨Tryz.f113.name, by decide, Tryz.func113.trans (congrArg some (by kernel_rfl))⟩
  f27 := ⟨Tryz.f114.name, by decide, Tryz.func114.trans (congrArg some (by kernel_rfl))⟩
  f28 := Tryz.func84.trans (congrArg some (by kernel_rfl))
  f29 := Tryz.func85.trans (congrArg some (by kernel_rfl))
  f46 := ⟨Tryz.f122.name, by decide, Tryz.func122.trans (congrArg some (by kernel_rfl))⟩
  f47 := Tryz.func100.trans (congrArg some (by kernel_rfl))
  f48 := Tryz.func101.trans (congrArg some (by kernel_rfl))
  f49 := ⟨Tryz.f123.name, by decide, Tryz.func123.trans (congrArg some (by kernel_rfl))⟩
  f50 := ⟨Tryz.f124.name, by decide, Tryz.func124.trans (congrArg some (by kernel_rfl))⟩
  f57 := ⟨Tryz.f126.name, by decide, Tryz.func126.trans (congrArg some (by kernel_rfl))⟩
  t0 := Tryz.underlying0
  a0 := Tryz.isAgg0
  z0 := Tryz.sizeOf0
  v0 := Tryz.zeroValue0
  t3 := Tryz.underlying3
  a3 := Tryz.isAgg3
  z3 := Tryz.sizeOf3
  v3 := Tryz.zeroValue3
  t4 := Tryz.underlying4
  a4 := Tryz.isAgg4
  z4 := Tryz.sizeOf4
  v4 := Tryz.zeroValue4
  t5 := Tryz.underlying5
  a5 := Tryz.isAgg5
  z5 := Tryz.sizeOf5
  v5 := Tryz.zeroValue5
  t9 := Tryz.underlying9
  a9 := Tryz.isAgg9
  z9 := Tryz.sizeOf9
  v9 := Tryz.zeroValue9
  t22 := Tryz.underlying22
  a22 := Tryz.isAgg22
  z22 := Tryz.sizeOf22
  v22 := Tryz.zeroValue22
  a24 := Tryz.isAgg3
  z24 := Tryz.sizeOf3
  t25 := Tryz.underlying93
  a25 := Tryz.isAgg93
  z25 := Tryz.sizeOf93
  v25 := Tryz.zeroValue93
  t39 := Tryz.underlying89
  a39 := Tryz.isAgg89
  z39 := Tryz.sizeOf89
  v39 := Tryz.zeroValue89
  t45 := Tryz.underlying101
  a45 := Tryz.isAgg101
  z45 := Tryz.sizeOf101
  v45 := Tryz.zeroValue101
  t46 := Tryz.underlying102
  a46 := Tryz.isAgg102
  z46 := Tryz.sizeOf102
  v46 := Tryz.zeroValue102
  t50 := Tryz.underlying106
  a50 := Tryz.isAgg106
  z50 := Tryz.sizeOf106
  v50 := Tryz.zeroValue106
  t53 := Tryz.underlying109
  a53 := Tryz.isAgg109
  z53 := Tryz.sizeOf109
  v53 := Tryz.zeroValue109
  t55 := Tryz.underlying56
  a55 := Tryz.isAgg56
  z55 := Tryz.sizeOf56
  v55 := Tryz.zeroValue56
  t66 := Tryz.underlying122
  a66 := Tryz.isAgg122
  z66 := Tryz.sizeOf122
  v66 := Tryz.zeroValue122
  t70 := Tryz.underlying126
  a70 := Tryz.isAgg126
  z70 := Tryz.sizeOf126
  v70 := Tryz.zeroValue126
  t76 := Tryz.underlying143
  a76 := Tryz.isAgg143
  z76 := Tryz.sizeOf143
  v76 := Tryz.zeroValue143
  t77 := Tryz.underlying144
  a77 := Tryz.isAgg144
  z77 := Tryz.sizeOf144
  v77 := Tryz.zeroValue144 }
theorem Tryz.slices_SortFunc {α : Type} [Inhabited α] (enc : α → Value) (h1 : OneCell enc) (cf : α → α → Int) (hO : SWO (ltOf cf)) (g : Nat) (cb : Array Value) (blk off cap : Nat) (d : Array α) (w : World) (eg : ∀ args w, (callFunc g args).run Tryz.prog w = .ok (.enter g args) w) (hcmp : CmpLays1 Tryz.prog g cb enc cf blk off d.size w) (hH : Holds enc w blk off d) (hblk : blk < w.heap.size) (hsz : d.size < 4611686018427387904) :
    Calls Tryz.prog 55 #[.slice (some ⟨blk, off, none⟩) d.size cap, .func (.func g) #[] cb] w fun e w' =>
      e = .returned (.tuple #[]) ∧ ∃ d' n os, PermIn 0 d.size d d' ∧ SortedIn (ltOf cf) 0 d.size d' ∧ w' = sortWorld enc w blk off n d' os := Any.slices_SortFunc Tryz.laysSlF6_f55 enc h1 cf hO g cb blk off cap d w eg hcmp hH hblk hsz
def Tryz.laysSlF06_f55_ren : Go.Shelf.Ren := ⟨fun | 6 => 55 | 15 => 50 | 14 => 88 | 28 => 84 | 29 => 85 | 20 => 107 | 21 => 108 | 22 => 109 | 23 => 110 | 24 => 111 | 25 => 112 | 26 => 113 | 27 => 114 | 46 => 122 | 47 => 100 | 48 => 101 | 49 => 123 | 50 => 124 | 57 => 126 | n => n, fun | 22 => 22 | 24 => 3 | 25 => 93 | 3 => 3 | 39 => 89 | 0 => 0 | 53 => 109 | 55 => 56 | 4 => 4 | 46 => 102 | 45 => 101 | 50 => 106 | 5 => 5 | 9 => 9 | 66 => 122 | 70 => 126 | 76 => 143 | 77 => 144 | n => n, fun | n => n⟩
theorem Tryz.laysSlF06_f55 : Go.Proofs.SlLaysF0.n6 Tryz.prog Tryz.laysSlF06_f55_ren := {
  mixed := by kernel_rfl
  f6 := ⟨Tryz.f55.name, by decide, Tryz.func55.trans (congrArg some (by kernel_rfl))⟩
  f14 := ⟨Tryz.f88.name, by decide, Tryz.func88.trans (congrArg some (by kernel_rfl))⟩
  f15 := Tryz.func50.trans (congrArg some (by kernel_rfl))
  f20 := ⟨Tryz.f107.name, by decide, Tryz.func107.trans (congrArg some (by kernel_rfl))⟩
  f21 := ⟨Tryz.f108.name, by decide, Tryz.func108.trans (congrArg some (by kernel_rfl))⟩
  f22 := ⟨Tryz.f109.name, by decide, Tryz.func109.trans (congrArg some (by kernel_rfl))⟩
  f23 := ⟨Tryz.f110.name, by decide, Tryz.func110.trans (congrArg some (by kernel_rfl))⟩
  f24 := ⟨Tryz.f111.name, by decide, Tryz.func111.trans (congrArg some (by kernel_rfl))⟩
  f25 := ⟨Tryz.f112.name, by decide, Tryz.func112.trans (congrArg some (by kernel_rfl))⟩
  f26 := ⟨Tryz.f113.name, by decide, Tryz.func113.trans (congrArg some (by kernel_rfl))⟩
  f27 := ⟨Tryz.f114.name, by decide, Tryz.func114.trans (congrArg some (by kernel_rfl))⟩
  f28 := Tryz.func84.trans (congrArg some (by kernel_rfl))
  f29 := Tryz.func85.trans (congrArg some (by kernel_rfl))
  f46 := ⟨Tryz.f122.name, by decide, Tryz.func122.trans (congrArg some (by kernel_rfl))⟩
  f47 := Tryz.func100.trans (congrArg some (by kernel_rfl))
  f48 := Tryz.func101.trans (congrArg some (by kernel_rfl))
  f49 := ⟨Tryz.f123.name, by decide, Tryz.func123.trans (congrArg some (by kernel_rfl))⟩
  f50 := ⟨Tryz.f124.name, by decide, Tryz.func124.trans (congrArg some (by kernel_rfl))⟩
  f57 := ⟨Tryz.f126.name, by decide, Tryz.func126.trans (congrArg some (by kernel_rfl))⟩
  t0 := Tryz.underlying0
  a0 := Tryz.isAgg0
  z0 := Tryz.sizeOf0
  v0 := Tryz.zeroValue0
  t3 := Tryz.underlying3
  a3 := Tryz.isAgg3
  z3 := Tryz.sizeOf3
  v3 := Tryz.zeroValue3
  t4 := Tryz.underlying4
  a4 := Tryz.isAgg4
  z4 := Tryz.sizeOf4
  v4 := Tryz.zeroValue4
  t5 := Tryz.underlying5
  a5 := Tryz.isAgg5
  z5 := Tryz.sizeOf5
  v5 := Tryz.zeroValue5
  t9 := Tryz.underlying9
  a9 := Tryz.isAgg9
  z9 := Tryz.sizeOf9
  v9 := Tryz.zeroValue9
  t22 := Tryz.underlying22
  a22 := Tryz.isAgg22
  z22 := Tryz.sizeOf22
  v22 := Tryz.zeroValue22
  t25 := Tryz.underlying93
  a25 := Tryz.isAgg93
  z25 := Tryz.sizeOf93
  v25 := Tryz.zeroValue93
  t39 := Tryz.underlying89
  a39 := Tryz.isAgg89
  z39 := Tryz.sizeOf89
  v39 := Tryz.zeroValue89
  t45 := Tryz.underlying101
  a45 := Tryz.isAgg101
  z45 := Tryz.sizeOf101
  v45 := Tryz.zeroValue101
  t46 := Tryz.underlying102
  a46 := Tryz.isAgg102
  z46 := Tryz.sizeOf102
  v46 := Tryz.zeroValue102
  t50 := Tryz.underlying106
  a50 := Tryz.isAgg106
  z50 := Tryz.sizeOf106
  v50 := Tryz.zeroValue106
  t53 := Tryz.underlying109
  a53 := Tryz.isAgg109
  z53 := Tryz.sizeOf109
  v53 := Tryz.zeroValue109
  t55 := Tryz.underlying56
  a55 := Tryz.isAgg56
  z55 := Tryz.sizeOf56
  v55 := Tryz.zeroValue56
  t66 := Tryz.underlying122
  a66 := Tryz.isAgg122
  z66 := Tryz.sizeOf122
  v66 := Tryz.zeroValue122
  t70 := Tryz.underlying126
  a70 := Tryz.isAgg126
  z70 := Tryz.sizeOf126
  v70 := Tryz.zeroValue126
  t76 := Tryz.underlying143
  a76 := Tryz.isAgg143
  z76 := Tryz.sizeOf143
  v76 := Tryz.zeroValue143
  t77 := Tryz.underlying144
  a77 := Tryz.isAgg144
  z77 := Tryz.sizeOf144
  v77 := Tryz.zeroValue144 }
theorem Tryz.slices_SortFunc_none {α : Type} [Inhabited α] (p : Option Addr) (cap : Nat) (fv : Value) (w : World) :
    Calls Tryz.prog 55 #[.slice p 0 cap, fv] w fun e w' => e = .returned (.tuple #[]) ∧ w' = w := AnyF.slices_SortFunc_none Tryz.laysSlF06_f55 p cap fv w
end Go.Proofs
/- Which blocks ahead stay, in memory: how two of them are held against each other; sorted. -/
namespace Go.Proofs.YtabpnjakfoofpaaGreatDoor
open Go.RowKit

theorem putRow_as {α : Type} [Inhabited α] (f : α → Int) (w : World) (blk off : Nat) (d : Array α) : Sort.putRow (fun x => Value.int .i64 (f x)) w blk off d = Sort.putRow (Value.int .i64) w blk off (d.map f) := by
  unfold Sort.putRow
  congr 1
  funext c
  unfold Sort.putCells
  congr 1
  funext k x
  rw [Array.size_map]
  by_cases h : off ≤ k ∧ k < off + d.size
  · rw [if_pos h, if_pos h]
    have hk : k - off < d.size := by omega
    rw [getElem!_pos d _ hk, getElem!_pos (d.map f) _ (by simpa using hk)]
    simp
  · rw [if_neg h, if_neg h]
set_option maxRecDepth 100000 in
set_option maxHeartbeats 2000000 in
theorem stayc_any {w0 W : World} {O ah : List Int} {n bp ba : Nat} {pa aa : Option Addr} {pc ac : Nat} (hp : IntsAt w0 (.slice pa n pc) (placesL O n)) (ha : IntsAt w0 (.slice aa ah.length ac) ah) (cp : w0.cell? ⟨bp, 0, none⟩ = some (.slice pa n pc)) (ca : w0.cell? ⟨ba, 0, none⟩ = some (.slice aa ah.length ac)) (lp : bp < w0.heap.size) (la : ba < w0.heap.size)
    (hin : ∀ x ∈ ah, ∃ k : Nat, x = (k : Int) ∧ k < n) (hb : Below w0.heap.size w0 W) (x y : Nat) (hx : x < ah.length) (hy : y < ah.length) :
    Calls Tryz.prog 56 #[.int .i64 (x : Int), .int .i64 (y : Int), ptr bp, ptr ba] W fun e w' => e = .returned (.int .i64 (Lib.compareInt (keyS O ah x) (keyS O ah y))) ∧ ∃ q, w' = W.drewN q := by
  have hget : ∀ i, i < ah.length → ∃ k : Nat, ah.getD i 0 = (k : Int) ∧ k < n := fun i hi => hin _ (by rw [List.getD_eq_getElem?_getD, List.getElem?_eq_getElem hi]; exact List.getElem_mem hi)
  obtain ⟨k1, e1, l1⟩ := hget x hx
  obtain ⟨k2, e2, l2⟩ := hget y hy
  obtain ⟨ga, oa, rfl, hga, c1⟩ := ha.get hx
  obtain ⟨ga', oa', hh, _, c2⟩ := ha.get hy
  injection hh with hh
  injection hh with y1 y2
  subst y1 y2
  have hl : (placesL O n).length = n := places_len O n
  obtain ⟨gp, op, rfl, hgp, d1⟩ := hp.get (i := k1) (by rw [hl]; exact l1)
  obtain ⟨gp', op', hh, _, d2⟩ := hp.get (i := k2) (by rw [hl]; exact l2)
  injection hh with hh
  injection hh with y1 y2
  subst y1 y2
  rw [places_get l1] at d1
  rw [places_get l2] at d2
  have q1 : keyS O ah x = placeOf O (k1 : Int) := by unfold keyS; rw [e1]
  have q2 : keyS O ah y = placeOf O (k2 : Int) := by unfold keyS; rw [e2]
  rw [q1, q2]
  rw [e1] at c1
  rw [e2] at c2
  have cp' := (hb.cell (p := ⟨bp, 0, none⟩) lp).trans cp
  have ca' := (hb.cell (p := ⟨ba, 0, none⟩) la).trans ca
  have c1' := (hb.cell (p := ⟨ga, oa + x, none⟩) hga).trans c1
  have c2' := (hb.cell (p := ⟨ga, oa + y, none⟩) hga).trans c2
  have d1' := (hb.cell (p := ⟨gp, op + k1, none⟩) hgp).trans d1
  have d2' := (hb.cell (p := ⟨gp, op + k2, none⟩) hgp).trans d2
  have HCP : Hid (∀ a b W, Calls Tryz.prog 57 #[.int .i64 a, .int .i64 b] W fun e w' => e = .returned (.int .i64 (Lib.compareInt a b)) ∧ w' = W) := fun a b W => Tryz.cmp_Compare_int a b W
  generalize placeOf O (k1 : Int) = v1 at *
  generalize placeOf O (k2 : Int) = v2 at *
  have hx' : (x : Int) < (ah.length : Int) := by omega
  have hy' : (y : Int) < (ah.length : Int) := by omega
  have l1' : (k1 : Int) < (n : Int) := by omega
  have l2' : (k2 : Int) < (n : Int) := by omega
  clear hp ha cp ca hin hget e1 e2 c1 c2 d1 d2 q1 q2 hl
  generalize ah.length = m at *
  go_enter Tryz.func56, Tryz.ntmps56
  go_wp2
  go_quiet ((go_at_call 57; exact Calls.quiet_of_same (HCP.out _ _ _)))
  go_wp2
  go_ret
  exact ⟨rfl, _, rfl⟩
end Go.Proofs.YtabpnjakfoofpaaGreatDoor
/- Which blocks ahead stay, in memory. -/
namespace Go.Proofs.YtabpnjakfoofpaaGreatDoor
open Go.RowKit

theorem holds_as {α : Type} [Inhabited α] (f : α → Int) {w : World} {blk off : Nat} {d : Array α} (h : Sort.Holds (Value.int .i64) w blk off (d.map f)) : Sort.Holds (fun x => Value.int .i64 (f x)) w blk off d := fun j hj => by
  have h9 := h j (by simpa using hj)
  rw [getElem!_pos (d.map f) _ (by simpa using hj), Array.getElem_map] at h9
  rw [getElem!_pos d _ hj]
  exact h9
def cmpS (O ah : List Int) (m : Nat) (x y : Fin m) : Int := Lib.compareInt (keyS O ah x.val) (keyS O ah y.val)
theorem ltS {O ah : List Int} {m : Nat} (x y : Fin m) : ltOf (cmpS O ah m) x y = decide (keyS O ah x.val < keyS O ah y.val) := by
  unfold ltOf cmpS Lib.compareInt
  generalize keyS O ah x.val = a
  generalize keyS O ah y.val = b
  by_cases h1 : a < b
  · simp [h1]
  · by_cases h2 : b < a <;> simp [h1, h2]
theorem swoS (O ah : List Int) (m : Nat) : Sort.SWO (ltOf (cmpS O ah m)) where
  irrefl x := by rw [ltS]; simp
  trans x y z h1 h2 := by rw [ltS] at *; simp at *; omega
  ntrans x y z h1 h2 := by rw [ltS] at *; simp at *; omega
theorem sort_stay {w0 w : World} {O ah : List Int} {n bp ba base : Nat} {v : Value} {pa aa : Option Addr} {pc ac : Nat} (hO : O.Nodup) (hA : ah.Nodup) (hp : IntsAt w0 (.slice pa n pc) (placesL O n)) (ha : IntsAt w0 (.slice aa ah.length ac) ah) (cp : w0.cell? ⟨bp, 0, none⟩ = some (.slice pa n pc)) (ca : w0.cell? ⟨ba, 0, none⟩ = some (.slice aa ah.length ac)) (lp : bp < w0.heap.size) (la : ba < w0.heap.size)
    (hin : ∀ x ∈ ah, ∃ k : Nat, x = (k : Int) ∧ k < n) (hb : Below w0.heap.size w0 w) (hbase : w0.heap.size ≤ base) (hl : ah.length ≤ 1000000) (h : OwnI w base v ((staysN O ah ah.length).map fun i => ((i : Nat) : Int))) :
    Calls Tryz.prog 55 #[v, .func (.func 56) #[] #[ptr bp, ptr ba]] w fun e w' => e = .returned (.tuple #[]) ∧ OwnI w' base v (stayP O ah) ∧ w.grownBy w' v.ownBlock := by
  rcases h.2 with ⟨rfl, h0⟩ | ⟨g, cap, cur, rfl, h1, hh, h2, h3, h4, h5⟩
  · have hn : staysN O ah ah.length = [] := List.eq_nil_of_length_eq_zero (by simpa using h0)
    have he : ([] : List Int) = stayP O ah := stay_unique hO hA (R := []) (by rw [hn]) List.Pairwise.nil
    rw [hn] at h
    refine (Tryz.slices_SortFunc_none (α := Nat) none 0 _ w).mono ?_
    rintro e w' ⟨rfl, rfl⟩
    refine ⟨rfl, ?_, grownBy_refl _ _⟩
    rw [← he]
    exact h
  · by_cases hm0 : ah.length = 0
    · have hn : staysN O ah ah.length = [] := by rw [hm0]; rfl
      have he : ([] : List Int) = stayP O ah := stay_unique hO hA (R := []) (by rw [hn]) List.Pairwise.nil
      rw [hn] at h
      rw [hn]
      refine (Tryz.slices_SortFunc_none (α := Nat) _ cap _ w).mono ?_
      rintro e w' ⟨rfl, rfl⟩
      refine ⟨rfl, ?_, grownBy_refl _ _⟩
      rw [← he]
      exact h
    · haveI : Inhabited (Fin ah.length) := ⟨⟨0, by omega⟩⟩
      obtain ⟨D, hD⟩ : ∃ D : List (Fin ah.length), D.map Fin.val = staysN O ah ah.length := by
        refine ⟨(staysN O ah ah.length).attach.map fun i => ⟨i.val, (stays_lt i.property).1⟩, ?_⟩
        rw [List.map_map]
        exact List.attach_map_subtype_val _
      have hDl : D.length = (staysN O ah ah.length).length := by rw [← hD]; simp
      have hDm : (D.toArray.map fun i => ((i.val : Nat) : Int)) = ((staysN O ah ah.length).map fun i => ((i : Nat) : Int)).toArray := by
        rw [← hD, List.map_map]
        simp
      have hH0 := holds_of_blockI (ss := (staysN O ah ah.length).map fun i => ((i : Nat) : Int)) hh (by simpa using h5)
      rw [← hDm] at hH0
      have hH := holds_as (fun i : Fin ah.length => ((i.val : Nat) : Int)) hH0
      have eg : ∀ args w, (callFunc 56 args).run Tryz.prog w = .ok (.enter 56 args) w := enters_of Tryz.func56 (by kernel_rfl) rfl
      have hgb : ∀ (mm : Nat) (os : Array Obj) (dk : Array (Fin ah.length)), w.grownBy (sortWorld (fun i : Fin ah.length => Value.int .i64 ((i.val : Nat) : Int)) w g 0 mm dk os) (some g) := fun mm os dk => by
        unfold sortWorld
        rw [putRow_as (fun i : Fin ah.length => ((i.val : Nat) : Int))]
        exact grownBy_sortedI _
      have hcmp : CmpReads Tryz.prog 56 #[ptr bp, ptr ba] (fun i : Fin ah.length => Value.int .i64 ((i.val : Nat) : Int)) (cmpS O ah ah.length) g 0 D.toArray.size w := fun mm os dk _ x y =>
        stayc_any hp ha cp ca lp la hin (below_grown hb (hgb mm os dk) (fun q hq => by cases hq; omega)) x.val y.val x.isLt y.isLt
      have hcon := Tryz.slices_SortFunc (fun i : Fin ah.length => Value.int .i64 ((i.val : Nat) : Int)) (fun _ => rfl) (cmpS O ah ah.length) (swoS O ah ah.length) 56 #[ptr bp, ptr ba] g 0 cap D.toArray w eg hcmp.lays hH (Array.getElem?_eq_some_iff.1 hh).1 (by have := stays_len O ah ah.length; simp; omega)
      have hsz : D.toArray.size = ((staysN O ah ah.length).map fun i => ((i : Nat) : Int)).length := by simp [hDl]
      rw [hsz] at hcon
      refine hcon.mono ?_
      rintro e w' ⟨rfl, d', nn, os, hperm, hsort, rfl⟩
      obtain ⟨s1, _, s3⟩ := hperm
      have hds : d'.size = D.length := by rw [s1]; simp
      have hR : (d'.toList.map Fin.val).Perm (staysN O ah ah.length) := by
        rw [← hD]
        refine List.Perm.map _ ?_
        have x1 : (d'.extract 0 D.toArray.size).toList = d'.toList := by rw [List.size_toArray, ← hds, Array.extract_size]
        have x2 : (D.toArray.extract 0 D.toArray.size).toList = D := by rw [Array.extract_size]
        rw [← hsz] at s3
        rw [x1, x2] at s3
        exact s3
      have hS : (d'.toList.map Fin.val).Pairwise fun a b => keyS O ah a ≤ keyS O ah b := by
        rw [List.pairwise_map, List.pairwise_iff_getElem]
        intro i j hi hj hij
        have hi' : i < d'.size := by simpa using hi
        have hj' : j < d'.size := by simpa using hj
        have h9 := hsort i j (Nat.zero_le _) hij (by rw [← hsz, List.size_toArray]; omega)
        rw [ltS, getElem!_pos d' _ hj', getElem!_pos d' _ hi'] at h9
        have h8 := of_decide_eq_false h9
        simp only [Array.getElem_toList]
        omega
      have hE := stay_unique hO hA hR hS
      have hts : (d'.map fun i : Fin ah.length => ((i.val : Nat) : Int)) = (stayP O ah).toArray := by
        rw [← hE, List.map_map]
        apply Array.ext'
        simp
      refine ⟨rfl, ?_, hgb _ _ _⟩
      unfold sortWorld
      rw [putRow_as (fun i : Fin ah.length => ((i.val : Nat) : Int)), hts]
      have hln : (stayP O ah).length = ((staysN O ah ah.length).map fun i => ((i : Nat) : Int)).length := by rw [← hE, List.length_map, List.length_map, List.length_map]; have := hR.length_eq; simpa using this
      have h9 := ownsRow_sortedI (ts := stayP O ah) (n := nn) (os := os) hln h1 hh h2 h3 h4
      show World.ownsRow _ _ _ _ _ _ _
      rw [hln]
      exact h9
end Go.Proofs.YtabpnjakfoofpaaGreatDoor
