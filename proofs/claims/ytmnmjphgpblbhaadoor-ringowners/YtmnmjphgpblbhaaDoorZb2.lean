/- The shelf's contracts that the ring needs, at this program, laid by the shelf's tool in plain words. -/
import Derived.Shelf.Strconv.Itoa3
import Derived.Shelf.SlSortCmp.NoneTotal
import Derived.Shelf.SlicesQ.IndexFunc
import Derived.Ground.SlsfProg
import Derived.Ground.SlgfProg
import Derived.Test.YtmnmjphgpblbhaaDoorProg
import Derived.Test.YtmnmjphgpblbhaaDoorZb1
import Derived.RegionTactic
import Derived.Deep.RegionHeld3
import Derived.Sort.Grow
namespace Go.Proofs
open Go.Shelf
def Tryd.lays171_ren : Go.Shelf.Ren := ⟨fun | 171 => 41 | 243 => 52 | 246 => 64 | 283 => 80 | 284 => 81 | 285 => 82 | 286 => 83 | 129 => 75 | 317 => 90 | 318 => 91 | 319 => 92 | 320 => 93 | 337 => 95 | 338 => 96 | n => n, fun | 3 => 3 | 9 => 9 | 2 => 2 | 4 => 4 | 171 => 99 | 0 => 0 | 53 => 22 | 37 => 70 | 5 => 5 | 173 => 101 | 212 => 111 | 51 => 90 | 20 => 20 | 213 => 112 | 46 => 62 | 232 => 116 | 233 => 117 | n => n, fun | 17 => 2 | 18 => 3 | 19 => 4 | n => n⟩
theorem Tryd.lays171 : Go.Proofs.Lays.n171 Tryd.prog Tryd.lays171_ren := {
  mixed := by kernel_rfl
  f129 := Tryd.func75.trans (congrArg some (by kernel_rfl))
  f171 := Tryd.func41.trans (congrArg some (by kernel_rfl))
  f243 := Tryd.func52.trans (congrArg some (by kernel_rfl))
  f246 := Tryd.func64.trans (congrArg some (by kernel_rfl))
  f283 := Tryd.func80.trans (congrArg some (by kernel_rfl))
  f284 := Tryd.func81.trans (congrArg some (by kernel_rfl))
  f285 := Tryd.func82.trans (congrArg some (by kernel_rfl))
  f286 := Tryd.func83.trans (congrArg some (by kernel_rfl))
  f317 := Tryd.func90.trans (congrArg some (by kernel_rfl))
  f318 := Tryd.func91.trans (congrArg some (by kernel_rfl))
  f319 := Tryd.func92.trans (congrArg some (by kernel_rfl))
  f320 := Tryd.func93.trans (congrArg some (by kernel_rfl))
  f337 := Tryd.func95.trans (congrArg some (by kernel_rfl))
  f338 := Tryd.func96.trans (congrArg some (by kernel_rfl))
  t0 := Tryd.underlying0
  a0 := Tryd.isAgg0
  z0 := Tryd.sizeOf0
  v0 := Tryd.zeroValue0
  t2 := Tryd.underlying2
  a2 := Tryd.isAgg2
  z2 := Tryd.sizeOf2
  v2 := Tryd.zeroValue2
  t3 := Tryd.underlying3
  a3 := Tryd.isAgg3
  z3 := Tryd.sizeOf3
  v3 := Tryd.zeroValue3
  t4 := Tryd.underlying4
  a4 := Tryd.isAgg4
  z4 := Tryd.sizeOf4
  v4 := Tryd.zeroValue4
  t5 := Tryd.underlying5
  a5 := Tryd.isAgg5
  z5 := Tryd.sizeOf5
  v5 := Tryd.zeroValue5
  t9 := Tryd.underlying9
  a9 := Tryd.isAgg9
  z9 := Tryd.sizeOf9
  v9 := Tryd.zeroValue9
  t20 := Tryd.underlying20
  a20 := Tryd.isAgg20
  z20 := Tryd.sizeOf20
  v20 := Tryd.zeroValue20
  t37 := Tryd.underlying70
  a37 := Tryd.isAgg70
  z37 := Tryd.sizeOf70
  v37 := Tryd.zeroValue70
  t46 := Tryd.underlying62
  a46 := Tryd.isAgg62
  z46 := Tryd.sizeOf62
  v46 := Tryd.zeroValue62
  t51 := Tryd.underlying90
  a51 := Tryd.isAgg90
  z51 := Tryd.sizeOf90
  v51 := Tryd.zeroValue90
  t53 := Tryd.underlying22
  a53 := Tryd.isAgg22
  z53 := Tryd.sizeOf22
  v53 := Tryd.zeroValue22
  t171 := Tryd.underlying99
  a171 := Tryd.isAgg99
  z171 := Tryd.sizeOf99
  v171 := Tryd.zeroValue99
  t173 := Tryd.underlying101
  a173 := Tryd.isAgg101
  z173 := Tryd.sizeOf101
  v173 := Tryd.zeroValue101
  t212 := Tryd.underlying111
  a212 := Tryd.isAgg111
  z212 := Tryd.sizeOf111
  v212 := Tryd.zeroValue111
  t213 := Tryd.underlying112
  a213 := Tryd.isAgg112
  z213 := Tryd.sizeOf112
  t232 := Tryd.underlying116
  a232 := Tryd.isAgg116
  z232 := Tryd.sizeOf116
  v232 := Tryd.zeroValue116
  t233 := Tryd.underlying117
  a233 := Tryd.isAgg117
  z233 := Tryd.sizeOf117
  v233 := Tryd.zeroValue117
  g17 := by kernel_rfl
  g18 := by kernel_rfl
  g19 := by kernel_rfl }
open Go.RowKit in
theorem Tryd.strconv_Itoa_small (i : Nat) (hi : i < 100) (w : World) :
    Calls Tryd.prog 41 #[.int .i64 i] w fun e w' => e = .returned (.string ⟨(Lib.itoa i).toArray⟩) ∧ w' = w := Any.strconv_Itoa_small Tryd.lays171 i hi w
def Tryd.sortSt_ren : Go.Shelf.Ren := ⟨fun | 6 => 46 | 15 => 57 | 14 => 56 | 28 => 74 | 29 => 75 | 20 => 66 | 21 => 67 | 22 => 68 | 23 => 69 | 24 => 70 | 25 => 71 | 26 => 72 | 27 => 73 | 46 => 84 | 47 => 85 | 48 => 86 | 49 => 87 | 50 => 88 | 57 => 94 | n => n, fun | 22 => 48 | 24 => 51 | 25 => 64 | 3 => 3 | 39 => 62 | 0 => 0 | 53 => 90 | 55 => 22 | 4 => 4 | 46 => 84 | 45 => 83 | 50 => 29 | 5 => 5 | 9 => 9 | 66 => 103 | 70 => 107 | 76 => 113 | 77 => 114 | n => n, fun | n => n⟩
theorem Tryd.sortSt : Go.Proofs.SlLaysF0.n6 Tryd.prog Tryd.sortSt_ren := {
  mixed := by kernel_rfl
  f6 := ⟨Tryd.f46.name, by decide, Tryd.func46.trans (congrArg some (by kernel_rfl))⟩
  f14 := ⟨Tryd.f56.name, by decide, Tryd.func56.trans (congrArg some (by kernel_rfl))⟩
  f15 := Tryd.func57.trans (congrArg some (by kernel_rfl))
  f20 := ⟨Tryd.f66.name, by decide, Tryd.func66.trans (congrArg some (by kernel_rfl))⟩
  f21 := ⟨Tryd.f67.name, by decide, Tryd.func67.trans (congrArg some (by kernel_rfl))⟩
  f22 := ⟨Tryd.f68.name, by decide, Tryd.func68.trans (congrArg some (by kernel_rfl))⟩
  f23 := ⟨Tryd.f69.name, by decide, Tryd.func69.trans (congrArg some (by kernel_rfl))⟩
  f24 := ⟨Tryd.f70.name, by decide, Tryd.func70.trans (congrArg some (by kernel_rfl))⟩
  f25 := ⟨Tryd.f71.name, by decide, Tryd.func71.trans (congrArg some (by kernel_rfl))⟩
  f26 := ⟨Tryd.f72.name, by decide, Tryd.func72.trans (congrArg some (by kernel_rfl))⟩
  f27 := ⟨Tryd.f73.name, by decide, Tryd.func73.trans (congrArg some (by kernel_rfl))⟩
  f28 := Tryd.func74.trans (congrArg some (by kernel_rfl))
  f29 := Tryd.func75.trans (congrArg some (by kernel_rfl))
  f46 := ⟨Tryd.f84.name, by decide, Tryd.func84.trans (congrArg some (by kernel_rfl))⟩
  f47 := Tryd.func85.trans (congrArg some (by kernel_rfl))
  f48 := Tryd.func86.trans (congrArg some (by kernel_rfl))
  f49 := ⟨Tryd.f87.name, by decide, Tryd.func87.trans (congrArg some (by kernel_rfl))⟩
  f50 := ⟨Tryd.f88.name, by decide, Tryd.func88.trans (congrArg some (by kernel_rfl))⟩
  f57 := ⟨Tryd.f94.name, by decide, Tryd.func94.trans (congrArg some (by kernel_rfl))⟩
  t0 := Tryd.underlying0
  a0 := Tryd.isAgg0
  z0 := Tryd.sizeOf0
  v0 := Tryd.zeroValue0
  t3 := Tryd.underlying3
  a3 := Tryd.isAgg3
  z3 := Tryd.sizeOf3
  v3 := Tryd.zeroValue3
  t4 := Tryd.underlying4
  a4 := Tryd.isAgg4
  z4 := Tryd.sizeOf4
  v4 := Tryd.zeroValue4
  t5 := Tryd.underlying5
  a5 := Tryd.isAgg5
  z5 := Tryd.sizeOf5
  v5 := Tryd.zeroValue5
  t9 := Tryd.underlying9
  a9 := Tryd.isAgg9
  z9 := Tryd.sizeOf9
  v9 := Tryd.zeroValue9
  t22 := Tryd.underlying48
  a22 := Tryd.isAgg48
  z22 := Tryd.sizeOf48
  v22 := Tryd.zeroValue48
  t25 := Tryd.underlying64
  a25 := Tryd.isAgg64
  z25 := Tryd.sizeOf64
  v25 := Tryd.zeroValue64
  t39 := Tryd.underlying62
  a39 := Tryd.isAgg62
  z39 := Tryd.sizeOf62
  v39 := Tryd.zeroValue62
  t45 := Tryd.underlying83
  a45 := Tryd.isAgg83
  z45 := Tryd.sizeOf83
  v45 := Tryd.zeroValue83
  t46 := Tryd.underlying84
  a46 := Tryd.isAgg84
  z46 := Tryd.sizeOf84
  v46 := Tryd.zeroValue84
  t50 := Tryd.underlying29
  a50 := Tryd.isAgg29
  z50 := Tryd.sizeOf29
  v50 := Tryd.zeroValue29
  t53 := Tryd.underlying90
  a53 := Tryd.isAgg90
  z53 := Tryd.sizeOf90
  v53 := Tryd.zeroValue90
  t55 := Tryd.underlying22
  a55 := Tryd.isAgg22
  z55 := Tryd.sizeOf22
  v55 := Tryd.zeroValue22
  t66 := Tryd.underlying103
  a66 := Tryd.isAgg103
  z66 := Tryd.sizeOf103
  v66 := Tryd.zeroValue103
  t70 := Tryd.underlying107
  a70 := Tryd.isAgg107
  z70 := Tryd.sizeOf107
  v70 := Tryd.zeroValue107
  t76 := Tryd.underlying113
  a76 := Tryd.isAgg113
  z76 := Tryd.sizeOf113
  v76 := Tryd.zeroValue113
  t77 := Tryd.underlying114
  a77 := Tryd.isAgg114
  z77 := Tryd.sizeOf114
  v77 := Tryd.zeroValue114 }
def Tryd.idxSt_ren : Go.Shelf.Ren := ⟨fun | 6 => 48 | n => n, fun | 22 => 48 | 23 => 51 | 25 => 66 | 3 => 3 | 0 => 0 | 4 => 4 | n => n, fun | n => n⟩
theorem Tryd.idxSt : Go.Proofs.SlLaysH0.n6 Tryd.prog Tryd.idxSt_ren := {
  mixed := by kernel_rfl
  f6 := ⟨Tryd.f48.name, by decide, Tryd.func48.trans (congrArg some (by kernel_rfl))⟩
  t0 := Tryd.underlying0
  a0 := Tryd.isAgg0
  z0 := Tryd.sizeOf0
  v0 := Tryd.zeroValue0
  t3 := Tryd.underlying3
  a3 := Tryd.isAgg3
  z3 := Tryd.sizeOf3
  v3 := Tryd.zeroValue3
  t4 := Tryd.underlying4
  a4 := Tryd.isAgg4
  z4 := Tryd.sizeOf4
  v4 := Tryd.zeroValue4
  t22 := Tryd.underlying48
  a22 := Tryd.isAgg48
  z22 := Tryd.sizeOf48
  v22 := Tryd.zeroValue48
  t25 := Tryd.underlying66
  a25 := Tryd.isAgg66
  z25 := Tryd.sizeOf66
  v25 := Tryd.zeroValue66 }
end Go.Proofs
/- ring.isNode, Nodes, Point, compareStands and what they call: walks. -/
namespace Go.Proofs.YtmnmjphgpblbhaaDoor
open Go.RowKit

def isN (x : Int) : Bool := decide (1 ≤ x) && decide (x ≤ 15)
theorem isN_of {x : Int} (h1 : 1 ≤ x) (h2 : x ≤ 15) : isN x = true := by simp [isN, h1, h2]
theorem isN_get {x : Int} (h : isN x = true) : 1 ≤ x ∧ x ≤ 15 := by simpa [isN] using h
theorem isNode_any (x : Int) (w : World) : Calls Tryd.prog 34 #[.int .i64 x] w fun e w' => e = .returned (.bool (isN x)) ∧ w' = w := by
  by_cases h1 : 1 ≤ x
  · have d1 : decide (1 ≤ x) = true := by simpa using h1
    by_cases h2 : x ≤ 15
    · have d2 : decide (x ≤ 15) = true := by simpa using h2
      rw [isN_of h1 h2]
      go_enter Tryd.func34, Tryd.ntmps34
      go_wp2
      go_ret
      exact ⟨rfl, rfl⟩
    · have d2 : decide (x ≤ 15) = false := by simpa using h2
      have e : isN x = false := by simp [isN, h2]
      rw [e]
      go_enter Tryd.func34, Tryd.ntmps34
      go_wp2
      go_ret
      exact ⟨rfl, rfl⟩
  · have d1 : decide (1 ≤ x) = false := by simpa using h1
    have e : isN x = false := by simp [isN, h1]
    rw [e]
    go_enter Tryd.func34, Tryd.ntmps34
    go_wp2
    go_ret
    exact ⟨rfl, rfl⟩
/-- The ints of a row. -/
def iCells (l : List Int) : List Value := l.map (Value.int .i64)
theorem iCells_at {w : World} {a : Option Addr} {cap n : Nat} {l : List Int} (h : IsRow w 1 (.slice a n cap) l.length (iCells l)) (h0 : 0 < l.length) :
    ∃ b off, a = some ⟨b, off, none⟩ ∧ n = l.length ∧ b < w.heap.size ∧ l.length ≤ cap ∧ ∀ (k : Nat) (hk : k < l.length), w.cell? ⟨b, off + k, none⟩ = some (.int .i64 l[k]) := by
  obtain ⟨b, off, cap', hv, hlt, q1, q2, hc⟩ := h.open (by omega)
  simp only [Value.slice.injEq] at hv
  exact ⟨b, off, hv.1, hv.2.1, hlt, by omega, fun k hk => hc k _ (by simp [iCells, hk])⟩
/-- May the number at a place be there? -/
def okAt (l : List Int) (k : Nat) (h : k < l.length) : Prop := 1 ≤ l[k] ∧ l[k] ≤ 15 ∧ ∀ (j : Nat) (e : j + 1 = k), l[j]'(by omega) < l[k]
set_option maxRecDepth 100000 in
set_option maxHeartbeats 1000000 in
theorem nodes_any (v : Value) (l : List Int) (w : World) (hr : IsRow w 1 v l.length (iCells l)) (hl : l.length ≤ 1000000) :
    Calls Tryd.prog 13 #[v] w fun e w' => e = .returned (.bool (nodesB l)) ∧ w' = w := by
  obtain ⟨a0, cap0, rfl⟩ := hr.form
  have HR : Hid (IsRow w 1 (.slice a0 l.length cap0) l.length (iCells l)) := hr
  clear hr
  go_enter Tryd.func13, Tryd.ntmps13
  go_wp2_with fail
  go_loopw [2, 7] (fun r i wr => r = .bool false ∧ ∃ k : Nat, k ≤ l.length ∧ i = .int .i64 (k : Int) ∧ Hid (∀ (j : Nat) (h : j < l.length), j < k → okAt l j h) ∧ w = wr) (fun _ i _ => l.length - (intOf i).toNat)
  case atStart => exact ⟨rfl, 0, Nat.zero_le _, rfl, fun j h hj => absurd hj (Nat.not_lt_zero _), rfl⟩
  case round =>
    obtain ⟨rfl, k, hk, rfl, HO, rfl⟩ := hrel
    by_cases hlk : k < l.length
    · have dk : decide ((k : Int) < l.length) = true := by simp; omega
      obtain ⟨b, off, rfl, -, hlt, hcap, hc⟩ := iCells_at HR.out (by omega)
      have ck := hc k hlk
      by_cases hok : okAt l k hlk
      · have HO2 : Hid (∀ (j : Nat) (h : j < l.length), j < k + 1 → okAt l j h) := fun j h hj => by
          by_cases e : j = k
          · subst e; exact hok
          · exact HO.out j h (by omega)
        have hi : isN l[k] = true := isN_of hok.1 hok.2.1
        have HI : Hid (∀ w, Calls Tryd.prog 34 #[.int .i64 l[k]] w fun e w' => e = .returned (.bool true) ∧ w' = w) := fun w => by have := isNode_any l[k] w; rw [hi] at this; exact this
        cases k with
        | zero =>
          simp only [Nat.add_zero] at ck
          generalize l[0]'hlk = x at *
          clear hok hi hc HO
          go_wp2_with fail
          refine (HI.out _).mono ?_
          rintro e w' ⟨rfl, hw⟩
          subst hw
          go_wp2
          go_roundw
          case rel => exact ⟨rfl, 0 + 1, by omega, by simp, HO2, trivial⟩
          case measure => simp [intOf]; omega
        | succ j =>
          have cj := hc j (by omega)
          have hlt2 := hok.2.2 j rfl
          generalize l[j + 1]'hlk = x at *
          generalize l[j]'(by omega) = y at *
          have d2 : decide (x ≤ y) = false := by simp; omega
          clear hok hi hc HO
          go_wp2_with fail
          refine (HI.out _).mono ?_
          rintro e w' ⟨rfl, hw⟩
          subst hw
          go_wp2
          go_roundw
          case rel => exact ⟨rfl, j + 1 + 1, by omega, by simp, HO2, trivial⟩
          case measure => simp [intOf]; omega
      · have hno : nodesB l = false := nodesB_false fun h => hok (h k hlk)
        have HN : Hid (nodesB l = false) := hno
        clear hno
        cases hi : isN l[k]
        · have HI : Hid (∀ w, Calls Tryd.prog 34 #[.int .i64 l[k]] w fun e w' => e = .returned (.bool false) ∧ w' = w) := fun w => by have := isNode_any l[k] w; rw [hi] at this; exact this
          generalize l[k]'hlk = x at *
          clear hok hi hc HO
          go_wp2_with fail
          refine (HI.out _).mono ?_
          rintro e w' ⟨rfl, hw⟩
          subst hw
          go_wp2
          go_ret
          exact ⟨by rw [HN.out]; rfl, rfl⟩
        · have HI : Hid (∀ w, Calls Tryd.prog 34 #[.int .i64 l[k]] w fun e w' => e = .returned (.bool true) ∧ w' = w) := fun w => by have := isNode_any l[k] w; rw [hi] at this; exact this
          obtain ⟨i1, i2⟩ := isN_get hi
          cases k with
          | zero => exact absurd ⟨i1, i2, fun j e => absurd e (by omega)⟩ hok
          | succ j =>
            have cj := hc j (by omega)
            have hle : ¬ l[j]'(by omega) < l[j + 1]'hlk := fun hh => hok ⟨i1, i2, fun j' e => by
              have : j' = j := by omega
              subst this
              exact hh⟩
            generalize l[j + 1]'hlk = x at *
            generalize l[j]'(by omega) = y at *
            have d2 : decide (x ≤ y) = true := by simp; omega
            clear hok hi hc HO
            go_wp2_with fail
            refine (HI.out _).mono ?_
            rintro e w' ⟨rfl, hw⟩
            subst hw
            go_wp2
            go_ret
            exact ⟨by rw [HN.out]; rfl, rfl⟩
    · have hk' : k = l.length := by omega
      subst hk'
      have dk : decide ((l.length : Int) < l.length) = false := by simp
      have hyes : nodesB l = true := nodesB_true fun k h => HO.out k h h
      clear HO
      go_wp2
      go_ret
      exact ⟨by rw [hyes]; rfl, rfl⟩
/-- The point of a number. -/
def ptI (x : Int) : Nat := if isN x = true then pt x.toNat else 0
theorem nt_itoa : ∀ m : Fin 16, Lib.itoa (m.val : Int) = nt m.val := by decide +kernel
theorem point_any (x : Int) (w : World) : Calls Tryd.prog 22 #[.int .i64 x] w fun e w' => e = .returned (.int .u64 (ptI x : Int)) ∧ w' = w := by
  cases hi : isN x
  · have HI : Hid (∀ w, Calls Tryd.prog 34 #[.int .i64 x] w fun e w' => e = .returned (.bool false) ∧ w' = w) := fun w => by have := isNode_any x w; rw [hi] at this; exact this
    have e : ptI x = 0 := if_neg (by rw [hi]; decide)
    rw [e]
    clear hi e
    go_enter Tryd.func22, Tryd.ntmps22
    go_wp2_with fail
    refine (HI.out _).mono ?_
    rintro e w' ⟨rfl, hw⟩
    subst hw
    go_wp2
    go_ret
    exact ⟨rfl, rfl⟩
  · have HI : Hid (∀ w, Calls Tryd.prog 34 #[.int .i64 x] w fun e w' => e = .returned (.bool true) ∧ w' = w) := fun w => by have := isNode_any x w; rw [hi] at this; exact this
    have e : ptI x = pt x.toNat := if_pos hi
    obtain ⟨i1, i2⟩ := isN_get hi
    obtain ⟨n, rfl⟩ : ∃ n : Nat, x = (n : Int) := ⟨x.toNat, by omega⟩
    rw [e, Int.toNat_natCast]
    have HT : Hid (∀ w, Calls Tryd.prog 41 #[.int .i64 (n : Int)] w fun e w' => e = .returned (.string ⟨(nt n).toArray⟩) ∧ w' = w) := fun w => by
      have := Tryd.strconv_Itoa_small n (by omega) w
      rw [nt_itoa ⟨n, by omega⟩] at this
      exact this
    have hz : (⟨(nt n).toArray⟩ : ByteArray).size ≤ 2 := by
      show (nt n).toArray.size ≤ 2
      unfold nt
      split <;> simp
    have HZ : Hid (((⟨#[110, 111, 100, 101, 32]⟩ : ByteArray) ++ ⟨(nt n).toArray⟩).data.toList = 110 :: 111 :: 100 :: 101 :: 32 :: nt n) := by
      show _ = _
      rw [ByteArray.data_append]
      simp
    have HH : Hid (∀ w, Calls Tryd.prog 40 #[.string ((⟨#[110, 111, 100, 101, 32]⟩ : ByteArray) ++ ⟨(nt n).toArray⟩)] w fun e w' => e = .returned (.int .u64 (pt n : Int)) ∧ w' = w) := fun w => by
      have := hash_any ((⟨#[110, 111, 100, 101, 32]⟩ : ByteArray) ++ ⟨(nt n).toArray⟩) w (by rw [ByteArray.size_append]; show 5 + _ ≤ _; omega)
      rw [HZ.out] at this
      exact this
    generalize (⟨(nt n).toArray⟩ : ByteArray) = z at *
    clear hi e HZ
    go_enter Tryd.func22, Tryd.ntmps22
    go_wp2_with fail
    refine (HI.out _).mono ?_
    rintro e w' ⟨rfl, hw⟩
    subst hw
    go_wp2_with fail
    refine (HT.out _).mono ?_
    rintro e w' ⟨rfl, hw⟩
    subst hw
    go_wp2_with fail
    refine (HH.out _).mono ?_
    rintro e w' ⟨rfl, hw⟩
    subst hw
    go_wp2
    go_ret
    exact ⟨rfl, rfl⟩
/-- How two numbers stand. -/
def c3 (x y : Int) : Int := if x < y then -1 else if y < x then 1 else 0
theorem nanU (x : Int) (w : World) : Calls Tryd.prog 76 #[.int .u64 x] w fun e w' => e = .returned (.bool false) ∧ w' = w := by
  go_enter Tryd.func76, Tryd.ntmps76
  go_wp2
  go_ret
  exact ⟨by simp, rfl⟩
theorem nanI (x : Int) (w : World) : Calls Tryd.prog 77 #[.int .i64 x] w fun e w' => e = .returned (.bool false) ∧ w' = w := by
  go_enter Tryd.func77, Tryd.ntmps77
  go_wp2
  go_ret
  exact ⟨by simp, rfl⟩
theorem compU (x y : Int) (w : World) : Calls Tryd.prog 59 #[.int .u64 x, .int .u64 y] w fun e w' => e = .returned (.int .i64 (c3 x y)) ∧ w' = w := by
  by_cases h1 : x < y
  · have d1 : decide (x < y) = true := by simpa using h1
    have e : c3 x y = -1 := if_pos h1
    rw [e]
    go_enter Tryd.func59, Tryd.ntmps59
    go_wp2_with (go_at_call 76; refine (nanU _ _).mono ?_; rintro e w' ⟨rfl, rfl⟩)
    go_ret
    exact ⟨rfl, rfl⟩
  · have d1 : decide (x < y) = false := by simpa using h1
    by_cases h2 : y < x
    · have d2 : decide (y < x) = true := by simpa using h2
      have e : c3 x y = 1 := by rw [c3, if_neg h1, if_pos h2]
      rw [e]
      go_enter Tryd.func59, Tryd.ntmps59
      go_wp2_with (go_at_call 76; refine (nanU _ _).mono ?_; rintro e w' ⟨rfl, rfl⟩)
      go_ret
      exact ⟨rfl, rfl⟩
    · have d2 : decide (y < x) = false := by simpa using h2
      have e : c3 x y = 0 := by rw [c3, if_neg h1, if_neg h2]
      rw [e]
      go_enter Tryd.func59, Tryd.ntmps59
      go_wp2_with (go_at_call 76; refine (nanU _ _).mono ?_; rintro e w' ⟨rfl, rfl⟩)
      go_ret
      exact ⟨rfl, rfl⟩
theorem compI (x y : Int) (w : World) : Calls Tryd.prog 60 #[.int .i64 x, .int .i64 y] w fun e w' => e = .returned (.int .i64 (c3 x y)) ∧ w' = w := by
  by_cases h1 : x < y
  · have d1 : decide (x < y) = true := by simpa using h1
    have e : c3 x y = -1 := if_pos h1
    rw [e]
    go_enter Tryd.func60, Tryd.ntmps60
    go_wp2_with (go_at_call 77; refine (nanI _ _).mono ?_; rintro e w' ⟨rfl, rfl⟩)
    go_ret
    exact ⟨rfl, rfl⟩
  · have d1 : decide (x < y) = false := by simpa using h1
    by_cases h2 : y < x
    · have d2 : decide (y < x) = true := by simpa using h2
      have e : c3 x y = 1 := by rw [c3, if_neg h1, if_pos h2]
      rw [e]
      go_enter Tryd.func60, Tryd.ntmps60
      go_wp2_with (go_at_call 77; refine (nanI _ _).mono ?_; rintro e w' ⟨rfl, rfl⟩)
      go_ret
      exact ⟨rfl, rfl⟩
    · have d2 : decide (y < x) = false := by simpa using h2
      have e : c3 x y = 0 := by rw [c3, if_neg h1, if_neg h2]
      rw [e]
      go_enter Tryd.func60, Tryd.ntmps60
      go_wp2_with (go_at_call 77; refine (nanI _ _).mono ?_; rintro e w' ⟨rfl, rfl⟩)
      go_ret
      exact ⟨rfl, rfl⟩
theorem or_two (b : Nat) (x y : Int) (w : World) (h0 : w.cell? ⟨b, 0, none⟩ = some (.int .i64 x)) (h1 : w.cell? ⟨b, 1, none⟩ = some (.int .i64 y)) :
    Calls Tryd.prog 58 #[.slice (some ⟨b, 0, none⟩) 2 2] w fun e w' => e = .returned (.int .i64 (if x = 0 then y else x)) ∧ w' = w := by
  by_cases hx : x = 0
  · subst hx
    rw [if_pos rfl]
    by_cases hy : y = 0
    · subst hy
      go_enter Tryd.func58, Tryd.ntmps58
      go_wp2_with fail
      refine wp_loop_rounds 3 ?_
      rw [rounds_succ]
      go_wp2
      rw [rounds_succ]
      go_wp2
      rw [rounds_succ]
      go_wp2
      go_ret
      exact ⟨rfl, rfl⟩
    · have d : (y != 0) = true := by rw [bne_iff_ne]; exact hy
      go_enter Tryd.func58, Tryd.ntmps58
      go_wp2_with fail
      refine wp_loop_rounds 3 ?_
      rw [rounds_succ]
      go_wp2
      rw [rounds_succ]
      go_wp2
      go_ret
      exact ⟨rfl, rfl⟩
  · rw [if_neg hx]
    have d : (x != 0) = true := by rw [bne_iff_ne]; exact hx
    go_enter Tryd.func58, Tryd.ntmps58
    go_wp2_with fail
    refine wp_loop_rounds 3 ?_
    rw [rounds_succ]
    go_wp2
    go_ret
    exact ⟨rfl, rfl⟩
end Go.Proofs.YtmnmjphgpblbhaaDoor
/- ring.compareStands; the sort of a row of the call's own; ring.stands: walks. -/
namespace Go.Proofs.YtmnmjphgpblbhaaDoor
open Go.RowKit

/-- One that stands on the ring, in cells. -/
def enS (x : Int × Int) : List Value := [.int .i64 x.1, .int .u64 x.2]
abbrev SC (w0 : World) (x y : Int × Int) (w : World) : Prop :=
  w.cell? ⟨w0.heap.size, 0, none⟩ = some (.int .i64 x.1) ∧ w.cell? ⟨w0.heap.size, 1, none⟩ = some (.int .u64 x.2) ∧ w.cell? ⟨w0.heap.size + 1, 0, none⟩ = some (.int .i64 y.1) ∧ w.cell? ⟨w0.heap.size + 1, 1, none⟩ = some (.int .u64 y.2) ∧ w0.heap.size + 1 < w.heap.size ∧ ∃ q os, w = Sort.grow (w0.drewN q) os
theorem SC_drew {w0 W : World} {x y : Int × Int} (h : SC w0 x y W) : SC w0 x y W.drew := by
  obtain ⟨a0, a1, a2, a3, l1, q, os, rfl⟩ := h
  exact ⟨a0, a1, a2, a3, l1, q + 1, os, rfl⟩
theorem SC_alloc {w0 W : World} {x y : Int × Int} (o : Obj) (h : SC w0 x y W) : SC w0 x y (W.alloc o) := by
  obtain ⟨a0, a1, a2, a3, l1, q, os, rfl⟩ := h
  have hb := (Below.refl (Sort.grow (w0.drewN q) os).heap.size (Sort.grow (w0.drewN q) os)).alloc (Nat.le_refl _) o
  refine ⟨(hb.cell (p := ⟨w0.heap.size, 0, none⟩) (show w0.heap.size < _ by omega)).trans a0, (hb.cell (p := ⟨w0.heap.size, 1, none⟩) (show w0.heap.size < _ by omega)).trans a1, (hb.cell (p := ⟨w0.heap.size + 1, 0, none⟩) l1).trans a2, (hb.cell (p := ⟨w0.heap.size + 1, 1, none⟩) l1).trans a3, Nat.lt_of_lt_of_le l1 hb.size, q, os ++ #[o], ?_⟩
  rw [Sort.alloc_eq_grow, Sort.grow_grow]
theorem cfS_or (x y : Int × Int) : (if c3 x.2 y.2 = 0 then c3 x.1 y.1 else c3 x.2 y.2) = cfS x y := by
  unfold cfS c3
  by_cases h1 : x.2 < y.2
  · simp [h1]
  · by_cases h2 : y.2 < x.2
    · simp [h1, h2]
    · simp [h1, h2]
set_option maxRecDepth 100000 in
set_option maxHeartbeats 2000000 in
theorem compare_st (x y : Int × Int) (w : World) : Calls Tryd.prog 47 #[.agg #[.int .i64 x.1, .int .u64 x.2], .agg #[.int .i64 y.1, .int .u64 y.2]] w fun e w' => e = .returned (.int .i64 (cfS x y)) ∧ ∃ q os, w' = Sort.grow (w.drewN q) os := by
  have HO := cfS_or x y
  generalize hu : c3 x.2 y.2 = u at HO
  generalize hv : c3 x.1 y.1 = v at HO
  have HU : Hid (∀ w, Calls Tryd.prog 59 #[.int .u64 x.2, .int .u64 y.2] w fun e w' => e = .returned (.int .i64 u) ∧ w' = w) := fun w => by rw [← hu]; exact compU _ _ w
  have HV : Hid (∀ w, Calls Tryd.prog 60 #[.int .i64 x.1, .int .i64 y.1] w fun e w' => e = .returned (.int .i64 v) ∧ w' = w) := fun w => by rw [← hv]; exact compI _ _ w
  clear hu hv
  have hS : SC w x y ((w.alloc (.cells #[.int .i64 x.1, .int .u64 x.2] 51)).alloc (.cells #[.int .i64 y.1, .int .u64 y.2] 51)) := by
    refine ⟨by simp, by simp, by simp, by simp, by simp, 0, #[.cells #[.int .i64 x.1, .int .u64 x.2] 51, .cells #[.int .i64 y.1, .int .u64 y.2] 51], ?_⟩
    rw [Sort.alloc_eq_grow, Sort.alloc_eq_grow, Sort.grow_grow]
    rfl
  obtain ⟨r, hr⟩ : ∃ r, r = cfS x y := ⟨_, rfl⟩
  rw [← hr] at HO ⊢
  have HR : Hid (∀ (b : Nat) (w : World), w.cell? ⟨b, 0, none⟩ = some (.int .i64 u) → w.cell? ⟨b, 1, none⟩ = some (.int .i64 v) → Calls Tryd.prog 58 #[.slice (some ⟨b, 0, none⟩) 2 2] w fun e w' => e = .returned (.int .i64 r) ∧ w' = w) := fun b w h0 h1 => by rw [← HO]; exact or_two b u v w h0 h1
  clear HO hr
  go_enter Tryd.func47, Tryd.ntmps47
  go_wp2_with fail
  generalize (w.alloc (.cells #[.int .i64 x.1, .int .u64 x.2] 51)).alloc (.cells #[.int .i64 y.1, .int .u64 y.2] 51) = W at *
  obtain ⟨x1, x2⟩ := x
  obtain ⟨y1, y2⟩ := y
  simp only at HU HV
  go_region_held3 (fun w' => SC w (x1, x2) (y1, y2) w') (first | assumption | exact SC_drew (by assumption) | exact SC_alloc _ (by assumption) | exact SC_drew (SC_alloc _ (by assumption)) | exact SC_alloc _ (SC_drew (by assumption)))
    (first
      | (go_at_call 59; refine (HU.out _).mono ?_; rintro e w' ⟨rfl, rfl⟩)
      | (go_at_call 60; refine (HV.out _).mono ?_; rintro e w' ⟨rfl, rfl⟩)
      | (go_at_call 58; refine (HR.out _ _ (by simp) (by simp)).mono ?_; rintro e w' ⟨rfl, rfl⟩))
  rename_i hS3
  have hS4 := hS3.2.2.2.2.2
  clear hS3 hS
  go_wp2
  go_ret
  exact ⟨rfl, hS4⟩
theorem ltS (x y : Int × Int) : ltOf cfS x y = decide (x.2 < y.2 ∨ x.2 = y.2 ∧ x.1 < y.1) := by
  unfold ltOf cfS
  by_cases h1 : x.2 < y.2
  · simp [h1]
  · by_cases h2 : y.2 < x.2
    · rw [if_neg h1, if_pos h2, decide_eq_false (by decide), decide_eq_false (by omega)]
    · by_cases h3 : x.1 < y.1
      · rw [if_neg h1, if_neg h2, if_pos h3, decide_eq_true (by decide), decide_eq_true (by omega)]
      · by_cases h4 : y.1 < x.1
        · rw [if_neg h1, if_neg h2, if_neg h3, if_pos h4, decide_eq_false (by decide), decide_eq_false (by omega)]
        · rw [if_neg h1, if_neg h2, if_neg h3, if_neg h4, decide_eq_false (by decide), decide_eq_false (by omega)]
theorem swoS : Sort.SWO (ltOf cfS) where
  irrefl x := by rw [ltS]; simp
  trans x y z h1 h2 := by rw [ltS] at *; simp at *; omega
  ntrans x y z h1 h2 := by rw [ltS] at *; simp at *; omega
theorem flat_get : ∀ (D : List (Int × Int)) (j : Nat), j < D.length * 2 → (D.flatMap enS)[j]? = some ((enS (D[j / 2]!))[j % 2]!)
  | [], j, h => absurd h (by simp)
  | d :: D, 0, _ => rfl
  | d :: D, 1, _ => rfl
  | d :: D, j + 2, h => by
    have e : (d :: D).flatMap enS = enS d ++ D.flatMap enS := by simp
    have z : (enS d).length = 2 := rfl
    rw [e, List.getElem?_append_right (by omega), show j + 2 - (enS d).length = j by omega, flat_get D j (by rw [List.length_cons] at h; omega), show (j + 2) / 2 = j / 2 + 1 by omega, show (j + 2) % 2 = j % 2 by omega]
    simp
theorem flatS_len (D : List (Int × Int)) : (D.flatMap enS).length = D.length * 2 := by
  induction D with
  | nil => rfl
  | cons d D ih => rw [List.flatMap_cons, List.length_append, ih, List.length_cons]; show 2 + _ = _; omega
theorem below_sort {base g m : Nat} {w : World} {d : Array (Int × Int)} {os : Array Obj} (hg : base ≤ g) (hgl : g < w.heap.size) : Below base w (sortWorldK enS 2 w g 0 m d os) := by
  refine ⟨rfl, rfl, rfl, ?_, ?_⟩
  · show w.heap.size ≤ ((w.heap.modify g _) ++ os).size
    simp
  · intro k hk
    show ((w.heap.modify g _) ++ os)[k]? = w.heap[k]?
    by_cases hks : k < w.heap.size
    · rw [Array.getElem?_append_left (by simpa using hks), Array.getElem?_modify, if_neg (by omega)]
    · exact absurd (Nat.lt_of_lt_of_le hk hg) (by omega)
set_option maxRecDepth 100000 in
theorem sort_own (g cap base : Nat) (D : List (Int × Int)) (w : World) (hown : w.ownsRow base 51 2 (.slice (some ⟨g, 0, none⟩) D.length cap) D.length (D.flatMap enS)) (hn : D.length ≤ 1000) :
    Calls Tryd.prog 46 #[.slice (some ⟨g, 0, none⟩) D.length cap, .func (.func 47) #[] #[]] w fun e w' => e = .returned (.tuple #[]) ∧
      ∃ D' : List (Int × Int), D'.Perm D ∧ D'.Pairwise (fun a b => ¬ cfS b a < 0) ∧ IsRow w' 2 (.slice (some ⟨g, 0, none⟩) D.length cap) D.length (D'.flatMap enS) ∧ Below base w w' := by
  obtain ⟨hxl, ⟨hv, _⟩ | ⟨g', cap', cur, hv, hbg, hg, hnc, hcm, hcs, htk⟩⟩ := hown
  · cases hv
  simp only [Value.slice.injEq, Option.some.injEq, Addr.mk.injEq, and_true, true_and] at hv
  obtain ⟨rfl, rfl⟩ := hv
  have hlt : g < w.heap.size := (Array.getElem?_eq_some_iff.1 hg).1
  have hH : Sort.HoldsK enS 2 w g 0 D.toArray := by
    intro j hj
    rw [Sort.size_flatK] at hj
    simp only [List.size_toArray] at hj
    refine ⟨?_, by simp [World.frozen?, hg]⟩
    rw [Sort.get_flatK enS 2 D.toArray j (by simpa using hj), Nat.zero_add, Lib.cell_of_heap hg]
    have h2 := flat_get D j hj
    rw [← htk, List.getElem?_take_of_lt hj] at h2
    simpa using h2
  have eg : ∀ args w, (callFunc 47 args).run Tryd.prog w = .ok (.enter 47 args) w := enters_of Tryd.func47 (by kernel_rfl) rfl
  have hcmp : CmpLays Tryd.prog 47 #[] enS 2 cfS g 0 D.toArray.size w := fun _ _ _ _ x y => compare_st x y _
  have hcon := AnyQ.slices_SortFunc Tryd.sortSt 2 Tryd.isAgg51 Tryd.sizeOf51 enS (fun _ => rfl) (fun x v hv => by simp [enS] at hv; rcases hv with rfl | rfl <;> rfl) cfS swoS 47 #[] g 0 cap D.toArray w eg hcmp hH hlt (by simp; omega)
  rw [List.size_toArray] at hcon
  refine hcon.mono ?_
  rintro e w' ⟨rfl, d', m, os, ⟨hds, _, hp⟩, hs, rfl⟩
  have hds : d'.size = D.length := by simpa using hds
  refine ⟨rfl, d'.toList, ?_, ?_, ?_, below_sort hbg hlt⟩
  · have e1 : d'.extract 0 D.length = d' := by rw [← hds]; exact Array.extract_size
    have e2 : D.toArray.extract 0 D.length = D.toArray := by
      have := @Array.extract_size _ D.toArray
      rwa [List.size_toArray] at this
    rw [e1, e2] at hp
    exact hp
  · rw [List.pairwise_iff_getElem]
    intro i j hi hj hij
    have hj' : j < d'.size := by simpa using hj
    have := hs i j (Nat.zero_le _) hij (by omega)
    rw [getElem!_pos d' j hj', getElem!_pos d' i (by omega)] at this
    unfold ltOf at this
    simpa using this
  · have hH2 : Sort.HoldsK enS 2 (sortWorldK enS 2 w g 0 m d' os) g 0 d' := Sort.holdsK_grow enS 2 _ os g 0 d' (by show g < (w.heap.modify g _).size; simpa using hlt) (Sort.holdsK_putRowK enS 2 (Sort.ahead w m) g 0 D.toArray d' (Sort.holdsK_ahead enS 2 w m g 0 D.toArray hH) (by simpa using hds))
    have hl2 : d'.toList.length = D.length := by simpa using hds
    refine ⟨by rw [flatS_len, hl2], .inr ⟨g, 0, cap, rfl, ?_, hnc, hcm, ?_⟩⟩
    · show g < ((w.heap.modify g _) ++ os).size
      simp
      omega
    · intro j u hu
      have hj : j < d'.toList.length * 2 := by rw [← flatS_len]; exact (List.getElem?_eq_some_iff.1 hu).1
      have h3 := (hH2 j (by rw [Sort.size_flatK]; simpa using hj)).1
      rw [Sort.get_flatK enS 2 d' j (by simpa using hj)] at h3
      rw [flat_get _ j hj] at hu
      have hq : j / 2 < d'.size := by simp at hj; omega
      have e : d'.toList[j / 2]! = d'[j / 2]! := by rw [getElem!_pos d' _ hq, getElem!_pos d'.toList _ (by simpa using hq)]; simp
      rw [h3, ← hu, e]
      rfl
end Go.Proofs.YtmnmjphgpblbhaaDoor
/- ring.stands: its walk. -/
namespace Go.Proofs.YtmnmjphgpblbhaaDoor
open Go.RowKit

/-- A ring in cells. -/
def stCells (r : List Nat) : List Value := (r.map st).flatMap enS
/-- What stands leaves. -/
def StPost (l : List Int) (w : World) (e : Ending) (w' : World) : Prop :=
  ∃ v', e = .returned v' ∧ IsRow w' 2 v' (rgL l).length (stCells (rgL l)) ∧ Below w.heap.size w w'
theorem wpl_app2 {P : Program} (wr : World) {ops : Array Oper} {rest : List Oper} {o : Oper} {a : Act} {Q : Exit → Act → World → Prop} (hgd : o.guard = none) (s x : Operand) (t e : TypeId)
    (ho : o.op = .call { callee := .builtin .append, args := #[s, x], argTypes := #[t, t] })
    (i : TypeInfo) (z : Value) (size bytes : Nat) (ht : P.underlying t = some (.slice e)) (hi : P.info? e = some i) (hz : i.zero = some z)
    (hsize : i.size = size) (hby : i.bytes = bytes) (hzs : z.cells.size = size) (hsz : 0 < size)
    (base : Nat) (v : Value) (n : Nat) (xs : List Value) (hs : a.eval s = v) (hown : wr.ownsRow base e size v n xs)
    (es : List Value) (hes : es.length = size) (C : Array Value) (hC : C = es.toArray) (hx : a.eval x = .slice (some ⟨wr.heap.size, 0, none⟩) 1 1) (h1 : ∀ u ∈ es, u.oneCell' = true)
    (hbytes : (n + 1) * bytes ≤ 140737488355328) (h63 : n + 1 ≤ maxLen) (hbase : base ≤ wr.heap.size)
    (h : ∀ v' w', w'.ownsRow base e size v' (n + 1) (xs ++ es) → Below base wr w' → wpList P ops Q rest (a.put o.dst v') w') :
    wpList P ops Q (o :: rest) a (wr.alloc (.cells C e)) := by
  subst hC
  refine wpList_append_own _ hgd s x t ho base e i z size bytes ht hi hz hsize hby hzs hsz v n xs hs (hown.alloc _) ⟨wr.heap.size, 0, none⟩ 1 1 es hx (by omega) ?_ h1 h63 hbytes ?_ ?_
  · intro j u hj
    have : (⟨wr.heap.size, 0, none⟩ : Addr).add j = ⟨wr.heap.size, j, none⟩ := by unfold Addr.add; split <;> simp_all
    rw [this]
    simp
    exact hj
  · simp; omega
  · intro v' w' h2 h3 _
    exact h v' w' h2 (((Below.refl _ _).alloc hbase _).grown h3 (by simp; omega) (fun k hk => (hown.lt k hk).1))
theorem info_st : (Tryd.prog.info? 51).map (fun i => (i.zero, i.size, i.bytes)) = some (some (.agg #[.int .i64 0, .int .u64 0]), 2, 16) := by kernel_rfl
/-- Nodes where they stand. -/
def dL (l : List Int) : List (Int × Int) := l.map fun x => (x, (pt x.toNat : Int))
theorem dL_take (l : List Int) (k : Nat) (hk : k < l.length) : (dL (l.take (k + 1))).flatMap enS = (dL (l.take k)).flatMap enS ++ [.int .i64 l[k], .int .u64 (pt l[k].toNat : Int)] := by
  unfold dL
  rw [List.take_succ_eq_append_getElem hk, List.map_append, List.flatMap_append]
  rfl
theorem own_belowJ {w w1 : World} {base : Nat} {e : TypeId} {sz : Nat} {v : Value} {n : Nat} {xs : List Value} (h : w.ownsRow base e sz v n xs) (hb : Below w.heap.size w w1) : w1.ownsRow base e sz v n xs :=
  h.kept (row := none) ⟨hb.os, hb.tape, hb.output, hb.size, fun k hk _ => hb.block k hk⟩ (by cases hv : v.ownBlock <;> simp)
set_option maxRecDepth 100000 in
set_option maxHeartbeats 2000000 in
theorem stands_any (v : Value) (l : List Int) (w : World) (hr : IsRow w 1 v l.length (iCells l)) (hl : l.length ≤ 1000) :
    Calls Tryd.prog 31 #[v] w fun e w' => StPost l w e w' := by
  obtain ⟨a0, cap0, rfl⟩ := hr.form
  have HR : Hid (IsRow w 1 (.slice a0 l.length cap0) l.length (iCells l)) := hr
  clear hr
  by_cases hN : NodesP l
  rotate_left
  · have HN : Hid (∀ w, IsRow w 1 (.slice a0 l.length cap0) l.length (iCells l) → Calls Tryd.prog 13 #[.slice a0 l.length cap0] w fun e w' => e = .returned (.bool false) ∧ w' = w) := fun w h => by have := nodes_any _ l w h (by omega); rw [nodesB_false hN] at this; exact this
    have HG : Hid (rgL l = []) := rgL_not hN
    go_enter Tryd.func31, Tryd.ntmps31
    go_wp2_with fail
    refine (HN.out _ HR.out).mono ?_
    rintro e w' ⟨rfl, hw⟩
    subst hw
    go_wp2
    go_ret
    exact ⟨_, rfl, by rw [HG.out]; exact IsRow.nil _ _, Below.refl _ _⟩
  have HN : Hid (∀ w, IsRow w 1 (.slice a0 l.length cap0) l.length (iCells l) → Calls Tryd.prog 13 #[.slice a0 l.length cap0] w fun e w' => e = .returned (.bool true) ∧ w' = w) := fun w h => by have := nodes_any _ l w h (by omega); rw [nodesB_true hN] at this; exact this
  have HNP : Hid (NodesP l) := hN
  clear hN
  obtain ⟨i0, hi0, hz0, hz1, hz2⟩ := info_parts info_st
  go_enter Tryd.func31, Tryd.ntmps31
  go_wp2_with fail
  refine (HN.out _ HR.out).mono ?_
  rintro e w0 ⟨rfl, hw⟩
  subst hw
  clear HN
  go_wp2_with fail
  go_loopw [2, 10] (fun r i wr => ∃ k : Nat, k ≤ l.length ∧ i = .int .i64 (k : Int) ∧ wr.ownsRow w0.heap.size 51 2 r k ((dL (l.take k)).flatMap enS) ∧ Below w0.heap.size w0 wr) (fun _ i _ => l.length - (intOf i).toNat)
  case atStart => exact ⟨0, Nat.zero_le _, rfl, World.ownsRow_nil _ _ _ _, Below.refl _ _⟩
  case round =>
    obtain ⟨k, hk, rfl, hown, hB⟩ := hrel
    have hsz := hB.size
    by_cases hlk : k < l.length
    · have dk : decide ((k : Int) < l.length) = true := by simp; omega
      obtain ⟨b, off, rfl, -, hlt, hcap, hc⟩ := iCells_at (HR.out.below hB) (by omega)
      have ck := hc k hlk
      have hnk := HNP.out k hlk
      have HT : Hid ((dL (l.take (k + 1))).flatMap enS = (dL (l.take k)).flatMap enS ++ [.int .i64 l[k], .int .u64 (pt l[k].toNat : Int)]) := dL_take l k hlk
      have HP : Hid (∀ w, Calls Tryd.prog 22 #[.int .i64 l[k]] w fun e w' => e = .returned (.int .u64 (pt l[k].toNat : Int)) ∧ w' = w) := fun w => by
        have := point_any l[k] w
        rw [ptI, if_pos (isN_of hnk.1 hnk.2.1)] at this
        exact this
      have HO : Hid (wr.ownsRow w0.heap.size 51 2 u2 k ((dL (l.take k)).flatMap enS)) := hown
      generalize l[k]'hlk = x at *
      generalize pt x.toNat = y at *
      clear hc hnk hown
      go_wp2_with fail
      refine (HP.out _).mono ?_
      rintro e w2 ⟨rfl, hw⟩
      subst hw
      go_wp2_with (at_builtin; go_loud (refine wpl_app2 w2 rfl (.tmp 14) (.tmp 19) 48 51 rfl i0 _ 2 16 Tryd.underlying48 hi0 hz0 hz1 hz2 rfl (by decide) w0.heap.size u2 k _ rfl HO.out [.int .i64 x, .int .u64 (y : Int)] rfl _ rfl rfl (by intro u hu; simp at hu; rcases hu with rfl | rfl <;> rfl) (by omega) (by unfold maxLen; omega) hsz ?_; intro v4 w4 hown4 hb4))
      have HO4 : Hid (w4.ownsRow w0.heap.size 51 2 v4 (k + 1) ((dL (l.take (k + 1))).flatMap enS)) := by show World.ownsRow _ _ _ _ _ _ _; rw [HT.out]; exact hown4
      have HB4 : Hid (Below w0.heap.size w0 w4) := hB.trans hb4
      clear hown4 hb4 HT HO hB
      go_wp2
      go_roundw
      case rel => exact ⟨k + 1, by omega, by simp, HO4.out, HB4.out⟩
      case measure => simp [intOf]; omega
    · have hk' : k = l.length := by omega
      subst hk'
      have dk : decide ((l.length : Int) < l.length) = false := by simp
      rw [List.take_of_length_le (Nat.le_refl _)] at hown
      have HO : Hid (wr.ownsRow w0.heap.size 51 2 u2 l.length ((dL l).flatMap enS)) := hown
      have hdl : (dL l).length = l.length := by simp [dL]
      rcases hown.2 with ⟨hv, h0⟩ | ⟨g, cap, cur, hv, hbg, hg, q1, q2, q3, q4⟩
      · have HG : Hid (rgL l = []) := List.eq_nil_of_length_eq_zero (by rw [rgL_len HNP.out]; exact h0)
        subst hv
        clear hown HO hdl
        go_wp2_with fail
        refine (AnyF.slices_SortFunc_none { Tryd.sortSt with } none 0 _ wr).mono ?_
        rintro e w5 ⟨rfl, hw⟩
        subst hw
        have HB : Hid (Below w0.heap.size w0 w5) := hB
        clear hB
        go_wp2
        go_ret
        exact ⟨_, rfl, by rw [HG.out]; exact IsRow.nil _ _, HB.out⟩
      · subst hv
        have HS : Hid (Calls Tryd.prog 46 #[.slice (some ⟨g, 0, none⟩) l.length cap, .func (.func 47) #[] #[]] wr fun e w' => e = .returned (.tuple #[]) ∧
            ∃ D' : List (Int × Int), D'.Perm (dL l) ∧ D'.Pairwise (fun a b => ¬ cfS b a < 0) ∧ IsRow w' 2 (.slice (some ⟨g, 0, none⟩) l.length cap) l.length (D'.flatMap enS) ∧ Below w0.heap.size wr w') := by
          have := sort_own g cap w0.heap.size (dL l) wr (by rw [hdl]; exact HO.out) (by rw [hdl]; omega)
          rw [hdl] at this
          exact this
        clear hown HO hdl hg q1 q2 q3 q4
        go_wp2_with fail
        refine HS.out.mono ?_
        rintro e w5 ⟨rfl, D', hp, hs, hrow, hb5⟩
        have e5 := sorted_ring HNP.out hp (hs.imp fun h => by omega)
        subst e5
        have HB : Hid (Below w0.heap.size w0 w5) := hB.trans hb5
        have HRow : Hid (IsRow w5 2 (.slice (some ⟨g, 0, none⟩) l.length cap) (rgL l).length (stCells (rgL l))) := by show IsRow _ _ _ _ _; rw [rgL_len HNP.out]; exact hrow
        clear hB hb5 hrow hp hs
        go_wp2
        go_ret
        exact ⟨_, rfl, HRow.out, HB.out⟩
end Go.Proofs.YtmnmjphgpblbhaaDoor
