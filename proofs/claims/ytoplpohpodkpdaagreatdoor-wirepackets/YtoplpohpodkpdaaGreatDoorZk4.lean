/- wire: partsMayBe, writePart, write, Text at the messages of the examples: walks. -/
import Derived.Test.YtoplpohpodkpdaaGreatDoorZk0
import Derived.Test.YtoplpohpodkpdaaGreatDoorZk3
import Derived.Deep.RegionHeld3
import Derived.Test.YtoplpohpodkpdaaGreatDoorZk1
import Derived.ProofKit
import Derived.LaidMore
import Derived.Stop.LaidErr
import Derived.OpenShut
import Derived.ShutString
import Derived.ChangeOld
import Derived.Below
import Derived.Lib.LaidTab
import Derived.Stop.Joined
import Derived.PinnedBridge
import Derived.Deep.Slices
import Derived.Deep.Strs
import Derived.SizedLaws
import Derived.Lib.SmallJoins
import Derived.Lay
import Derived.Lib.LaidU8T
import Derived.Shelf.Vars
namespace Go.Proofs.YtoplpohpodkpdaaGreatDoor
open Go.RowKit

theorem may4S {s : ByteArray} (h : s.size ≤ 65536) : Q.mayIt ⟨4, 0, s⟩ = true := by
  unfold Q.mayIt Q.mayB
  rw [if_neg (show ¬ (4 : Int) = 1 by decide), if_neg (show ¬ (4 : Int) = 2 by decide), if_neg (show ¬ (4 : Int) = 3 by decide), if_pos rfl]
  exact decide_eq_true ⟨rfl, h⟩
theorem row_1S (W : World) (k n : Int) (s : ByteArray) (t : TypeId) : IsRow (W.alloc (.cells #[.int .i64 k, .int .i64 n, .string s] t)) 3 (.slice (some ⟨W.heap.size, 0, none⟩) 1 1) [(⟨k, n, s⟩ : It)].length (itCells [(⟨k, n, s⟩ : It)]) := by
  refine ⟨rfl, .inr ⟨W.heap.size, 0, 1, rfl, by simp, Nat.le_refl _, by decide, fun j u hu => ?_⟩⟩
  have e : (itCells [(⟨k, n, s⟩ : It)]) = [Value.int .i64 k, .int .i64 n, .string s] := rfl
  rw [e] at hu
  simpa using hu
theorem put_1S (s : ByteArray) (t : TypeId) (W : World) (N : Nat) (hN : N = W.heap.size) (hs : s.size ≤ 65536) (hT : Q.Tab W) :
    Calls Tryz.prog 19 #[.slice (some ⟨N, 0, none⟩) 1 1] (W.alloc (.cells #[.int .i64 4, .int .i64 0, .string s] t)) fun e w' => e = .returned (.tuple #[.string ⟨(Q.itB ⟨4, 0, s⟩).toArray⟩, .int .i64 0]) ∧ Below W.heap.size W w' := by
  subst hN
  refine (Q.put_ok _ _ _ (row_1S W 4 0 s t) (Q.Tab_alloc hT _) (by simp) ?_ ?_).mono ?_
  · intro x hx
    simp only [List.mem_cons, List.not_mem_nil, or_false] at hx
    subst hx
    show s.size ≤ _
    omega
  · simp [may4S hs]
  · rintro e w' ⟨he, hb⟩
    exact ⟨by rw [he]; simp, ((Below.refl _ _).alloc (Nat.le_refl _) _).trans (hb.mono (by simp))⟩
theorem results_ct {fn : Func} {p q : Tmp} {t : TypeId} (h : fn.results = #[.cell p t, .tmp q]) (tmps : Array Value) (P : Program) (w : World) :
    (results fn tmps).run P w = ((asAddr (tmps.getD p undef)).run P w).andThen fun a w₁ => ((loadVar t a).run P w₁).andThen fun v w₂ => .ok (.tuple #[v, tmps.getD q undef]) w₂ := by
  simp only [results, h]
  simp [Sem.run_bind, Result.andThen]
/-- What a message of the examples has, may have, and doesn't have. -/
structure MsgOk (M : Array Value) (hs : Int → Bool) (w : World) : Prop where
  has : ∀ p ∈ pts, ∀ W, Below w.heap.size w W → Calls Tryz.prog 32 #[.agg M, .int .i64 p] W fun e w' => e = .returned (.bool (hs p)) ∧ Below W.heap.size W w'
  may : ∀ p ∈ pts, hs p = true → ∀ W, Below w.heap.size w W → Calls Tryz.prog 34 #[.agg M, .int .i64 p] W fun e w' => e = .returned (.bool true) ∧ Below W.heap.size W w'
  zer : ∀ p ∈ pts, hs p = false → ∀ W, Below w.heap.size w W → Calls Tryz.prog 35 #[.agg M, .int .i64 p] W fun e w' => e = .returned (.bool true) ∧ Below W.heap.size W w'
theorem MsgOk.below {M : Array Value} {hs : Int → Bool} {w w' : World} (h : MsgOk M hs w) (hb : Below w.heap.size w w') : MsgOk M hs w' :=
  ⟨fun p hp W h1 => h.has p hp W (bT hb h1), fun p hp hh W h1 => h.may p hp hh W (bT hb h1), fun p hp hh W h1 => h.zer p hp hh W (bT hb h1)⟩
def hsR (_ : Int) : Bool := false
def hsG (p : Int) : Bool := decide (p = 1) || decide (p = 4)
abbrev mR : Array Value := msgC 14 3 0 0 0 ⟨#[]⟩
abbrev mG : Array Value := msgC 12 1 2 1 7 ⟨#[97]⟩
theorem okR {w : World} (h : PO w) : MsgOk mR hsR w where
  has := fun p hp W hb => has14 _ _ _ _ _ p hp W (h.below hb)
  may := fun p hp hh => by cases hh
  zer := fun p hp _ W _ => isZero_c _ _ _ _ _ _ p hp (fun _ => ⟨rfl, rfl, rfl⟩) (fun _ => rfl) W
theorem okG {w : World} (h : PO w) : MsgOk mG hsG w where
  has := fun p hp W hb => has12 _ _ _ _ _ p hp W (h.below hb)
  may := fun p _ hh W _ => mayBe_c _ _ p (by simpa [hsG] using hh) W
  zer := fun p hp hh W _ => isZero_c _ _ _ _ _ _ p hp (fun e => by subst e; exact absurd hh (by decide)) (fun e => by subst e; exact absurd hh (by decide)) W
theorem pts_lt {p : Int} (h : p ∈ pts) : 1 ≤ p ∧ p < 512 := by
  unfold pts at h
  simp only [List.mem_cons, List.not_mem_nil, or_false] at h
  rcases h with rfl | rfl | rfl | rfl | rfl | rfl | rfl | rfl | rfl <;> decide
theorem pts_next {p : Int} (h : p ∈ pts) : p * 2 ∈ pts ∨ p * 2 = 512 := by
  unfold pts at *
  simp only [List.mem_cons, List.not_mem_nil, or_false] at h
  rcases h with rfl | rfl | rfl | rfl | rfl | rfl | rfl | rfl | rfl <;> decide
theorem numS (n : Int) (r : ByteArray) (h : strOfNums (Q.numI n) = r) (w : World) (hT : Q.Tab w) : Calls Tryz.prog 37 #[.int .i64 n] w fun e w' => e = .returned (.string r) ∧ Below w.heap.size w w' := by
  subst h
  exact Q.num_any n w hT
set_option maxRecDepth 100000 in
set_option maxHeartbeats 4000000 in
theorem writeText_a (w : World) (hT : Q.Tab w) : Calls Tryz.prog 68 #[.string ⟨#[97]⟩] w fun e w' => e = .returned (.string ⟨#[1, 97]⟩) ∧ Below w.heap.size w w' := by
  have HP : Hid (Calls Tryz.prog 19 #[.slice (some ⟨w.heap.size, 0, none⟩) 1 1] (w.alloc (.cells #[.int .i64 4, .int .i64 0, .string ⟨#[97]⟩] 54)) fun e w' => e = .returned (.tuple #[.string ⟨#[1, 97]⟩, .int .i64 0]) ∧ Below w.heap.size w w') := by
    have h := put_1S ⟨#[97]⟩ 54 w w.heap.size rfl (by decide) hT
    have e : (⟨(Q.itB ⟨4, 0, ⟨#[97]⟩⟩).toArray⟩ : ByteArray) = ⟨#[1, 97]⟩ := by kernel_rfl
    rw [e] at h
    exact h
  go_enter Tryz.func68, Tryz.ntmps68
  go_wp2_with fail
  refine HP.out.mono ?_
  rintro e w1 ⟨rfl, hb⟩
  have B1 : Hid (Below w.heap.size w w1) := hb
  clear hb HP
  go_wp2
  go_ret
  exact ⟨rfl, B1.out⟩
/-- What is written of a part. -/
def wrG (p : Int) : ByteArray := if p = 1 then ⟨#[2, 1, 7]⟩ else ⟨#[1, 97]⟩
set_option maxRecDepth 100000 in
set_option maxHeartbeats 8000000 in
theorem writePart_G (p : Int) (hp : p = 1 ∨ p = 4) (w : World) (hT : Q.Tab w) : Calls Tryz.prog 38 #[.agg mG, .int .i64 p] w fun e w' => e = .returned (.string (wrG p)) ∧ Below w.heap.size w w' := by
  obtain ⟨w1, hw1⟩ : ∃ w1, w1 = w.alloc (.cells mG 45) := ⟨_, rfl⟩
  have B1 : Hid (Below w.heap.size w w1) := by show Below _ _ _; rw [hw1]; exact al_f _ _
  have hk : w1.heap[w.heap.size]? = some (.cells mG 45 (0, 0)) := by rw [hw1]; exact nw_at _ _
  have HK : Hid (∀ W, Below w1.heap.size w1 W → W.heap[w.heap.size]? = some (.cells mG 45 (0, 0))) := fun W hb => (hb.block _ (Array.getElem?_eq_some_iff.1 hk).1).trans hk
  have c6 : w1.cell? ⟨w.heap.size, 6, none⟩ = some (.string ⟨#[97]⟩) := by rw [Lib.cell_of_heap hk]; rfl
  clear hk
  have HT : Hid (∀ W, Below w1.heap.size w1 W → Q.Tab W) := fun W hb => hT.below (bT B1.out hb) hT.size
  have N2 : Hid (∀ W, Below w1.heap.size w1 W → Calls Tryz.prog 37 #[.int .i64 2] W fun e w' => e = .returned (.string ⟨#[2]⟩) ∧ Below W.heap.size W w') := fun W hb => numS 2 _ (by kernel_rfl) W (HT.out W hb)
  have N1 : Hid (∀ W, Below w1.heap.size w1 W → Calls Tryz.prog 37 #[.int .i64 1] W fun e w' => e = .returned (.string ⟨#[1]⟩) ∧ Below W.heap.size W w') := fun W hb => numS 1 _ (by kernel_rfl) W (HT.out W hb)
  have N7 : Hid (∀ W, Below w1.heap.size w1 W → Calls Tryz.prog 37 #[.int .i64 7] W fun e w' => e = .returned (.string ⟨#[7]⟩) ∧ Below W.heap.size W w') := fun W hb => numS 7 _ (by kernel_rfl) W (HT.out W hb)
  have HX : Hid (∀ W, Below w1.heap.size w1 W → Calls Tryz.prog 68 #[.string ⟨#[97]⟩] W fun e w' => e = .returned (.string ⟨#[1, 97]⟩) ∧ Below W.heap.size W w') := fun W hb => writeText_a W (HT.out W hb)
  rcases hp with rfl | rfl
  · clear c6 HX
    go_enter Tryz.func38, Tryz.ntmps38
    go_wp2_with fail
    rw [← hw1]
    clear hw1
    refine wp_region_quiet (C := fun w' => Below w1.heap.size w1 w') (by kernel_rfl) (by kernel_rfl) ((Below.refl _ _).drew) ?_
    dsimp only
    repeat (first
      | go_big_quiet_skip
      | (go_big_quiet_want
         apply Exists.intro
         refine ⟨fun W' hW' => ?_, ?_⟩
         · have hw : Below w1.heap.size w1 W' := hW'
           have hk := HK.out W' hw
           have c2 : W'.cell? ⟨w.heap.size, 2, none⟩ = some (.int .i64 2) := by rw [Lib.cell_of_heap hk]; rfl
           have c3 : W'.cell? ⟨w.heap.size, 3, none⟩ = some (.int .i64 1) := by rw [Lib.cell_of_heap hk]; rfl
           have c4 : W'.cell? ⟨w.heap.size, 4, none⟩ = some (.int .i64 7) := by rw [Lib.cell_of_heap hk]; rfl
           clear hk
           go_simp
           first
             | done
             | rfl
             | (go_at_call 37; (with_reducible refine Calls.mono (N2.out W' hw) ?_); rintro e w'' ⟨rfl, hb⟩; exact ⟨rfl, hw.trans (hb.mono hw.size)⟩)
             | (go_at_call 37; (with_reducible refine Calls.mono (N1.out W' hw) ?_); rintro e w'' ⟨rfl, hb⟩; exact ⟨rfl, hw.trans (hb.mono hw.size)⟩)
             | (go_at_call 37; (with_reducible refine Calls.mono (N7.out W' hw) ?_); rintro e w'' ⟨rfl, hb⟩; exact ⟨rfl, hw.trans (hb.mono hw.size)⟩)
         go_big_quiet_on
         try simp only [Act.put, List.setIfInBounds_toArray, List.set_cons_zero, List.set_cons_succ]))
    refine wpQuiet_nil ?_
    intro w3 hq
    have B3 : Hid (Below w.heap.size w w3) := bT B1.out hq
    clear hq
    go_wp2
    go_ret
    exact ⟨by first | rfl | kernel_rfl, B3.out⟩
  · rw [hw1] at c6
    go_enter Tryz.func38, Tryz.ntmps38
    go_wp2_with fail
    rw [← hw1]
    clear c6 hw1
    refine (HX.out _ (Below.refl _ _)).mono ?_
    rintro e w3 ⟨rfl, hb⟩
    have B3 : Hid (Below w.heap.size w w3) := bT B1.out hb
    clear hb
    go_wp2
    go_ret
    exact ⟨rfl, B3.out⟩
end Go.Proofs.YtoplpohpodkpdaaGreatDoor
/- PacketText of wire and of the reference: walks. -/
namespace Go.Proofs.YtoplpohpodkpdaaGreatDoor
open Go.RowKit

def pkIts (x : Pk) : List It := [⟨1, x.f, ⟨#[]⟩⟩, ⟨1, x.t, ⟨#[]⟩⟩, ⟨1, x.fl, ⟨#[]⟩⟩, ⟨1, x.tl, ⟨#[]⟩⟩, ⟨1, x.sq, ⟨#[]⟩⟩, ⟨1, x.ak, ⟨#[]⟩⟩, ⟨4, 0, x.s⟩]
/-- A packet's bytes; none, if it may not be. -/
def pkT (x : Pk) : ByteArray := if pkB x = true then ⟨((pkIts x).flatMap Q.itB).toArray⟩ else ⟨#[]⟩
theorem pk_rng {x : Pk} (h : pkB x = true) : (∀ y ∈ pkIts x, Q.mayIt y = true) ∧ x.s.size ≤ 32768 ∧ (0 ≤ x.f ∧ x.f ≤ 1099511627775) ∧ (0 ≤ x.t ∧ x.t ≤ 1099511627775) ∧ (0 ≤ x.fl ∧ x.fl ≤ 1099511627775) ∧ (0 ≤ x.tl ∧ x.tl ≤ 1099511627775) ∧ (0 ≤ x.sq ∧ x.sq ≤ 1099511627775) ∧ (0 ≤ x.ak ∧ x.ak ≤ 1099511627775) := by
  unfold pkB nodB cntI seqB at h
  simp only [Bool.and_eq_true, decide_eq_true_eq] at h
  obtain ⟨⟨a1, a2⟩, ⟨b1, b2⟩, -, ⟨c1, c2⟩, ⟨d1, d2⟩, ⟨e1, e2⟩, ⟨f1, f2⟩, hl, -⟩ := h
  have key : ∀ n : Int, 0 ≤ n → n ≤ 1099511627775 → Q.mayIt ⟨1, n, ⟨#[]⟩⟩ = true := fun n h1 h2 => by
    unfold Q.mayIt Q.mayB
    have e : (⟨#[]⟩ : ByteArray).toList.isEmpty = true := by rw [ByteArray.toList_eq]; rfl
    rw [if_pos rfl, e, Bool.true_and]
    exact decide_eq_true (show 0 ≤ n ∧ n ≤ 4611686018427387903 from ⟨h1, by omega⟩)
  refine ⟨fun y hy => ?_, hl, ⟨by omega, by omega⟩, ⟨by omega, by omega⟩, ⟨by omega, by omega⟩, ⟨by omega, by omega⟩, ⟨by omega, by omega⟩, ⟨by omega, by omega⟩⟩
  unfold pkIts at hy
  simp only [List.mem_cons, List.not_mem_nil, or_false] at hy
  rcases hy with rfl | rfl | rfl | rfl | rfl | rfl | rfl
  · exact key _ (by omega) (by omega)
  · exact key _ (by omega) (by omega)
  · exact key _ (by omega) (by omega)
  · exact key _ (by omega) (by omega)
  · exact key _ (by omega) (by omega)
  · exact key _ (by omega) (by omega)
  · exact may4S (by omega)
theorem row_7 (W : World) (x : Pk) (T : TypeId) : IsRow (W.alloc (.cells (itCells (pkIts x)).toArray T)) 3 (.slice (some ⟨W.heap.size, 0, none⟩) 7 7) (pkIts x).length (itCells (pkIts x)) := by
  refine ⟨rfl, .inr ⟨W.heap.size, 0, 7, rfl, by simp, Nat.le_refl _, by decide, fun j u hu => ?_⟩⟩
  simpa using hu
set_option maxRecDepth 100000 in
set_option maxHeartbeats 8000000 in
theorem packetText_any (x : Pk) (w : World) (hT : Q.Tab w) (hs : x.s.size ≤ 140737488355328) : Calls Tryz.prog 9 #[.agg x.cells] w fun e w' => e = .returned (.string (pkT x)) ∧ Below w.heap.size w w' := by
  have HC : Hid (∀ W, Calls Tryz.prog 7 #[.agg x.cells] W fun e w' => e = .returned (.bool (pkB x)) ∧ Below W.heap.size W w') := fun W => checkPk_any x W
  have HP : Hid (pkB x = true → ∀ W T, Below w.heap.size w W → Calls Tryz.prog 19 #[.slice (some ⟨W.heap.size, 0, none⟩) 7 7] (W.alloc (.cells (itCells (pkIts x)).toArray T)) fun e w' => e = .returned (.tuple #[.string ⟨((pkIts x).flatMap Q.itB).toArray⟩, .int .i64 0]) ∧ Below W.heap.size W w') := fun h W T hb => by
    have hr := pk_rng h
    refine (Q.put_ok _ _ _ (row_7 W x T) (Q.Tab_alloc (hT.below hb hT.size) _) (by unfold pkIts; simp) ?_ ?_).mono ?_
    · intro y hy
      unfold pkIts at hy
      simp only [List.mem_cons, List.not_mem_nil, or_false] at hy
      rcases hy with rfl | rfl | rfl | rfl | rfl | rfl | rfl
      · exact Nat.zero_le _
      · exact Nat.zero_le _
      · exact Nat.zero_le _
      · exact Nat.zero_le _
      · exact Nat.zero_le _
      · exact Nat.zero_le _
      · exact hs
    · exact List.all_eq_true.2 hr.1
    · rintro e w' ⟨he, hb2⟩
      exact ⟨he, (al_f W _).trans (hb2.mono (by simp))⟩
  have HE : Hid (pkT x = if pkB x = true then ⟨((pkIts x).flatMap Q.itB).toArray⟩ else ⟨#[]⟩) := rfl
  rw [HE.out]
  generalize (⟨((pkIts x).flatMap Q.itB).toArray⟩ : ByteArray) = BY at *
  generalize pkB x = X at *
  obtain ⟨f, t, fl, tl, sq, ak, s⟩ := x
  have HP2 : Hid (X = true → ∀ W T, Below w.heap.size w W → Calls Tryz.prog 19 #[.slice (some ⟨W.heap.size, 0, none⟩) 7 7] (W.alloc (.cells #[.int .i64 1, .int .i64 f, .string ⟨#[]⟩, .int .i64 1, .int .i64 t, .string ⟨#[]⟩, .int .i64 1, .int .i64 fl, .string ⟨#[]⟩, .int .i64 1, .int .i64 tl, .string ⟨#[]⟩, .int .i64 1, .int .i64 sq, .string ⟨#[]⟩, .int .i64 1, .int .i64 ak, .string ⟨#[]⟩, .int .i64 4, .int .i64 0, .string s] T)) fun e w' => e = .returned (.tuple #[.string BY, .int .i64 0]) ∧ Below W.heap.size W w') := HP
  clear HP HE
  dsimp only [Pk.cells] at *
  obtain ⟨R, hR⟩ : ∃ R, Hid ((if X = true then BY else (⟨#[]⟩ : ByteArray)) = R) := ⟨_, rfl⟩
  rw [hR.out]
  obtain ⟨w1, hw1⟩ : ∃ w1, w1 = w.alloc (.cells #[.int .i64 f, .int .i64 t, .int .i64 fl, .int .i64 tl, .int .i64 sq, .int .i64 ak, .string s] 23) := ⟨_, rfl⟩
  have B1 : Hid (Below w.heap.size w w1) := by show Below _ _ _; rw [hw1]; exact al_f _ _
  have hk : w1.heap[w.heap.size]? = some (.cells #[.int .i64 f, .int .i64 t, .int .i64 fl, .int .i64 tl, .int .i64 sq, .int .i64 ak, .string s] 23 (0, 0)) := by rw [hw1]; exact nw_at _ _
  have HK : Hid (∀ W, Below w1.heap.size w1 W → W.heap[w.heap.size]? = some (.cells #[.int .i64 f, .int .i64 t, .int .i64 fl, .int .i64 tl, .int .i64 sq, .int .i64 ak, .string s] 23 (0, 0))) := fun W hb => (hb.block _ (Array.getElem?_eq_some_iff.1 hk).1).trans hk
  have c0 : w1.cell? ⟨w.heap.size, 0, none⟩ = some (.int .i64 f) := by rw [Lib.cell_of_heap hk]; rfl
  have c1 : w1.cell? ⟨w.heap.size, 1, none⟩ = some (.int .i64 t) := by rw [Lib.cell_of_heap hk]; rfl
  have c2 : w1.cell? ⟨w.heap.size, 2, none⟩ = some (.int .i64 fl) := by rw [Lib.cell_of_heap hk]; rfl
  have c3 : w1.cell? ⟨w.heap.size, 3, none⟩ = some (.int .i64 tl) := by rw [Lib.cell_of_heap hk]; rfl
  have c4 : w1.cell? ⟨w.heap.size, 4, none⟩ = some (.int .i64 sq) := by rw [Lib.cell_of_heap hk]; rfl
  have c5 : w1.cell? ⟨w.heap.size, 5, none⟩ = some (.int .i64 ak) := by rw [Lib.cell_of_heap hk]; rfl
  have c6 : w1.cell? ⟨w.heap.size, 6, none⟩ = some (.string s) := by rw [Lib.cell_of_heap hk]; rfl
  clear hk
  rw [hw1] at c0 c1 c2 c3 c4 c5 c6
  go_enter Tryz.func9, Tryz.ntmps9
  go_wp2_with fail
  rw [← hw1]
  clear hw1 c0 c1 c2 c3 c4 c5 c6
  refine (HC.out _).mono ?_
  rintro e w2 ⟨rfl, hb⟩
  have B2 : Hid (Below w1.heap.size w1 w2) := hb
  have Bw2 : Hid (Below w.heap.size w w2) := bT B1.out hb
  clear hb HC
  cases X with
  | false =>
    obtain rfl : (⟨#[]⟩ : ByteArray) = R := hR.out
    clear HP2 hR
    go_wp2
    go_ret
    exact ⟨rfl, Bw2.out⟩
  | true =>
  obtain rfl : BY = R := hR.out
  have HP3 : Hid (∀ T, Calls Tryz.prog 19 #[.slice (some ⟨w2.heap.size, 0, none⟩) 7 7] (w2.alloc (.cells #[.int .i64 1, .int .i64 f, .string ⟨#[]⟩, .int .i64 1, .int .i64 t, .string ⟨#[]⟩, .int .i64 1, .int .i64 fl, .string ⟨#[]⟩, .int .i64 1, .int .i64 tl, .string ⟨#[]⟩, .int .i64 1, .int .i64 sq, .string ⟨#[]⟩, .int .i64 1, .int .i64 ak, .string ⟨#[]⟩, .int .i64 4, .int .i64 0, .string s] T)) fun e w' => e = .returned (.tuple #[.string BY, .int .i64 0]) ∧ Below w2.heap.size w2 w') := fun T => HP2.out (by trivial) w2 T Bw2.out
  have hk := HK.out w2 B2.out
  have c0 : w2.cell? ⟨w.heap.size, 0, none⟩ = some (.int .i64 f) := by rw [Lib.cell_of_heap hk]; rfl
  have c1 : w2.cell? ⟨w.heap.size, 1, none⟩ = some (.int .i64 t) := by rw [Lib.cell_of_heap hk]; rfl
  have c2 : w2.cell? ⟨w.heap.size, 2, none⟩ = some (.int .i64 fl) := by rw [Lib.cell_of_heap hk]; rfl
  have c3 : w2.cell? ⟨w.heap.size, 3, none⟩ = some (.int .i64 tl) := by rw [Lib.cell_of_heap hk]; rfl
  have c4 : w2.cell? ⟨w.heap.size, 4, none⟩ = some (.int .i64 sq) := by rw [Lib.cell_of_heap hk]; rfl
  have c5 : w2.cell? ⟨w.heap.size, 5, none⟩ = some (.int .i64 ak) := by rw [Lib.cell_of_heap hk]; rfl
  have c6 : w2.cell? ⟨w.heap.size, 6, none⟩ = some (.string s) := by rw [Lib.cell_of_heap hk]; rfl
  clear hk HP2 hR
  go_wp2_with fail
  clear c0 c1 c2 c3 c4 c5 c6
  refine (HP3.out _).mono ?_
  rintro e w3 ⟨rfl, hb⟩
  have B3 : Hid (Below w.heap.size w w3) := bT Bw2.out hb
  clear hb HP3
  go_wp2
  go_ret
  exact ⟨rfl, B3.out⟩
set_option maxRecDepth 100000 in
theorem refText11_any (s : ByteArray) (w : World) (hs : s.size ≤ 140737488355328) : Calls Tryz.prog 21 #[.string s] w fun e w' => e = .returned (.string (strOfNums (Q.numI s.size) ++ s)) ∧ Below w.heap.size w w' := by
  have HN : Hid (∀ W, Calls Tryz.prog 20 #[.int .i64 (s.size : Int)] W fun e w' => e = .returned (.string (strOfNums (Q.numI s.size))) ∧ Below W.heap.size W w') := fun W => Q.refNum_any _ W
  have h8 := Q.num_size_le (s.size : Int)
  generalize strOfNums (Q.numI s.size) = A at *
  have h9 : ¬ 9223372036854775807 < A.size + s.size := by omega
  go_enter Tryz.func21, Tryz.ntmps21
  go_wp2_with fail
  refine (HN.out _).mono ?_
  rintro e w1 ⟨rfl, hb⟩
  have B1 : Hid (Below w.heap.size w w1) := hb
  clear hb HN
  go_wp2
  go_ret
  exact ⟨rfl, B1.out⟩
theorem num_l (n : Int) : (strOfNums (Q.numI n)).data.toList = Q.numL n := by rw [← ByteArray.toList_eq]; exact Q.strOfNums_toList n
theorem pk_cat (x : Pk) : (⟨((pkIts x).flatMap Q.itB).toArray⟩ : ByteArray) = strOfNums (Q.numI x.f) ++ strOfNums (Q.numI x.t) ++ strOfNums (Q.numI x.fl) ++ strOfNums (Q.numI x.tl) ++ strOfNums (Q.numI x.sq) ++ strOfNums (Q.numI x.ak) ++ (strOfNums (Q.numI x.s.size) ++ x.s) := by
  apply ByteArray.ext
  apply Array.ext'
  simp only [ByteArray.data_append, Array.toList_append, num_l]
  unfold pkIts
  have h1 : ∀ n : Int, Q.itB ⟨1, n, ⟨#[]⟩⟩ = Q.numL n := fun n => by unfold Q.itB; rw [if_pos rfl]
  have h4 : Q.itB ⟨4, 0, x.s⟩ = Q.numL x.s.size ++ x.s.data.toList := by
    unfold Q.itB
    rw [if_neg (show ¬ (4 : Int) = 1 by decide), if_neg (show ¬ (4 : Int) = 2 by decide), if_neg (show ¬ (4 : Int) = 3 by decide)]
  simp only [List.flatMap_cons, List.flatMap_nil, h1, h4, List.append_nil, List.append_assoc]
set_option maxRecDepth 100000 in
set_option maxHeartbeats 8000000 in
theorem refPacketText_any (x : Pk) (w : World) (hs : x.s.size ≤ 140737488355328) : Calls Tryz.prog 10 #[.agg x.cells] w fun e w' => e = .returned (.string (pkT x)) ∧ Below w.heap.size w w' := by
  have HC : Hid (∀ W, Calls Tryz.prog 8 #[.agg x.cells] W fun e w' => e = .returned (.bool (pkB x)) ∧ Below W.heap.size W w') := fun W => refCheckPk_any x W
  have HE : Hid (pkT x = if pkB x = true then ⟨((pkIts x).flatMap Q.itB).toArray⟩ else ⟨#[]⟩) := rfl
  rw [HE.out, pk_cat]
  clear HE
  generalize pkB x = X at *
  obtain ⟨f, t, fl, tl, sq, ak, s⟩ := x
  dsimp only [Pk.cells] at *
  have Nf : Hid (∀ W, Calls Tryz.prog 20 #[.int .i64 f] W fun e w' => e = .returned (.string (strOfNums (Q.numI f))) ∧ Below W.heap.size W w') := fun W => Q.refNum_any _ W
  have Nt : Hid (∀ W, Calls Tryz.prog 20 #[.int .i64 t] W fun e w' => e = .returned (.string (strOfNums (Q.numI t))) ∧ Below W.heap.size W w') := fun W => Q.refNum_any _ W
  have Nfl : Hid (∀ W, Calls Tryz.prog 20 #[.int .i64 fl] W fun e w' => e = .returned (.string (strOfNums (Q.numI fl))) ∧ Below W.heap.size W w') := fun W => Q.refNum_any _ W
  have Ntl : Hid (∀ W, Calls Tryz.prog 20 #[.int .i64 tl] W fun e w' => e = .returned (.string (strOfNums (Q.numI tl))) ∧ Below W.heap.size W w') := fun W => Q.refNum_any _ W
  have Nsq : Hid (∀ W, Calls Tryz.prog 20 #[.int .i64 sq] W fun e w' => e = .returned (.string (strOfNums (Q.numI sq))) ∧ Below W.heap.size W w') := fun W => Q.refNum_any _ W
  have Nak : Hid (∀ W, Calls Tryz.prog 20 #[.int .i64 ak] W fun e w' => e = .returned (.string (strOfNums (Q.numI ak))) ∧ Below W.heap.size W w') := fun W => Q.refNum_any _ W
  have Ns : Hid (∀ W, Calls Tryz.prog 21 #[.string s] W fun e w' => e = .returned (.string (strOfNums (Q.numI s.size) ++ s)) ∧ Below W.heap.size W w') := fun W => refText11_any s W hs
  have hS : (strOfNums (Q.numI s.size) ++ s).size ≤ 140737488355336 := by rw [ByteArray.size_append]; have := Q.num_size_le (s.size : Int); omega
  generalize strOfNums (Q.numI s.size) ++ s = AS at *
  have hf8 := Q.num_size_le f
  have ht8 := Q.num_size_le t
  have hfl8 := Q.num_size_le fl
  have htl8 := Q.num_size_le tl
  have hsq8 := Q.num_size_le sq
  have hak8 := Q.num_size_le ak
  generalize hAf : strOfNums (Q.numI f) = Af at *
  generalize hAt : strOfNums (Q.numI t) = At at *
  generalize hAfl : strOfNums (Q.numI fl) = Afl at *
  generalize hAtl : strOfNums (Q.numI tl) = Atl at *
  generalize hAsq : strOfNums (Q.numI sq) = Asq at *
  generalize hAak : strOfNums (Q.numI ak) = Aak at *
  have k1 : ¬ 9223372036854775807 < Af.size + At.size := by omega
  have k2 : ¬ 9223372036854775807 < Af.size + At.size + Afl.size := by omega
  have k3 : ¬ 9223372036854775807 < Af.size + At.size + Afl.size + Atl.size := by omega
  have k4 : ¬ 9223372036854775807 < Af.size + At.size + Afl.size + Atl.size + Asq.size := by omega
  have k5 : ¬ 9223372036854775807 < Af.size + At.size + Afl.size + Atl.size + Asq.size + Aak.size := by omega
  have k6 : ¬ 9223372036854775807 < Af.size + At.size + Afl.size + Atl.size + Asq.size + Aak.size + AS.size := by omega
  obtain ⟨R, hR⟩ : ∃ R, Hid ((if X = true then Af ++ At ++ Afl ++ Atl ++ Asq ++ Aak ++ AS else (⟨#[]⟩ : ByteArray)) = R) := ⟨_, rfl⟩
  rw [hR.out]
  clear hAf hAt hAfl hAtl hAsq hAak
  obtain ⟨w1, hw1⟩ : ∃ w1, w1 = w.alloc (.cells #[.int .i64 f, .int .i64 t, .int .i64 fl, .int .i64 tl, .int .i64 sq, .int .i64 ak, .string s] 28) := ⟨_, rfl⟩
  have B1 : Hid (Below w.heap.size w w1) := by show Below _ _ _; rw [hw1]; exact al_f _ _
  have hk : w1.heap[w.heap.size]? = some (.cells #[.int .i64 f, .int .i64 t, .int .i64 fl, .int .i64 tl, .int .i64 sq, .int .i64 ak, .string s] 28 (0, 0)) := by rw [hw1]; exact nw_at _ _
  have HK : Hid (∀ W, Below w1.heap.size w1 W → W.heap[w.heap.size]? = some (.cells #[.int .i64 f, .int .i64 t, .int .i64 fl, .int .i64 tl, .int .i64 sq, .int .i64 ak, .string s] 28 (0, 0))) := fun W hb => (hb.block _ (Array.getElem?_eq_some_iff.1 hk).1).trans hk
  have c0 : w1.cell? ⟨w.heap.size, 0, none⟩ = some (.int .i64 f) := by rw [Lib.cell_of_heap hk]; rfl
  have c1 : w1.cell? ⟨w.heap.size, 1, none⟩ = some (.int .i64 t) := by rw [Lib.cell_of_heap hk]; rfl
  have c2 : w1.cell? ⟨w.heap.size, 2, none⟩ = some (.int .i64 fl) := by rw [Lib.cell_of_heap hk]; rfl
  have c3 : w1.cell? ⟨w.heap.size, 3, none⟩ = some (.int .i64 tl) := by rw [Lib.cell_of_heap hk]; rfl
  have c4 : w1.cell? ⟨w.heap.size, 4, none⟩ = some (.int .i64 sq) := by rw [Lib.cell_of_heap hk]; rfl
  have c5 : w1.cell? ⟨w.heap.size, 5, none⟩ = some (.int .i64 ak) := by rw [Lib.cell_of_heap hk]; rfl
  have c6 : w1.cell? ⟨w.heap.size, 6, none⟩ = some (.string s) := by rw [Lib.cell_of_heap hk]; rfl
  clear hk
  rw [hw1] at c0 c1 c2 c3 c4 c5 c6
  go_enter Tryz.func10, Tryz.ntmps10
  go_wp2_with fail
  rw [← hw1]
  clear hw1 c0 c1 c2 c3 c4 c5 c6
  refine (HC.out _).mono ?_
  rintro e w2 ⟨rfl, hb⟩
  have B2 : Hid (Below w1.heap.size w1 w2) := hb
  have Bw2 : Hid (Below w.heap.size w w2) := bT B1.out hb
  clear hb HC
  cases X with
  | false =>
    obtain rfl : (⟨#[]⟩ : ByteArray) = R := hR.out
    go_wp2
    go_ret
    exact ⟨rfl, Bw2.out⟩
  | true =>
  obtain rfl : Af ++ At ++ Afl ++ Atl ++ Asq ++ Aak ++ AS = R := hR.out
  clear hR
  go_wp2_with fail
  refine wp_region_quiet (C := fun w' => Below w2.heap.size w2 w') (by kernel_rfl) (by kernel_rfl) ((Below.refl _ _).drew) ?_
  dsimp only
  repeat (first
    | go_big_quiet_skip
    | (go_big_quiet_want
       apply Exists.intro
       refine ⟨fun W' hW' => ?_, ?_⟩
       · have hw : Below w2.heap.size w2 W' := hW'
         have hk := HK.out W' (bT B2.out hw)
         have c0 : W'.cell? ⟨w.heap.size, 0, none⟩ = some (.int .i64 f) := by rw [Lib.cell_of_heap hk]; rfl
         have c1 : W'.cell? ⟨w.heap.size, 1, none⟩ = some (.int .i64 t) := by rw [Lib.cell_of_heap hk]; rfl
         have c2 : W'.cell? ⟨w.heap.size, 2, none⟩ = some (.int .i64 fl) := by rw [Lib.cell_of_heap hk]; rfl
         have c3 : W'.cell? ⟨w.heap.size, 3, none⟩ = some (.int .i64 tl) := by rw [Lib.cell_of_heap hk]; rfl
         have c4 : W'.cell? ⟨w.heap.size, 4, none⟩ = some (.int .i64 sq) := by rw [Lib.cell_of_heap hk]; rfl
         have c5 : W'.cell? ⟨w.heap.size, 5, none⟩ = some (.int .i64 ak) := by rw [Lib.cell_of_heap hk]; rfl
         have c6 : W'.cell? ⟨w.heap.size, 6, none⟩ = some (.string s) := by rw [Lib.cell_of_heap hk]; rfl
         clear hk
         go_simp
         first
           | done
           | rfl
           | (go_at_call 20; (with_reducible refine Calls.mono (Nf.out W') ?_); rintro e w'' ⟨rfl, hb⟩; exact ⟨rfl, hw.trans (hb.mono hw.size)⟩)
           | (go_at_call 20; (with_reducible refine Calls.mono (Nt.out W') ?_); rintro e w'' ⟨rfl, hb⟩; exact ⟨rfl, hw.trans (hb.mono hw.size)⟩)
           | (go_at_call 20; (with_reducible refine Calls.mono (Nfl.out W') ?_); rintro e w'' ⟨rfl, hb⟩; exact ⟨rfl, hw.trans (hb.mono hw.size)⟩)
           | (go_at_call 20; (with_reducible refine Calls.mono (Ntl.out W') ?_); rintro e w'' ⟨rfl, hb⟩; exact ⟨rfl, hw.trans (hb.mono hw.size)⟩)
           | (go_at_call 20; (with_reducible refine Calls.mono (Nsq.out W') ?_); rintro e w'' ⟨rfl, hb⟩; exact ⟨rfl, hw.trans (hb.mono hw.size)⟩)
           | (go_at_call 20; (with_reducible refine Calls.mono (Nak.out W') ?_); rintro e w'' ⟨rfl, hb⟩; exact ⟨rfl, hw.trans (hb.mono hw.size)⟩)
           | (go_at_call 21; (with_reducible refine Calls.mono (Ns.out W') ?_); rintro e w'' ⟨rfl, hb⟩; exact ⟨rfl, hw.trans (hb.mono hw.size)⟩)
           | (trace_state; fail)
       go_big_quiet_on
       try simp only [Act.put, List.setIfInBounds_toArray, List.set_cons_zero, List.set_cons_succ]))
  refine wpQuiet_nil ?_
  intro w3 hq
  have B3 : Hid (Below w.heap.size w w3) := bT Bw2.out hq
  clear hq
  go_wp2
  go_ret
  exact ⟨rfl, B3.out⟩
end Go.Proofs.YtoplpohpodkpdaaGreatDoor
/- What the listed tables give: four cells of math/bits.deBruijn64tab; and that the program's own start meets the condition. -/
namespace Go.Proofs.YtoplpohpodkpdaaGreatDoor.Q
open Go.ChangeShapes Go.WideShapes Go.ChangeAt Go.WideMaps Go.WideElems Go.RowKit

theorem own : ownKnob Tryz.prog.godebug = none := by kernel_rfl
theorem laidOut : laidOutB Tryz.prog = true := by kernel_rfl

def tab64 : List Int := [0, 1, 56, 2, 57, 49, 28, 3, 61, 58, 42, 50, 38, 29, 17, 4, 62, 47, 59, 36, 45, 43, 51, 22, 53, 39, 33, 30, 24, 18, 12, 5, 63, 55, 48, 27, 60, 41, 37, 16, 46, 35, 44, 21, 52, 32, 23, 11, 54, 26, 40, 15, 34, 20, 31, 10, 25, 14, 19, 9, 13, 8, 7, 6]
theorem g64 : Tryz.prog.globalNamed "math/bits.deBruijn64tab" = some 2 := by kernel_rfl
theorem t64 : (Tryz.prog.globals[2]?).map (·.type) = some 183 := by kernel_rfl

end Go.Proofs.YtoplpohpodkpdaaGreatDoor.Q
/- The frame of a law over packets: wire's five listed variables; a packet that came in. -/
namespace Go.Proofs.YtoplpohpodkpdaaGreatDoor
open Go.ChangeShapes Go.WideShapes Go.ChangeAt Go.WideMaps Go.WideElems Go.RowKit Go.Deep Go.Lib

theorem cellsP : Tryz.prog.cellsOf 23 = 7 := by kernel_rfl
theorem cellsI : Tryz.prog.cellsOf 3 = 1 := by kernel_rfl
theorem cellsS : Tryz.prog.cellsOf 9 = 1 := by kernel_rfl
theorem own : ownKnob Tryz.prog.godebug = none := by kernel_rfl
theorem laidOut : laidOutB Tryz.prog = true := by kernel_rfl
def laidS : List (String × DataW Unit) := [("math/bits.deBruijn32tab", Rows.laid_math_bits_deBruijn32tab), ("math/bits.deBruijn64tab", Rows.laid_math_bits_deBruijn64tab), ("unicode/utf8.acceptRanges", Rows.laid_unicode_utf8_acceptRanges), ("caduceus/wire.partsOf", Rows.laid_caduceus_wire_partsOf), ("unicode/utf8.first", Rows.laid_unicode_utf8_first)]
theorem frame_shaped {H : Type} {enc : TypeId × Value → H} {a : Assume} {C : Checked} {os : Os} {f : FuncId} {fn : Func} {s : ChangeSpec} {conds : List PathCond} {apart fresh handsOn again : Bool} {X : World → Array Value → Prop}
    (hX : ∀ (w w' : World) (args : Array Value), w.heap = w'.heap → X w args → X w' args)
    (own : ownKnob C.prog.godebug = none) (started : os.Started) (noInit : C.prog.inits.idxOf? f = none) (hfn : C.prog.funcs[f]? = some fn)
    (witness : ∃ (w : World) (tape : Tape) (i : Input), w.os = os ∧ (w.forCall tape i).Shaped C.prog ∧ i.vars = [] ∧ Input.okWide C.prog (w.forCall tape i) .any w.heap.size f i ∧
      ((s.pre enc C.prog fn conds apart (w.forCall tape i).memory i.args ∧ X (w.forCall tape i).memory i.args) ∧ sizedMet enc C.prog fn (OpenSpec.ofChange s) apart (w.forCall tape i).memory i.args) ∧ a.holds C.prog (lone (Frame.enter C.prog f i.args .normal) [] (w.forCall tape i)))
    (contract : ∀ (W : World) (base : Nat) (args : Array Value) (ds gs : List (DataW H)) (before : List MemPlace),
      (∀ (j : Nat) t v, fn.params[j]? = some t → args[j]? = some v → Value.okWide C.prog W .any base t v) →
      DataW.Whole enc C.prog fn.params.toList s.vars apart W args.toList ds gs before →
      (DataW.weightsEach C.prog (fn.params.toList ++ s.plain.varTypes C.prog) (ds ++ gs)).all (· ≤ reachBytes) = true → X W args → W.ShapedOpen C.prog →
      Calls C.prog f args W fun e W' => ∃ v, e = .returned v ∧ s.post enc C.prog fn apart fresh handsOn again W args v W') :
    ReturnsInHanded a C os f .any (fun w args => (s.pre enc C.prog fn conds apart w args ∧ X w args) ∧ sizedMet enc C.prog fn (OpenSpec.ofChange s) apart w args) (s.post enc C.prog fn apart fresh handsOn again) := by
  refine returnsInHanded_of_calls own started noInit witness fun w tape i _ hsh _ hok hpre _ => ?_
  obtain ⟨⟨⟨ds, gs, before, hw, _⟩, hx⟩, hz⟩ := hpre
  obtain ⟨_, _, _, fn2, hfn2, _, _, _, _, hval⟩ := hok
  cases Option.some.inj (hfn2.symm.trans hfn)
  have hw2 := DataW.Whole.of_heap (w' := w.forCall tape i) (by rfl) hw
  refine (contract _ w.heap.size i.args ds gs before hval hw2 (hz.weights hw) (hX _ _ _ (by rfl) hx) hsh).mono fun e W' h => ?_
  obtain ⟨v, rfl, hp⟩ := h
  exact ChangeSpec.post_blind hp
theorem num_at {W : World} {cs : Array Value} {fuel : Nat} {p : List MemPlace} {ds : List (DataW Unit)} (h4 : DataW.trod (fun _ => ()) Tryz.prog W 0 (fun _ => true) false fuel 96 cs.toList = some (.agg ds, p)) (i : Nat) (hi : i < 15) {l : Int} (hd : ds[i]? = some (.lit (.int .i64 l))) : cs[i]? = some (.int .i64 l) := by
  have hc : Tryz.prog.cellsOf 3 = 1 := by kernel_rfl
  obtain ⟨fuel', d, q, e1, e2⟩ := Lib.array_elem Tryz.underlying96 h4 i hi
  rw [hd] at e1
  cases e1
  obtain ⟨n, e3, e4, -⟩ := DataW.trod_int Tryz.underlying3 e2
  rw [hc, Nat.mul_one] at e3
  have e5 := congrArg (·[0]?) e3
  simp only [List.getElem?_take, List.getElem?_drop, Nat.add_zero, List.getElem?_cons_zero] at e5
  simp at e5
  simp only [Prod.mk.injEq, DataW.lit.injEq, Lit.int.injEq, true_and] at e4
  have e6 := e4.1
  subst e6
  rw [e5]
theorem po_of {W : World} (h : Lib.VarReads Tryz.prog W "caduceus/wire.partsOf" Rows.laid_caduceus_wire_partsOf) : PO W := by
  obtain ⟨g, t, cs, fuel, p, h1, h2, h3, h4⟩ := h
  obtain rfl : g = 0 := Option.some.inj ((show Tryz.prog.globalNamed "caduceus/wire.partsOf" = some 0 by kernel_rfl).symm.trans h1) |>.symm
  obtain rfl : t = 96 := Option.some.inj ((show (Tryz.prog.globals[0]?).map (·.type) = some 96 by kernel_rfl).symm.trans h2) |>.symm
  exact ⟨(World.var?_cell h1 h3 12).trans (num_at h4 12 (by omega) rfl), (World.var?_cell h1 h3 14).trans (num_at h4 14 (by omega) rfl)⟩
theorem w11_of {W : World} (h : laidMetH Tryz.prog laidS W) : PO W ∧ Q.Tab W := by
  rw [MakeChecks.laidMetH_plain _ _ _ (by kernel_rfl)] at h
  have h2 := laidMet.tail h
  have h3 : Lib.TabIs Tryz.prog W "math/bits.deBruijn64tab" .u8 Q.tab64 := Lib.tabIs_of_head (rest := [("unicode/utf8.acceptRanges", Rows.laid_unicode_utf8_acceptRanges), ("caduceus/wire.partsOf", Rows.laid_caduceus_wire_partsOf), ("unicode/utf8.first", Rows.laid_unicode_utf8_first)]) Q.g64 Q.t64 Tryz.underlying183 Tryz.underlying5 (by kernel_rfl) (by kernel_rfl) h2
  exact ⟨po_of (Lib.laidMet.reads h (.tail _ (.tail _ (.tail _ (.head _))))), ⟨h3.cell Q.g64 0 (by decide), h3.cell Q.g64 1 (by decide), h3.cell Q.g64 3 (by decide), h3.cell Q.g64 7 (by decide)⟩⟩
theorem all_met (os : Os) (args : Array Value) : laidMetH Tryz.prog laidS ((World.laidAll Tryz.prog os laidS).forCall (fun _ _ => 0) ⟨#[], args, []⟩).memory := by
  rw [MakeChecks.laidMetH_plain _ _ _ (by kernel_rfl)]
  exact laidMet_laidAll _ (by kernel_rfl) (by kernel_rfl)
theorem list7 {α : Type} {l : List α} (h : l.length = 7) : ∃ c0 c1 c2 c3 c4 c5 c6, l = [c0, c1, c2, c3, c4, c5, c6] := by
  match l, h with
  | [c0, c1, c2, c3, c4, c5, c6], _ => exact ⟨c0, c1, c2, c3, c4, c5, c6, rfl⟩
/-- A packet's cells, read. -/
theorem open_pkc {H : Type} {enc : TypeId × Value → H} {W : World} {b0 : Nat} {sp : Nat → Bool} {held : Bool} {fuel : Nat} {cs : List Value} {x : DataW H × List MemPlace} (h : DataW.trod enc Tryz.prog W b0 sp held fuel 23 cs = some x) :
    ∃ p : Pk, cs = p.cells.toList ∧ p.s.size ≤ maxLen := by
  obtain ⟨xs, n, _, rfl, hl, hlen, hf⟩ := DataW.trod_struct Tryz.underlying23 h
  rw [cellsP] at hl
  obtain ⟨c0, c1, c2, c3, c4, c5, c6, rfl⟩ := list7 hl
  obtain ⟨y0, y1, y2, y3, y4, y5, y6, rfl⟩ := list7 (l := xs) hlen
  have i0 := hf 0 _ rfl
  have i1 := hf 1 _ rfl
  have i2 := hf 2 _ rfl
  have i3 := hf 3 _ rfl
  have i4 := hf 4 _ rfl
  have i5 := hf 5 _ rfl
  have i6 := hf 6 _ rfl
  simp [cellsI, cellsS] at i0 i1 i2 i3 i4 i5 i6
  obtain ⟨n0, e0, -, -⟩ := DataW.trod_int Tryz.underlying3 i0
  obtain ⟨n1, e1, -, -⟩ := DataW.trod_int Tryz.underlying3 i1
  obtain ⟨n2, e2, -, -⟩ := DataW.trod_int Tryz.underlying3 i2
  obtain ⟨n3, e3, -, -⟩ := DataW.trod_int Tryz.underlying3 i3
  obtain ⟨n4, e4, -, -⟩ := DataW.trod_int Tryz.underlying3 i4
  obtain ⟨n5, e5, -, -⟩ := DataW.trod_int Tryz.underlying3 i5
  obtain ⟨s6, e6, -, w6⟩ := DataW.trod_string Tryz.underlying9 i6
  simp at e0 e1 e2 e3 e4 e5 e6
  subst e0 e1 e2 e3 e4 e5 e6
  exact ⟨⟨n0, n1, n2, n3, n4, n5, s6⟩, rfl, w6⟩
set_option maxRecDepth 100000 in
theorem open_pk {H : Type} {enc : TypeId × Value → H} {W : World} {b0 b1 : Nat} {sp : Nat → Bool} {held : Bool} {v : Value} {d : DataW H} {p : List MemPlace} (hv : Value.okWide Tryz.prog W .any b1 23 v) (h : DataW.Trod enc Tryz.prog W b0 sp held 23 v d p) : ∃ q : Pk, v = .agg q.cells ∧ q.s.size ≤ maxLen := by
  obtain ⟨cs, rfl, hsz⟩ := okWide_struct Tryz.underlying23 hv
  obtain ⟨fuel, hf⟩ := h
  obtain ⟨q, hq, hs⟩ := open_pkc hf
  refine ⟨q, ?_, hs⟩
  have e : (Value.agg cs).cells.toList = cs.toList := rfl
  rw [e] at hq
  rw [Array.toList_inj.1 hq]
end Go.Proofs.YtoplpohpodkpdaaGreatDoor
