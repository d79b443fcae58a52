/- ring.owner, ring.place: walks. -/
import Derived.Test.YtpepdcbhimjddaaDoorJD
import Derived.Shelf.SlicesQ.IndexFunc
namespace Go.Proofs.YtpepdcbhimjddaaDoor
open Go.RowKit

theorem al_belowJ (w : World) (o : Obj) : Below w.heap.size w (w.alloc o) := (Below.refl _ _).alloc (Nat.le_refl _) _
set_option maxRecDepth 100000 in
theorem owner_fn (key : Int) (B : Nat) (w : World) (hB : B < w.heap.size) (hk : w.cell? ⟨B, 0, none⟩ = some (.int .u64 key)) :
    PredBelow Tryd.prog 84 #[.pointer (some ⟨B, 0, none⟩)] (fun x => .agg (enS x).toArray) (fun x : Int × Int => decide (key ≤ x.2)) w := by
  intro W x hb
  have hk2 : W.cell? ⟨B, 0, none⟩ = some (.int .u64 key) := (hb.cell (p := ⟨B, 0, none⟩) hB).trans hk
  have hs := hb.size
  have HB : Hid (Below w.heap.size w (W.alloc (.cells #[.int .i64 x.1, .int .u64 x.2] 117))) := hb.trans ((al_belowJ W _).mono hs)
  show Calls Tryd.prog 84 #[.agg #[.int .i64 x.1, .int .u64 x.2], .pointer (some ⟨B, 0, none⟩)] W _
  have hB2 : B < W.heap.size := by omega
  clear hb
  go_enter Tryd.func84, Tryd.ntmps84
  go_wp2
  go_ret
  exact ⟨rfl, HB.out⟩
theorem index_none (a : Option Addr) (cap : Nat) (f : Value) (w : World) : Calls Tryd.prog 83 #[.slice a 0 cap, f] w fun e w' => e = .returned (.int .i64 (-1)) ∧ w' = w := by
  go_enter Tryd.func83, Tryd.ntmps83
  go_wp2_with fail
  refine wp_loop_rounds 1 ?_
  rw [rounds_succ]
  go_wp2
  go_ret
  exact ⟨rfl, rfl⟩
theorem index_any (p : Int × Int → Bool) (g : Nat) (lb : Array Value) (eg : ∀ args w, (callFunc g args).run Tryd.prog w = .ok (.enter g args) w) (v : Value) (D : List (Int × Int)) (w : World) (hr : IsRow w 2 v D.length (D.flatMap enS)) (hn : D.length ≤ 1000)
    (hp : PredBelow Tryd.prog g lb (fun x => .agg (enS x).toArray) p w) :
    Calls Tryd.prog 83 #[v, .func (.func g) #[] lb] w fun e w' => e = .returned (.int .i64 (Lib.idxBy (fun _ y => p y) D default)) ∧ Below w.heap.size w w' := by
  by_cases h0 : D.length = 0
  · obtain rfl := List.eq_nil_of_length_eq_zero h0
    obtain ⟨a, cap, rfl⟩ := hr.form
    refine (index_none a cap _ w).mono ?_
    rintro e w' ⟨rfl, rfl⟩
    exact ⟨rfl, Below.refl _ _⟩
  · obtain ⟨b, off, cap, rfl, hlt, q1, q2, hc⟩ := hr.open (by omega)
    have := AnyQ.slices_IndexFunc Tryd.idxSt 2 Tryd.isAgg117 Tryd.sizeOf117 enS (fun _ => rfl) p g lb eg b off D.length cap D w hp (Nat.le_refl _) (by omega) hlt (fun j hj i u hu => by
      have hi : i < 2 := (List.getElem?_eq_some_iff.1 hu).1
      refine hc (j * 2 + i) u ?_ |> fun h => by rw [Nat.add_assoc]; exact h
      rw [flat_get D (j * 2 + i) (by omega), show (j * 2 + i) / 2 = j by omega, show (j * 2 + i) % 2 = i by omega, ← hu]
      rw [List.getElem?_eq_getElem hi, getElem!_pos _ i hi])
    rw [List.take_length] at this
    exact this
set_option maxRecDepth 100000 in
theorem owner_any (key : Nat) (v : Value) (r : List Nat) (w : World) (hr : IsRow w 2 v r.length (stCells r)) (hs : r.Pairwise (fun a b => pt a < pt b)) (hn : r.length ≤ 1000) :
    Calls Tryd.prog 63 #[.int .u64 (key : Int), v] w fun e w' => e = .returned (.int .i64 (owI key r : Int)) ∧ Below w.heap.size w w' := by
  have eg : ∀ args w, (callFunc 84 args).run Tryd.prog w = .ok (.enter 84 args) w := enters_of Tryd.func84 (by kernel_rfl) rfl
  have hA := al_belowJ w (.cells #[.int .u64 (key : Int)] 92)
  have HX := idx_owner key r hs
  have hi := index_any (fun x : Int × Int => decide ((key : Int) ≤ x.2)) 84 #[.pointer (some ⟨w.heap.size, 0, none⟩)] eg v (r.map st) (w.alloc (.cells #[.int .u64 (key : Int)] 92)) (by rw [List.length_map]; exact hr.below hA) (by rw [List.length_map]; exact hn) (owner_fn (key : Int) w.heap.size _ (by simp) (by simp))
  generalize Lib.idxBy (fun _ (y : Int × Int) => decide ((key : Int) ≤ y.2)) (r.map st) default = X at *
  have HI : Hid (Calls Tryd.prog 83 #[v, .func (.func 84) #[] #[.pointer (some ⟨w.heap.size, 0, none⟩)]] (w.alloc (.cells #[.int .u64 (key : Int)] 92)) fun e w' => e = .returned (.int .i64 X) ∧ Below (w.heap.size + 1) (w.alloc (.cells #[.int .u64 (key : Int)] 92)) w') := hi.mono fun e w' h => ⟨h.1, h.2.mono (by simp)⟩
  clear hi eg
  have HXX : Hid (max X 0 = (owI key r : Int)) := HX
  clear HX
  go_enter Tryd.func63, Tryd.ntmps63
  go_wp2_with fail
  refine HI.out.mono ?_
  rintro e w1 ⟨rfl, hb1⟩
  have HB : Hid (Below w.heap.size w w1) := hA.trans (hb1.mono (by omega))
  clear hb1 hA
  go_wp2
  go_ret
  exact ⟨by rw [← HXX.out]; rfl, HB.out⟩
/-- The place of a node on a ring. -/
def plI (node : Int) (r : List Nat) : Int := Lib.idxBy (fun _ (y : Int × Int) => y.1 == node) (r.map st) default
end Go.Proofs.YtpepdcbhimjddaaDoor
