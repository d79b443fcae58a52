/- The net's New, Apart, Cut, Len; the law's packet: walks. -/
import Derived.Test.YthbhgblgacoklaaHK
namespace Go.Proofs.Ythbhgblgacoklaa
open Go.RowKit

theorem results_cell1 {fn : Func} {p : Tmp} {ty : TypeId} (h : fn.results = #[.cell p ty]) (tmps : Array Value) (P : Program) (w : World) :
    (results fn tmps).run P w = ((asAddr (tmps.getD p undef)).run P w).andThen fun a w₁ => (loadVar ty a).run P w₁ := by
  simp only [results, h]
  simp [Sem.run_bind, Result.andThen]
theorem packet_any (f t s : Int) (x : ByteArray) (w : World) : Calls Try.prog 21 #[.int .i64 f, .int .i64 t, .int .i64 s, .string x] w fun e w' => e = .returned (pV ⟨f, t, 1, 1, s, 0, x⟩) ∧ Below w.heap.size w w' := by
  go_enter Try.func21, Try.ntmps21
  go_wp2
  try simp only [Exit.inBlock, Exit.then]
  refine bodyPost_ret (v := pV ⟨f, t, 1, 1, s, 0, x⟩) ?_ rfl ⟨rfl, ?_⟩
  · rw [results_cell1 rfl]; go_simp
  · exact al_b w _
/-- No packets, nobody apart. -/
def noR : Nat → List Pk := fun _ => []
def noA : Nat → Bool := fun _ => false
def noV : Nat → Value := fun _ => .slice none 0 0
def zList : List Value := List.replicate 256 (Value.slice none 0 0) ++ List.replicate 256 (Value.bool false)
def zNet : Array Value := zList.toArray
theorem zNet_at : zNet.size = 512 ∧ (∀ c, c < 256 → zNet[c]? = some (noV c)) ∧ (∀ c, c < 256 → zNet[256 + c]? = some (.bool (noA c))) := by
  refine ⟨?_, fun c hc => ?_, fun c hc => ?_⟩
  · unfold zNet zList
    rw [List.size_toArray, List.length_append, List.length_replicate, List.length_replicate]
  · unfold zNet zList
    rw [List.getElem?_toArray, List.getElem?_append_left (by rw [List.length_replicate]; exact hc), List.getElem?_replicate, if_pos hc]; rfl
  · unfold zNet zList
    rw [List.getElem?_toArray, List.getElem?_append_right (by rw [List.length_replicate]; omega), List.length_replicate, List.getElem?_replicate, if_pos (by omega)]; rfl
theorem zNet_is (w : World) : (zeroValue 69).run Try.prog w = .ok (.agg zNet) w := by kernel_rfl
theorem net_new (w : World) : NetV w.heap.size (w.alloc (.cells zNet 69)) w.heap.size noV noR noA :=
  ⟨Nat.le_refl _, ⟨zNet, heap_alloc_new w _, zNet_at.1, zNet_at.2.1, zNet_at.2.2⟩, fun c _ => .inl ⟨rfl, rfl⟩, fun c _ => by simp [noV, Value.ownBlock], fun c d _ _ _ => .inl rfl⟩
set_option maxRecDepth 100000 in
theorem new_any (w : World) : Calls Try.prog 8 #[] w fun e w' => e = .returned (nP w.heap.size) ∧ w' = w.alloc (.cells zNet 69) := by
  have hz := zNet_is
  go_enter Try.func8, Try.ntmps8
  go_wp2
  go_ret
  exact ⟨rfl, rfl⟩
theorem NetV.drew {base : Nat} {w : World} {g : Nat} {V : Nat → Value} {R : Nat → List Pk} {A : Nat → Bool} (h : NetV base w g V R A) : NetV base w.drew g V R A := h.keep fun _ _ => rfl
theorem NStep.drew {w w1 : World} {g : Nat} {V V' : Nat → Value} (h : NStep w g V V' w1) : NStep w g V V' w1.drew := ⟨h.os, h.tape, h.output, h.size, h.block, h.fp⟩
def apartE (a b : Int) : Int := if hopB a b = true then 0 else 1
def apartA (A : Nat → Bool) (a b : Int) (on : Bool) : Nat → Bool := if hopB a b = true then up (up A (rix a b) on) (rix b a) on else A
theorem up_comm {α : Type} (F : Nat → α) {c d : Nat} (x y : α) (h : c ≠ d) : up (up F c x) d y = up (up F d y) c x := by
  funext k; simp only [up]; split <;> split <;> first | rfl | (exact absurd (by omega) h)
/-- Two nodes are apart, or not: both ways, in either order. -/
theorem net_cut2 {base : Nat} {w : World} {g : Nat} {V : Nat → Value} {R : Nat → List Pk} {A : Nat → Bool} (hv : NetV base w g V R A) {c d : Nat} (hc : c < 256) (hd : d < 256) (b : Bool) :
    NetV base ((w.setCell ⟨g, 256 + c, none⟩ (.bool b)).setCell ⟨g, 256 + d, none⟩ (.bool b)) g V R (up (up A c b) d b) ∧ NStep w g V V ((w.setCell ⟨g, 256 + c, none⟩ (.bool b)).setCell ⟨g, 256 + d, none⟩ (.bool b)) := by
  obtain ⟨h1, s1⟩ := net_cut hv hc b
  obtain ⟨h2, s2⟩ := net_cut h1 hd b
  exact ⟨h2, s1.trans s2⟩
theorem cell_set_near {w : World} {g : Nat} {cur : Array Value} {t : TypeId} (hb : w.heap[g]? = some (.cells cur t (0, 0))) (o : Nat) (v : Value) : (∀ o', (w.setCell ⟨g, o, none⟩ v).frozen? ⟨g, o', none⟩ = false) ∧ ∀ o', o' ≠ o → (w.setCell ⟨g, o, none⟩ v).cell? ⟨g, o', none⟩ = w.cell? ⟨g, o', none⟩ := by
  obtain ⟨s1, -⟩ := setCell_at w o hb v
  refine ⟨fun o' => by simp [World.frozen?, s1], fun o' h => ?_⟩
  rw [cell_of_row _ g o' _ t (0, 0) s1, cell_of_row w g o' cur t (0, 0) hb, Array.getElem?_setIfInBounds_ne (Ne.symm h)]
set_option maxRecDepth 100000 in
set_option maxHeartbeats 2000000 in
theorem apart_any {base : Nat} {w : World} {g : Nat} {V : Nat → Value} {R : Nat → List Pk} {A : Nat → Bool} (f t : Int) (on : Bool) (hv : NetV base w g V R A) :
    Calls Try.prog 25 #[nP g, .int .i64 f, .int .i64 t, .bool on] w fun e w' => NP base w g V R (apartA A f t on) (.int .i64 (apartE f t)) e w' := by
  have hB1 : Below w.heap.size w (w.alloc (.cells #[.int .i64 f, .int .i64 t] 33)) := al_b w _
  have HB : Hid (Below w.heap.size w (w.alloc (.cells #[.int .i64 f, .int .i64 t] 33))) := hB1
  have HV : Hid (NetV base (w.alloc (.cells #[.int .i64 f, .int .i64 t] 33)) g V R A) := hv.below hB1
  have HI : Hid (∀ f t w, Calls Try.prog 34 #[hV f t] w fun e w' => e = .returned (.bool (hopB f t)) ∧ w' = w.alloc (.cells #[.int .i64 f, .int .i64 t] 33)) := isHop_any
  clear hv hB1
  cases hh : hopB f t with
  | false =>
    have e0 : apartA A f t on = A := by unfold apartA; rw [hh]; rfl
    have e1 : apartE f t = 1 := by unfold apartE; rw [hh]; rfl
    rw [e0, e1]
    go_enter Try.func25, Try.ntmps25
    go_wp2_with fail
    refine (HI.out f t _).mono ?_
    rintro e w1 ⟨rfl, rfl⟩
    rw [hh]
    go_wp2
    go_ret
    exact ⟨rfl, V, HV.out, NStep.of g V HB.out⟩
  | true =>
    have e0 : apartA A f t on = up (up A (rix f t) on) (rix t f) on := by unfold apartA; rw [hh]; rfl
    have e1 : apartE f t = 0 := by unfold apartE; rw [hh]; rfl
    rw [e0, e1]
    obtain ⟨a, b, rfl, rfl, h1, h2, h3, h4, h5⟩ := hop_nat hh
    rw [rix_nat, rix_nat]
    clear e0 e1
    have q1 : (0 : Int) ≤ (a : Int) := by omega
    have q2 : (a : Int) < 16 := by omega
    have q3 : (0 : Int) ≤ (b : Int) := by omega
    have q4 : (b : Int) < 16 := by omega
    go_enter Try.func25, Try.ntmps25
    go_wp2_with fail
    refine (HI.out _ _ _).mono ?_
    rintro e w1 ⟨rfl, rfl⟩
    rw [hh]
    generalize w.alloc (.cells #[.int .i64 a, .int .i64 b] 33) = W at *
    obtain ⟨-, c1, -, f1, hg⟩ := HV.out.cell (a * 16 + b) (by omega)
    obtain ⟨-, c2, -, f2, -⟩ := HV.out.cell (b * 16 + a) (by omega)
    rw [← Nat.add_assoc] at c1 c2 f1 f2
    obtain ⟨cur, hcur, -⟩ := HV.out.blk
    obtain ⟨m1, m2⟩ := cell_set_near hcur (256 + a * 16 + b) (.bool on)
    have d1 := m1 (256 + b * 16 + a)
    have d2 := (m2 (256 + b * 16 + a) (by omega)).trans c2
    obtain ⟨m3, m4⟩ := cell_set_near hcur (256 + b * 16 + a) (.bool on)
    have d3 := m3 (256 + a * 16 + b)
    have d4 := (m4 (256 + a * 16 + b) (by omega)).trans c1
    have HF : Hid (NetV base ((W.setCell ⟨g, 256 + a * 16 + b, none⟩ (.bool on)).setCell ⟨g, 256 + b * 16 + a, none⟩ (.bool on)) g V R (up (up A (a * 16 + b) on) (b * 16 + a) on) ∧ NStep w g V V ((W.setCell ⟨g, 256 + a * 16 + b, none⟩ (.bool on)).setCell ⟨g, 256 + b * 16 + a, none⟩ (.bool on))) := by
      have := net_cut2 HV.out (c := a * 16 + b) (d := b * 16 + a) (by omega) (by omega) on
      rw [← Nat.add_assoc, ← Nat.add_assoc] at this
      exact ⟨this.1, (NStep.of g V HB.out).trans this.2⟩
    clear m1 m2 m3 m4 hcur hh d3 d4
    go_wp2_with fail
    go_region_held3 (fun _ => True) (trivial) (fail)
    go_wp2
    go_ret
    exact ⟨rfl, V, HF.out.1.drew, HF.out.2.drew⟩
theorem NP.same {base : Nat} {w w' : World} {g : Nat} {V : Nat → Value} {R : Nat → List Pk} {A : Nat → Bool} {r : Value} (hv : NetV base w g V R A) (hb : Below w.heap.size w w') : NP base w g V R A r (.returned r) w' := ⟨rfl, V, hv.below hb, NStep.of g V hb⟩
set_option maxRecDepth 100000 in
set_option maxHeartbeats 1000000 in
theorem cut_any {base : Nat} {w : World} {g : Nat} {V : Nat → Value} {R : Nat → List Pk} {A : Nat → Bool} (f t : Int) (hv : NetV base w g V R A) :
    Calls Try.prog 16 #[nP g, .int .i64 f, .int .i64 t] w fun e w' => e = .returned (.bool (hopB f t && A (rix f t))) ∧ Below w.heap.size w w' := by
  have hB1 : Below w.heap.size w (w.alloc (.cells #[.int .i64 f, .int .i64 t] 33)) := al_b w _
  have HB : Hid (Below w.heap.size w (w.alloc (.cells #[.int .i64 f, .int .i64 t] 33))) := hB1
  have HV : Hid (NetV base (w.alloc (.cells #[.int .i64 f, .int .i64 t] 33)) g V R A) := hv.below hB1
  have HI : Hid (∀ f t w, Calls Try.prog 34 #[hV f t] w fun e w' => e = .returned (.bool (hopB f t)) ∧ w' = w.alloc (.cells #[.int .i64 f, .int .i64 t] 33)) := isHop_any
  clear hv hB1
  cases hh : hopB f t with
  | false =>
    rw [Bool.false_and]
    go_enter Try.func16, Try.ntmps16
    go_wp2_with fail
    refine (HI.out f t _).mono ?_
    rintro e w1 ⟨rfl, rfl⟩
    rw [hh]
    go_wp2
    go_ret
    exact ⟨rfl, HB.out⟩
  | true =>
    rw [Bool.true_and]
    obtain ⟨a, b, rfl, rfl, h1, h2, h3, h4, h5⟩ := hop_nat hh
    rw [rix_nat]
    have q1 : (0 : Int) ≤ (a : Int) := by omega
    have q2 : (a : Int) < 16 := by omega
    have q3 : (0 : Int) ≤ (b : Int) := by omega
    have q4 : (b : Int) < 16 := by omega
    obtain ⟨-, c1, -, -, -⟩ := HV.out.cell (a * 16 + b) (by omega)
    rw [← Nat.add_assoc] at c1
    generalize A (a * 16 + b) = o at *
    go_enter Try.func16, Try.ntmps16
    go_wp2_with fail
    refine (HI.out _ _ _).mono ?_
    rintro e w1 ⟨rfl, rfl⟩
    rw [hh]
    go_wp2
    go_ret
    exact ⟨rfl, HB.out⟩
def lenI (R : Nat → List Pk) (f t : Int) : Nat := if hopB f t = true then (R (rix f t)).length else 0
set_option maxRecDepth 100000 in
set_option maxHeartbeats 1000000 in
theorem len_any {base : Nat} {w : World} {g : Nat} {V : Nat → Value} {R : Nat → List Pk} {A : Nat → Bool} (f t : Int) (hv : NetV base w g V R A) :
    Calls Try.prog 15 #[nP g, hV f t] w fun e w' => e = .returned (.int .i64 (lenI R f t)) ∧ Below w.heap.size w w' := by
  have hB1 : Below w.heap.size w ((w.alloc (.cells #[.int .i64 f, .int .i64 t] 33)).alloc (.cells #[.int .i64 f, .int .i64 t] 33)) := (al_b w _).trans ((al_b _ _).mono (by simp))
  have HB : Hid (Below w.heap.size w ((w.alloc (.cells #[.int .i64 f, .int .i64 t] 33)).alloc (.cells #[.int .i64 f, .int .i64 t] 33))) := hB1
  have HV : Hid (NetV base ((w.alloc (.cells #[.int .i64 f, .int .i64 t] 33)).alloc (.cells #[.int .i64 f, .int .i64 t] 33)) g V R A) := hv.below hB1
  have HI : Hid (∀ f t w, Calls Try.prog 34 #[hV f t] w fun e w' => e = .returned (.bool (hopB f t)) ∧ w' = w.alloc (.cells #[.int .i64 f, .int .i64 t] 33)) := isHop_any
  clear hv hB1
  cases hh : hopB f t with
  | false =>
    have e0 : lenI R f t = 0 := by unfold lenI; rw [hh]; rfl
    rw [e0]
    go_enter Try.func15, Try.ntmps15
    go_wp2_with fail
    refine (HI.out f t _).mono ?_
    rintro e w1 ⟨rfl, rfl⟩
    rw [hh]
    go_wp2
    go_ret
    exact ⟨rfl, HB.out⟩
  | true =>
    have e0 : lenI R f t = (R (rix f t)).length := by unfold lenI; rw [hh]; rfl
    rw [e0]
    obtain ⟨a, b, rfl, rfl, h1, h2, h3, h4, h5⟩ := hop_nat hh
    rw [rix_nat]
    clear e0
    have q1 : (0 : Int) ≤ (a : Int) := by omega
    have q2 : (a : Int) < 16 := by omega
    have q3 : (0 : Int) ≤ (b : Int) := by omega
    have q4 : (b : Int) < 16 := by omega
    obtain ⟨c1, -⟩ := HV.out.cell (a * 16 + b) (by omega)
    obtain ⟨a0, cap0, hf⟩ := (HV.out.own (a * 16 + b) (by omega)).form
    rw [hf] at c1
    clear hf
    generalize (R (a * 16 + b)).length = n at *
    go_enter Try.func15, Try.ntmps15
    go_wp2_with fail
    refine (HI.out _ _ _).mono ?_
    rintro e w1 ⟨rfl, rfl⟩
    rw [hh]
    go_wp2_with fail
    go_quiet (fail)
    go_wp2
    go_ret
    exact ⟨rfl, drewN_b HB.out _⟩
end Go.Proofs.Ythbhgblgacoklaa
