/- Types that came in; three names that came in. -/
import Derived.Test.YtkcnkjaeidbjbaaGreatDoorZp
import Derived.Test.YtkcnkjaeidbjbaaGreatDoorZs
import Derived.Test.YtkcnkjaeidbjbaaGreatDoorFoE
import Derived.Test.YtkcnkjaeidbjbaaGreatDoorZr
import Derived.Test.YtkcnkjaeidbjbaaGreatDoorZo
namespace Go.Proofs.YtkcnkjaeidbjbaaGreatDoor
open Go.ChangeShapes Go.WideShapes Go.ChangeAt Go.WideMaps Go.WideElems Go.RowKit Go.Deep

theorem cTy : Tryz.prog.cellsOf 30 = 8 := by kernel_rfl
theorem cSlS : Tryz.prog.cellsOf 28 = 1 := by kernel_rfl
theorem listT6 {α : Type} {l : List α} (h : l.length = 6) : ∃ c0 c1 c2 c3 c4 c5, l = [c0, c1, c2, c3, c4, c5] := by
  match l, h with
  | [c0, c1, c2, c3, c4, c5], _ => exact ⟨c0, c1, c2, c3, c4, c5, rfl⟩
theorem listS8 {α : Type} {l : List α} (h : l.length = 8) : ∃ c0 c1 c2 c3 c4 c5 c6 c7, l = [c0, c1, c2, c3, c4, c5, c6, c7] := by
  match l, h with
  | [c0, c1, c2, c3, c4, c5, c6, c7], _ => exact ⟨c0, c1, c2, c3, c4, c5, c6, c7, rfl⟩
theorem open_names {H : Type} {enc : TypeId × Value → H} {w : World} {fuel : Nat} {v : Value} {x : DataW H × List MemPlace} (h : DataW.trod enc Tryz.prog w 0 (fun _ => true) true fuel 28 [v] = some x) (hz : ∀ n ∈ x.1.weights Tryz.prog 28, n ≤ reachBytes) :
    ∃ l : List ByteArray, IsRow w 1 v l.length (sVals l) ∧ l.length ≤ 140737488355328 := by
  obtain ⟨l, h1, h2⟩ := open_rows (fun s => [Value.string s]) 1 16 Tryz.underlying28 cS (by kernel_rfl) (fun _ => rfl) (by omega) (by omega)
    (fun fuel cs y hy => by
      obtain ⟨s, e0, -, -⟩ := DataW.trod_string Tryz.underlying9 hy
      exact ⟨s, e0⟩) h hz
  have e : l.flatMap (fun s => [Value.string s]) = sVals l := by
    clear h1 h2
    induction l with
    | nil => rfl
    | cons a r ih => rw [List.flatMap_cons, ih]; rfl
  rw [e] at h1
  exact ⟨l, h1, h2⟩
set_option maxRecDepth 100000 in
theorem open_ty {H : Type} {enc : TypeId × Value → H} {W : World} (fuel : Nat) (cs : List Value) (x : DataW H × List MemPlace) (h : DataW.trod enc Tryz.prog W 0 (fun _ => true) true fuel 30 cs = some x) (hz : ∀ n ∈ x.1.weights Tryz.prog 30, n ≤ reachBytes) :
    ∃ z : LT, cs = enT z ∧ (IsTy W z.t z.vo z.va z.vc ∧ InT z.t) := by
  obtain ⟨xs, n, _, rfl, hl, hlen, hf⟩ := DataW.trod_struct Tryz.underlying30 h
  rw [cTy] at hl
  obtain ⟨c0, c1, c2, c3, c4, c5, c6, c7, rfl⟩ := listS8 hl
  obtain ⟨y0, y1, y2, y3, y4, y5, rfl⟩ := listT6 (l := xs) hlen
  have i0 := hf 0 _ rfl
  have i1 := hf 1 _ rfl
  have i2 := hf 2 _ rfl
  have i3 := hf 3 _ rfl
  have i4 := hf 4 _ rfl
  have i5 := hf 5 _ rfl
  simp [cID, cS, cSlF, cSlS] at i0 i1 i2 i3 i4 i5
  obtain ⟨s, e0, -, -⟩ := DataW.trod_string Tryz.underlying9 i0
  obtain ⟨p, e1, -, -⟩ := DataW.trod_string Tryz.underlying9 i1
  obtain ⟨a, b, c, e5⟩ := open_id _ _ _ i5
  simp at e0 e1 e5
  obtain ⟨rfl, rfl, rfl⟩ := e5
  subst e0 e1
  obtain ⟨lo, ho, bo⟩ := open_fds i2 (fun m hm => hz m (by
    simp only [DataW.weights, Tryz.underlying30, List.map_cons, List.map_nil, DataW.weightsEach, List.mem_append]
    exact .inr (.inr (.inl hm))))
  obtain ⟨la, ha, ba⟩ := open_fds i3 (fun m hm => hz m (by
    simp only [DataW.weights, Tryz.underlying30, List.map_cons, List.map_nil, DataW.weightsEach, List.mem_append]
    exact .inr (.inr (.inr (.inl hm)))))
  obtain ⟨lc, hc, bc⟩ := open_names i4 (fun m hm => hz m (by
    simp only [DataW.weights, Tryz.underlying30, List.map_cons, List.map_nil, DataW.weightsEach, List.mem_append]
    exact .inr (.inr (.inr (.inr (.inl hm))))))
  obtain ⟨so, no, rfl⟩ := ho.form
  obtain ⟨sa, na, rfl⟩ := ha.form
  obtain ⟨sc, nc, rfl⟩ := hc.form
  exact ⟨⟨⟨s, p, lo, la, lc, a, b, c⟩, so, no, sa, na, sc, nc⟩, rfl, ⟨ho, ha, hc⟩, bo, ba, bc⟩
instance : Inhabited LT := ⟨⟨⟨⟨#[]⟩, ⟨#[]⟩, [], [], [], 0, 0, 0⟩, none, 0, none, 0, none, 0⟩⟩
set_option maxRecDepth 100000 in
theorem open_tys {H : Type} {enc : TypeId × Value → H} {w : World} {fuel : Nat} {v : Value} {x : DataW H × List MemPlace} (h : DataW.trod enc Tryz.prog w 0 (fun _ => true) true fuel 22 [v] = some x) (hz : ∀ n ∈ x.1.weights Tryz.prog 22, n ≤ reachBytes) :
    ∃ L : List LT, IsTys w v L ∧ L.length ≤ 140737488355328 ∧ ∀ z ∈ L, InT z.t := by
  obtain ⟨l, h1, h2, h3⟩ := open_rowsP enT 8 128 Tryz.underlying22 cTy (by kernel_rfl) (fun _ => rfl) (by omega) (by omega) (fun z => IsTy w z.t z.vo z.va z.vc ∧ InT z.t) open_ty h hz
  exact ⟨l, ⟨h1, fun z hz => (h3 z hz).1⟩, h2, fun z hz => (h3 z hz).2⟩
end Go.Proofs.YtkcnkjaeidbjbaaGreatDoor
/- forest.Fits: its walk. -/
namespace Go.Proofs.YtkcnkjaeidbjbaaGreatDoor
open Go.RowKit Go.ChangeMaps

abbrev evA (a b c : Int) (k : ByteArray) (u : Value) : Array Value := #[.int .i64 a, .int .i64 b, .int .i64 c, .string k, u]
/-- Whether an event fits a type. -/
def fitsT (t : Ty) (k : ByteArray) (l : List At) : Int := if chkT t = true then (if sameL k.data.toList t.n.data.toList = true then fitsL t.all l else 4) else 1
set_option maxRecDepth 100000 in
set_option maxHeartbeats 4000000 in
theorem fitsT_any (o : LT) (a b c : Int) (k : ByteArray) (u : Value) (l : List At) (w : World) (ho : IsTy w o.t o.vo o.va o.vc) (no : NmT o.t) (hk : k.size ≤ 1000000) (hq : IsRow w 4 u l.length (aCells l)) (hl : l.length ≤ 1000000) (hn : NmA l) (hW : W3 w) :
    Calls Tryz.prog 29 #[ltV o, .agg (evA a b c k u)] w fun e w' => e = .returned (.int .i64 (fitsT o.t k l)) ∧ Below w.heap.size w w' := by
  obtain ⟨au, cu, rfl⟩ := hq.form
  obtain ⟨W0, hW0⟩ : ∃ W0, W0 = (w.alloc (.cells (tyA o.t o.vo o.va o.vc) 30)).alloc (.cells (evA a b c k (.slice au l.length cu)) 63) := ⟨_, rfl⟩
  have hA : Below w.heap.size w W0 := by rw [hW0]; exact (al_b w _).trans ((al_b _ _).mono (by simp))
  have hz : W0.heap.size = w.heap.size + 2 := by rw [hW0]; simp
  have hn0 : W0.heap[w.heap.size]? = some (.cells (tyA o.t o.vo o.va o.vc) 30 (0, 0)) := by
    rw [hW0]
    show ((w.heap.push _).push _)[w.heap.size]? = _
    rw [Array.getElem?_push, if_neg (by simp), Array.getElem?_push, if_pos rfl]
  have hn1 : W0.heap[w.heap.size + 1]? = some (.cells (evA a b c k (.slice au l.length cu)) 63 (0, 0)) := by
    rw [hW0]
    show ((w.heap.push _).push _)[w.heap.size + 1]? = _
    rw [Array.getElem?_push, if_pos (by simp)]
  have HX : Hid (∀ W, Below W0.heap.size W0 W → BxT w.heap.size o.t o.vo o.va o.vc W) := fun W h => BxT.of ((h.block _ (by omega)).trans hn0)
  have HE : Hid (∀ W, Below W0.heap.size W0 W → W.cell? ⟨w.heap.size + 1, 3, none⟩ = some (.string k) ∧ W.cell? ⟨w.heap.size + 1, 4, none⟩ = some (.slice au l.length cu)) := fun W h => by
    have e : ∀ j, W.cell? ⟨w.heap.size + 1, j, none⟩ = (evA a b c k (.slice au l.length cu))[j]? := fun j => by rw [Lib.cell_of_heap ((h.block _ (by omega)).trans hn1)]
    exact ⟨e 3, e 4⟩
  have HSz : Hid (∀ W, Below W0.heap.size W0 W → w.heap.size + 1 < W.heap.size ∧ w.heap.size < W.heap.size) := fun W h => by have := h.size; omega
  have HBw : Hid (∀ W, Below W0.heap.size W0 W → Below w.heap.size w W) := fun W h => hA.trans (h.mono hA.size)
  have HCo : Hid (∀ W, Below W0.heap.size W0 W → Calls Tryz.prog 40 #[ltV o] W fun e w' => e = .returned (.bool (chkT o.t)) ∧ Below W.heap.size W w') := fun W h => checkT_any _ _ _ _ W (ho.below (HBw.out W h)) no (Utf8Tabs_below hW.t (HBw.out W h)) (ML_below hW.m (HBw.out W h))
  have HS : Hid (∀ W, Below W0.heap.size W0 W → Calls Tryz.prog 65 #[.string k, .string o.t.n] W fun e w' => e = .returned (.bool (sameL k.data.toList o.t.n.data.toList)) ∧ Below W.heap.size W w') := fun W h => same_any _ _ W hk no.n (Utf8Tabs_below hW.t (HBw.out W h))
  have HF : Hid (∀ W, Below W0.heap.size W0 W → Calls Tryz.prog 66 #[o.va, .slice au l.length cu] W fun e w' => e = .returned (.int .i64 (fitsL o.t.all l)) ∧ Below W.heap.size W w') := fun W h => fits_any _ _ o.t.all l W (ho.2.1.below (HBw.out W h)) (hq.below (HBw.out W h)) no.la hl no.a hn (Utf8Tabs_below hW.t (HBw.out W h)) (ML_below hW.m (HBw.out W h))
  have HD : Hid (fitsT o.t k l = if chkT o.t = true then (if sameL k.data.toList o.t.n.data.toList = true then fitsL o.t.all l else 4) else 1) := rfl
  generalize fitsT o.t k l = R at *
  generalize chkT o.t = C at *
  generalize sameL k.data.toList o.t.n.data.toList = S at *
  generalize fitsL o.t.all l = F at *
  clear hq hl hn hW hA hn0 hn1 hk ho no
  have HW0 : Hid (Below W0.heap.size W0 W0) := Below.refl _ _
  go_enter Tryz.func29, Tryz.ntmps29
  go_wp2_with fail
  rw [← hW0]
  clear hW0
  obtain ⟨⟨g0, g1, g2, g3⟩, g4, g5, g6, g7⟩ := HX.out W0 HW0.out
  obtain ⟨k0, k1⟩ := HE.out W0 HW0.out
  obtain ⟨s1, s0⟩ := HSz.out W0 HW0.out
  go_wp2_with fail
  refine (HCo.out _ HW0.out).mono ?_
  rintro e w1 ⟨rfl, hb⟩
  have Hw1 : Hid (Below W0.heap.size W0 w1) := hb
  clear hb g0 g1 g2 g3 g4 g5 g6 g7 k0 k1 s1 s0
  cases C
  · have hR : R = 1 := by rw [HD.out, if_neg (by decide)]
    subst hR
    have HB : Hid (Below w.heap.size w w1) := HBw.out _ Hw1.out
    clear HX HE HSz HBw HCo HS HF HD
    go_wp2
    go_ret
    exact ⟨rfl, HB.out⟩
  obtain ⟨⟨g0, g1, g2, g3⟩, g4, g5, g6, g7⟩ := HX.out w1 Hw1.out
  obtain ⟨k0, k1⟩ := HE.out w1 Hw1.out
  obtain ⟨s1, s0⟩ := HSz.out w1 Hw1.out
  go_wp2_with fail
  refine (HS.out _ Hw1.out).mono ?_
  rintro e w2 ⟨rfl, hb⟩
  have Hw2 : Hid (Below W0.heap.size W0 w2) := Hw1.out.trans (hb.mono Hw1.out.size)
  clear hb g0 g1 g2 g3 g4 g5 g6 g7 k0 k1 s1 s0
  cases S
  · have hR : R = 4 := by rw [HD.out]; simp
    subst hR
    have HB : Hid (Below w.heap.size w w2) := HBw.out _ Hw2.out
    clear HX HE HSz HBw HCo HS HF HD
    go_wp2
    go_ret
    exact ⟨rfl, HB.out⟩
  have hR : R = F := by rw [HD.out]; simp
  subst hR
  obtain ⟨⟨g0, g1, g2, g3⟩, g4, g5, g6, g7⟩ := HX.out w2 Hw2.out
  obtain ⟨k0, k1⟩ := HE.out w2 Hw2.out
  obtain ⟨s1, s0⟩ := HSz.out w2 Hw2.out
  go_wp2_with fail
  refine (HF.out _ Hw2.out).mono ?_
  rintro e w3 ⟨rfl, hb⟩
  have HB : Hid (Below w.heap.size w w3) := HBw.out _ (Hw2.out.trans (hb.mono Hw2.out.size))
  clear hb g0 g1 g2 g3 g4 g5 g6 g7 k0 k1 s1 s0
  go_wp2
  go_ret
  exact ⟨rfl, HB.out⟩
end Go.Proofs.YtkcnkjaeidbjbaaGreatDoor
/- Attributes, an event that came in. -/
namespace Go.Proofs.YtkcnkjaeidbjbaaGreatDoor
open Go.ChangeShapes Go.WideShapes Go.ChangeAt Go.WideMaps Go.WideElems Go.RowKit Go.Deep

theorem cA : Tryz.prog.cellsOf 75 = 4 := by kernel_rfl
theorem cV : Tryz.prog.cellsOf 73 = 3 := by kernel_rfl
theorem cEv : Tryz.prog.cellsOf 63 = 5 := by kernel_rfl
theorem cSlA : Tryz.prog.cellsOf 61 = 1 := by kernel_rfl
theorem listE2 {α : Type} {l : List α} (h : l.length = 2) : ∃ c0 c1, l = [c0, c1] := by
  match l, h with
  | [c0, c1], _ => exact ⟨c0, c1, rfl⟩
theorem listE4 {α : Type} {l : List α} (h : l.length = 4) : ∃ c0 c1 c2 c3, l = [c0, c1, c2, c3] := by
  match l, h with
  | [c0, c1, c2, c3], _ => exact ⟨c0, c1, c2, c3, rfl⟩
theorem listE5 {α : Type} {l : List α} (h : l.length = 5) : ∃ c0 c1 c2 c3 c4, l = [c0, c1, c2, c3, c4] := by
  match l, h with
  | [c0, c1, c2, c3, c4], _ => exact ⟨c0, c1, c2, c3, c4, rfl⟩
theorem open_vv {H : Type} {enc : TypeId × Value → H} {W : World} (fuel : Nat) (cs : List Value) (x : DataW H × List MemPlace) (h : DataW.trod enc Tryz.prog W 0 (fun _ => true) true fuel 73 cs = some x) : ∃ (k n : Int) (s : ByteArray), cs = [.int .i64 k, .int .i64 n, .string s] := by
  obtain ⟨xs, n, _, rfl, hl, hlen, hf⟩ := DataW.trod_struct Tryz.underlying73 h
  rw [cV] at hl
  obtain ⟨c0, c1, c2, rfl⟩ := listS3 hl
  obtain ⟨y0, y1, y2, rfl⟩ := listS3 (l := xs) hlen
  have i0 := hf 0 _ rfl
  have i1 := hf 1 _ rfl
  have i2 := hf 2 _ rfl
  simp [cI, cS] at i0 i1 i2
  obtain ⟨n0, e0, -, -⟩ := DataW.trod_int Tryz.underlying3 i0
  obtain ⟨n1, e1, -, -⟩ := DataW.trod_int Tryz.underlying3 i1
  obtain ⟨s, e2, -, -⟩ := DataW.trod_string Tryz.underlying9 i2
  simp at e0 e1 e2
  subst e0 e1 e2
  exact ⟨n0, n1, s, rfl⟩
theorem open_at {H : Type} {enc : TypeId × Value → H} {W : World} (fuel : Nat) (cs : List Value) (x : DataW H × List MemPlace) (h : DataW.trod enc Tryz.prog W 0 (fun _ => true) true fuel 75 cs = some x) : ∃ z : At, cs = enA z := by
  obtain ⟨xs, n, _, rfl, hl, hlen, hf⟩ := DataW.trod_struct Tryz.underlying75 h
  rw [cA] at hl
  obtain ⟨c0, c1, c2, c3, rfl⟩ := listE4 hl
  obtain ⟨y0, y1, rfl⟩ := listE2 (l := xs) hlen
  have i0 := hf 0 _ rfl
  have i1 := hf 1 _ rfl
  simp [cS, cV] at i0 i1
  obtain ⟨s0, e0, -, -⟩ := DataW.trod_string Tryz.underlying9 i0
  obtain ⟨k, n1, s, e1⟩ := open_vv _ _ _ i1
  simp at e0 e1
  obtain ⟨rfl, rfl, rfl⟩ := e1
  subst e0
  exact ⟨⟨s0, k, n1, s⟩, rfl⟩
instance : Inhabited At := ⟨⟨⟨#[]⟩, 0, 0, ⟨#[]⟩⟩⟩
theorem open_ats {H : Type} {enc : TypeId × Value → H} {w : World} {fuel : Nat} {v : Value} {x : DataW H × List MemPlace} (h : DataW.trod enc Tryz.prog w 0 (fun _ => true) true fuel 61 [v] = some x) (hz : ∀ n ∈ x.1.weights Tryz.prog 61, n ≤ reachBytes) :
    ∃ l : List At, IsRow w 4 v l.length (aCells l) ∧ l.length ≤ 140737488355328 :=
  open_rows enA 4 48 Tryz.underlying61 cA (by kernel_rfl) (fun _ => rfl) (by omega) (by omega) open_at h hz
set_option maxRecDepth 100000 in
theorem open_event {H : Type} {enc : TypeId × Value → H} {W : World} {b1 : Nat} {v : Value} {d : DataW H} {p : List MemPlace} (hv : Value.okWide Tryz.prog W .any b1 63 v) (h : DataW.Trod enc Tryz.prog W 0 (fun _ => true) true 63 v d p) (hz : ∀ n ∈ d.weights Tryz.prog 63, n ≤ reachBytes) :
    ∃ (a b c : Int) (k : ByteArray) (u : Value) (l : List At), v = .agg (evA a b c k u) ∧ IsRow W 4 u l.length (aCells l) ∧ l.length ≤ 140737488355328 := by
  obtain ⟨cs, rfl, hsz⟩ := okWide_struct Tryz.underlying63 hv
  obtain ⟨fuel, hf⟩ := h
  obtain ⟨xs, n, _, hd, hl, hlen, hf⟩ := DataW.trod_struct Tryz.underlying63 hf
  rw [cEv] at hl
  obtain ⟨c0, c1, c2, c3, c4, hcs⟩ := listE5 hl
  obtain ⟨y0, y1, y2, rfl⟩ := listS3 (l := xs) hlen
  rw [hcs] at hf
  have i0 := hf 0 _ rfl
  have i1 := hf 1 _ rfl
  have i2 := hf 2 _ rfl
  simp [cID, cS, cSlA] at i0 i1 i2
  obtain ⟨a, b, c, e0⟩ := open_id _ _ _ i0
  obtain ⟨k, e1, -, -⟩ := DataW.trod_string Tryz.underlying9 i1
  simp at e0 e1
  obtain ⟨rfl, rfl, rfl⟩ := e0
  subst e1
  obtain ⟨hd1, -⟩ := Prod.mk.inj hd
  subst hd1
  obtain ⟨l, hr, hb⟩ := open_ats i2 (fun m hm => hz m (by
    simp only [DataW.weights, Tryz.underlying63, List.map_cons, List.map_nil, DataW.weightsEach, List.mem_append]
    exact .inr (.inr (.inl hm))))
  refine ⟨a, b, c, k, c4, l, ?_, hr, hb⟩
  have : cs = evA a b c k c4 := by
    have e : (Value.agg cs).cells.toList = cs.toList := rfl
    rw [e] at hcs
    cases cs
    simpa using hcs
  rw [this]
end Go.Proofs.YtkcnkjaeidbjbaaGreatDoor
