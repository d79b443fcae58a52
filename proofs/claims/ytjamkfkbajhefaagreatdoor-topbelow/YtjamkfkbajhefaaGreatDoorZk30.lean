/- The frame of a law over forests: the listed tables, the world's shape; fields that came in, slices of structs with slices in them. -/
import Derived.Test.YtjamkfkbajhefaaGreatDoorZk24
import Derived.Test.YtjamkfkbajhefaaGreatDoorZk29
import Derived.PinnedBridge
import Derived.Lay
import Derived.Lib.LaidU8T
import Derived.LaidMore
import Derived.Stop.LaidErr
import Derived.Shelf.Vars
import Derived.Test.YtjamkfkbajhefaaGreatDoorZk28
import Derived.Test.YtjamkfkbajhefaaGreatDoorZk6
import Derived.ProofKit
import Derived.Lib.LaidTab
import Derived.OpenShut
import Derived.ShutString
import Derived.ChangeOld
import Derived.Below
import Derived.Stop.Joined
import Derived.SizedLaws
import Derived.Lib.SmallJoins
import Derived.Test.YtjamkfkbajhefaaGreatDoorZk15
import Derived.Test.YtjamkfkbajhefaaGreatDoorZk9
import Derived.Test.YtjamkfkbajhefaaGreatDoorZk21
import Derived.Test.YtjamkfkbajhefaaGreatDoorZk26
namespace Go.Proofs.YtjamkfkbajhefaaGreatDoor
open Go.ChangeShapes Go.WideShapes Go.ChangeAt Go.WideMaps Go.WideElems Go.RowKit Go.Deep

theorem own : ownKnob Tryz.prog.godebug = none := by kernel_rfl
theorem laidOut : laidOutB Tryz.prog = true := by kernel_rfl
def laidT : List (String × DataW Unit) := [("unicode/utf8.acceptRanges", Rows.laid_unicode_utf8_acceptRanges), ("unicode/utf8.first", Rows.laid_unicode_utf8_first)]
theorem accept_eq : (Rows.laid_unicode_utf8_acceptRanges : DataW Unit) = Lib.acceptData := by kernel_rfl
theorem first_eq : Rows.laid_unicode_utf8_first = Lib.firstData := Pinned.utf8First_eq
theorem ml_of {W : World} (h : W.ShapedOpen Tryz.prog) : ML W :=
  cell_of_shapedOpen_int (P := Tryz.prog) (g := 2) (t := 3) (zero := #[.int .i64 0]) (k := .i64) h (of_decide_eq_true (by kernel_rfl)) (by kernel_rfl) rfl (by kernel_rfl) (by kernel_rfl) Tryz.underlying3

theorem frame_shaped {H : Type} {enc : TypeId × Value → H} {a : Assume} {C : Checked} {os : Os} {f : FuncId} {fn : Func} {s : ChangeSpec} {conds : List PathCond} {apart fresh handsOn again : Bool} {X : World → Array Value → Prop}
    (hX : ∀ (w w' : World) (args : Array Value), w.heap = w'.heap → X w args → X w' args)
    (own : ownKnob C.prog.godebug = none) (started : os.Started) (noInit : C.prog.inits.idxOf? f = none) (hfn : C.prog.funcs[f]? = some fn)
    (witness : ∃ (w : World) (tape : Tape) (i : Input), w.os = os ∧ (w.forCall tape i).Shaped C.prog ∧ i.vars = [] ∧ Input.okWide C.prog (w.forCall tape i) .any w.heap.size f i ∧
      ((s.pre enc C.prog fn conds apart (w.forCall tape i).memory i.args ∧ X (w.forCall tape i).memory i.args) ∧ sizedMet enc C.prog fn (OpenSpec.ofChange s) apart (w.forCall tape i).memory i.args) ∧ a.holds C.prog (lone (Frame.enter C.prog f i.args .normal) [] (w.forCall tape i)))
    (contract : ∀ (W : World) (base : Nat) (args : Array Value) (ds gs : List (DataW H)) (before : List MemPlace),
      (∀ (j : Nat) t v, fn.params[j]? = some t → args[j]? = some v → Value.okWide C.prog W .any base t v) →
      DataW.Whole enc C.prog fn.params.toList s.vars apart W args.toList ds gs before →
      (DataW.weightsEach C.prog (fn.params.toList ++ s.plain.varTypes C.prog) (ds ++ gs)).all (· ≤ reachBytes) = true → X W args → W.ShapedOpen C.prog →
      Calls C.prog f args W fun e W' => ∃ v, e = .returned v ∧ s.post enc C.prog fn apart fresh handsOn again W args v W') :
    ReturnsInHanded a C os f .any (fun w args => (s.pre enc C.prog fn conds apart w args ∧ X w args) ∧ sizedMet enc C.prog fn (OpenSpec.ofChange s) apart w args) (s.post enc C.prog fn apart fresh handsOn again) := by
  refine returnsInHanded_of_calls own started noInit witness fun w tape i _ hsh _ hok hpre _ => ?_
  obtain ⟨⟨⟨ds, gs, before, hw, _⟩, hx⟩, hz⟩ := hpre
  obtain ⟨_, _, _, fn2, hfn2, _, _, _, _, hval⟩ := hok
  cases Option.some.inj (hfn2.symm.trans hfn)
  have hw2 := DataW.Whole.of_heap (w' := w.forCall tape i) (by rfl) hw
  refine (contract _ w.heap.size i.args ds gs before hval hw2 (hz.weights hw) (hX _ _ _ (by rfl) hx) hsh).mono fun e W' h => ?_
  obtain ⟨v, rfl, hp⟩ := h
  exact ChangeSpec.post_blind hp
theorem all_met (os : Os) (args : Array Value) : laidMetH Tryz.prog laidT ((World.laidAll Tryz.prog os laidT).forCall (fun _ _ => 0) ⟨#[], args, []⟩).memory := by
  rw [MakeChecks.laidMetH_plain _ _ _ (by kernel_rfl)]
  exact laidMet_laidAll _ (by kernel_rfl) (by kernel_rfl)
theorem cF : Tryz.prog.cellsOf 48 = 3 := by kernel_rfl
theorem cI : Tryz.prog.cellsOf 3 = 1 := by kernel_rfl
theorem cS : Tryz.prog.cellsOf 9 = 1 := by kernel_rfl
theorem cB : Tryz.prog.cellsOf 4 = 1 := by kernel_rfl
instance : Inhabited Fd := ⟨⟨⟨#[]⟩, 0, false⟩⟩
theorem listS3 {α : Type} {l : List α} (h : l.length = 3) : ∃ c0 c1 c2, l = [c0, c1, c2] := by
  match l, h with
  | [c0, c1, c2], _ => exact ⟨c0, c1, c2, rfl⟩
theorem open_fd {H : Type} {enc : TypeId × Value → H} {W : World} (fuel : Nat) (cs : List Value) (x : DataW H × List MemPlace) (h : DataW.trod enc Tryz.prog W 0 (fun _ => true) true fuel 48 cs = some x) : ∃ z : Fd, cs = enF z := by
  obtain ⟨xs, n, _, rfl, hl, hlen, hf⟩ := DataW.trod_struct Tryz.underlying48 h
  rw [cF] at hl
  obtain ⟨c0, c1, c2, rfl⟩ := listS3 hl
  obtain ⟨y0, y1, y2, rfl⟩ := listS3 (l := xs) hlen
  have i0 := hf 0 _ rfl
  have i1 := hf 1 _ rfl
  have i2 := hf 2 _ rfl
  simp [cI, cS, cB] at i0 i1 i2
  obtain ⟨s, e0, -, -⟩ := DataW.trod_string Tryz.underlying9 i0
  obtain ⟨n1, e1, -, -⟩ := DataW.trod_int Tryz.underlying3 i1
  obtain ⟨b, e2, -⟩ := DataW.trod_bool Tryz.underlying4 i2
  simp at e0 e1 e2
  subst e0 e1 e2
  exact ⟨⟨s, n1, b⟩, rfl⟩
theorem open_fds {H : Type} {enc : TypeId × Value → H} {w : World} {fuel : Nat} {v : Value} {x : DataW H × List MemPlace} (h : DataW.trod enc Tryz.prog w 0 (fun _ => true) true fuel 35 [v] = some x) (hz : ∀ n ∈ x.1.weights Tryz.prog 35, n ≤ reachBytes) :
    ∃ l : List Fd, IsRow w 3 v l.length (fCells l) ∧ l.length ≤ 140737488355328 :=
  open_rows enF 3 32 Tryz.underlying35 cF (by kernel_rfl) (fun _ => rfl) (by omega) (by omega) open_fd h hz
theorem wAll_mem {H : Type} {P : Program} {e : TypeId} : ∀ {l : List (DataW H)} {d : DataW H}, d ∈ l → ∀ n ∈ d.weights P e, n ∈ DataW.weightsAll P e l
  | d' :: r, d, hd, n, hn => by
    simp only [DataW.weightsAll, List.mem_append]
    rcases List.mem_cons.1 hd with rfl | h
    · exact Or.inl hn
    · exact Or.inr (wAll_mem h n hn)
/-- A slice of structs of 'sz' cells each: read as a row. -/
theorem open_rowsP {α : Type} [Inhabited α] {H : Type} {enc : TypeId × Value → H} {w : World} {fuel : Nat} {v : Value} {x : DataW H × List MemPlace} (en : α → List Value) (sz bytes : Nat) {tS tE : TypeId}
    (hS : Tryz.prog.underlying tS = some (.slice tE)) (hC : Tryz.prog.cellsOf tE = sz) (hB : Tryz.prog.bytesOf tE = bytes) (hen : ∀ y, (en y).length = sz) (hsz : 0 < sz) (hby : 8 ≤ bytes)
    (Pz : α → Prop)
    (op : ∀ (fuel : Nat) (cs : List Value) (y : DataW H × List MemPlace), DataW.trod enc Tryz.prog w 0 (fun _ => true) true fuel tE cs = some y → (∀ n ∈ y.1.weights Tryz.prog tE, n ≤ reachBytes) → ∃ z : α, cs = en z ∧ Pz z)
    (h : DataW.trod enc Tryz.prog w 0 (fun _ => true) true fuel tS [v] = some x) (hz : ∀ n ∈ x.1.weights Tryz.prog tS, n ≤ reachBytes) :
    ∃ l : List α, IsRow w sz v l.length (l.flatMap en) ∧ l.length ≤ 140737488355328 ∧ ∀ z ∈ l, Pz z := by
  rcases open_slice hS h with ⟨hv, _⟩ | ⟨a, len, cap, m, n, D, Pl, hv, hb, hl, hm, hmm, rfl, hx⟩
  · simp at hv
    subst hv
    exact ⟨[], ⟨by simp, .inl ⟨rfl, _, _, rfl⟩⟩, by simp, fun z hz => nomatch hz⟩
  simp at hv
  subst hv
  simp at hmm
  subst hmm
  have key : ∀ i, i < len → ∃ y : α, w.cells? 0 (a.add (i * sz)) sz = some (en y) ∧ Pz y := by
    intro i hi
    obtain ⟨cs, hc, ht⟩ := hx i (by omega)
    rw [hC] at hc
    obtain ⟨y, rfl, hP⟩ := op _ _ _ ht (fun n hn => hz n (by
      simp only [DataW.weights, hS, List.mem_cons, List.mem_append]
      exact .inr (.inl (wAll_mem (List.mem_map.2 ⟨i, List.mem_range.2 hi, rfl⟩) n hn))))
    exact ⟨y, hc, hP⟩
  obtain ⟨X, hXP⟩ := choose_lt key
  have hX : ∀ i, i < len → w.cells? 0 (a.add (i * sz)) sz = some (en (X i)) := fun i hi => (hXP i hi).1
  have hlen : len * bytes ≤ reachBytes := by
    have := hz ((len + (m - len)) * bytes) (by simp only [DataW.weights, hS, hB]; simp)
    exact Nat.le_trans (Nat.mul_le_mul_right _ (by omega)) this
  have hlen8 : len * 8 ≤ reachBytes := Nat.le_trans (Nat.mul_le_mul_left _ hby) hlen
  refine ⟨(List.range len).map X, ⟨flatG_len en sz hen _, ?_⟩, ?_, ?_⟩
  · simp only [List.length_map, List.length_range]
    by_cases h0 : len = 0
    · subst h0
      exact .inl ⟨rfl, _, _, rfl⟩
    · right
      obtain ⟨b, off, spot⟩ := a
      have hspot : spot = none := by
        have := (World.cells?_some (hX 0 (by omega))).2.2 0 (by omega)
        obtain ⟨u, hu⟩ : ∃ u, (en (X 0))[0]? = some u := ⟨_, List.getElem?_eq_getElem (by rw [hen]; exact hsz)⟩
        rw [hu, Nat.zero_mul] at this
        simpa [Addr.add] using World.cell?_spot this
      subst hspot
      have hcell : ∀ i (hi : i < len) r, r < sz → w.cell? ⟨b, off + (i * sz + r), none⟩ = (en (X i))[r]? := by
        intro i hi r hr
        have := (World.cells?_some (hX i hi)).2.2 r hr
        rw [addS_lit, addS_lit] at this
        rw [← Nat.add_assoc]
        exact this
      refine ⟨b, off, m, rfl, ?_, hl, hm, ?_⟩
      · have := hcell 0 (by omega) 0 hsz
        obtain ⟨u, hu⟩ : ∃ u, (en (X 0))[0]? = some u := ⟨_, List.getElem?_eq_getElem (by rw [hen]; exact hsz)⟩
        rw [hu] at this
        exact block_lt_of_cell this
      · intro j u hu
        have hj : j < len * sz := by
          have := (List.getElem?_eq_some_iff.1 hu).1
          rw [flatG_len en sz hen] at this
          simpa using this
        have hq : j / sz < len := (Nat.div_lt_iff_lt_mul hsz).2 hj
        have hr : j % sz < sz := Nat.mod_lt _ hsz
        have hjj : j = j / sz * sz + j % sz := by rw [Nat.mul_comm]; exact (Nat.div_add_mod j sz).symm
        have hat := flatG_get en sz hen ((List.range len).map X) (j / sz) (by simpa using hq) (j % sz) hr
        simp only [List.getElem_map, List.getElem_range] at hat
        rw [← hjj] at hat
        rw [hat] at hu
        have := hcell (j / sz) hq (j % sz) hr
        rw [← hjj] at this
        rw [this]; exact hu
  · simp; unfold reachBytes at hlen8; omega
  · intro z hz
    obtain ⟨i, hi, rfl⟩ := List.mem_map.1 hz
    exact (hXP i (List.mem_range.1 hi)).2
theorem cID : Tryz.prog.cellsOf 25 = 3 := by kernel_rfl
theorem cSlF : Tryz.prog.cellsOf 35 = 1 := by kernel_rfl
theorem open_id {H : Type} {enc : TypeId × Value → H} {W : World} (fuel : Nat) (cs : List Value) (x : DataW H × List MemPlace) (h : DataW.trod enc Tryz.prog W 0 (fun _ => true) true fuel 25 cs = some x) : ∃ a b c : Int, cs = [.int .i64 a, .int .i64 b, .int .i64 c] := by
  obtain ⟨xs, n, _, rfl, hl, hlen, hf⟩ := DataW.trod_struct Tryz.underlying25 h
  rw [cID] at hl
  obtain ⟨c0, c1, c2, rfl⟩ := listS3 hl
  obtain ⟨y0, y1, y2, rfl⟩ := listS3 (l := xs) hlen
  have i0 := hf 0 _ rfl
  have i1 := hf 1 _ rfl
  have i2 := hf 2 _ rfl
  simp [cI] at i0 i1 i2
  obtain ⟨n0, e0, -, -⟩ := DataW.trod_int Tryz.underlying3 i0
  obtain ⟨n1, e1, -, -⟩ := DataW.trod_int Tryz.underlying3 i1
  obtain ⟨n2, e2, -, -⟩ := DataW.trod_int Tryz.underlying3 i2
  simp at e0 e1 e2
  subst e0 e1 e2
  exact ⟨n0, n1, n2, rfl⟩
end Go.Proofs.YtjamkfkbajhefaaGreatDoor
/- Types that came in; three names that came in. -/
namespace Go.Proofs.YtjamkfkbajhefaaGreatDoor
open Go.ChangeShapes Go.WideShapes Go.ChangeAt Go.WideMaps Go.WideElems Go.RowKit Go.Deep

theorem cTy : Tryz.prog.cellsOf 38 = 8 := by kernel_rfl
theorem cSlS : Tryz.prog.cellsOf 36 = 1 := by kernel_rfl
theorem listT6 {α : Type} {l : List α} (h : l.length = 6) : ∃ c0 c1 c2 c3 c4 c5, l = [c0, c1, c2, c3, c4, c5] := by
  match l, h with
  | [c0, c1, c2, c3, c4, c5], _ => exact ⟨c0, c1, c2, c3, c4, c5, rfl⟩
theorem listS8 {α : Type} {l : List α} (h : l.length = 8) : ∃ c0 c1 c2 c3 c4 c5 c6 c7, l = [c0, c1, c2, c3, c4, c5, c6, c7] := by
  match l, h with
  | [c0, c1, c2, c3, c4, c5, c6, c7], _ => exact ⟨c0, c1, c2, c3, c4, c5, c6, c7, rfl⟩
theorem open_names {H : Type} {enc : TypeId × Value → H} {w : World} {fuel : Nat} {v : Value} {x : DataW H × List MemPlace} (h : DataW.trod enc Tryz.prog w 0 (fun _ => true) true fuel 36 [v] = some x) (hz : ∀ n ∈ x.1.weights Tryz.prog 36, n ≤ reachBytes) :
    ∃ l : List ByteArray, IsRow w 1 v l.length (sVals l) ∧ l.length ≤ 140737488355328 := by
  obtain ⟨l, h1, h2⟩ := open_rows (fun s => [Value.string s]) 1 16 Tryz.underlying36 cS (by kernel_rfl) (fun _ => rfl) (by omega) (by omega)
    (fun fuel cs y hy => by
      obtain ⟨s, e0, -, -⟩ := DataW.trod_string Tryz.underlying9 hy
      exact ⟨s, e0⟩) h hz
  have e : l.flatMap (fun s => [Value.string s]) = sVals l := by
    clear h1 h2
    induction l with
    | nil => rfl
    | cons a r ih => rw [List.flatMap_cons, ih]; rfl
  rw [e] at h1
  exact ⟨l, h1, h2⟩
set_option maxRecDepth 100000 in
theorem open_ty {H : Type} {enc : TypeId × Value → H} {W : World} (fuel : Nat) (cs : List Value) (x : DataW H × List MemPlace) (h : DataW.trod enc Tryz.prog W 0 (fun _ => true) true fuel 38 cs = some x) (hz : ∀ n ∈ x.1.weights Tryz.prog 38, n ≤ reachBytes) :
    ∃ z : LT, cs = enT z ∧ (IsTy W z.t z.vo z.va z.vc ∧ InT z.t) := by
  obtain ⟨xs, n, _, rfl, hl, hlen, hf⟩ := DataW.trod_struct Tryz.underlying38 h
  rw [cTy] at hl
  obtain ⟨c0, c1, c2, c3, c4, c5, c6, c7, rfl⟩ := listS8 hl
  obtain ⟨y0, y1, y2, y3, y4, y5, rfl⟩ := listT6 (l := xs) hlen
  have i0 := hf 0 _ rfl
  have i1 := hf 1 _ rfl
  have i2 := hf 2 _ rfl
  have i3 := hf 3 _ rfl
  have i4 := hf 4 _ rfl
  have i5 := hf 5 _ rfl
  simp [cID, cS, cSlF, cSlS] at i0 i1 i2 i3 i4 i5
  obtain ⟨s, e0, -, -⟩ := DataW.trod_string Tryz.underlying9 i0
  obtain ⟨p, e1, -, -⟩ := DataW.trod_string Tryz.underlying9 i1
  obtain ⟨a, b, c, e5⟩ := open_id _ _ _ i5
  simp at e0 e1 e5
  obtain ⟨rfl, rfl, rfl⟩ := e5
  subst e0 e1
  obtain ⟨lo, ho, bo⟩ := open_fds i2 (fun m hm => hz m (by
    simp only [DataW.weights, Tryz.underlying38, List.map_cons, List.map_nil, DataW.weightsEach, List.mem_append]
    exact .inr (.inr (.inl hm))))
  obtain ⟨la, ha, ba⟩ := open_fds i3 (fun m hm => hz m (by
    simp only [DataW.weights, Tryz.underlying38, List.map_cons, List.map_nil, DataW.weightsEach, List.mem_append]
    exact .inr (.inr (.inr (.inl hm)))))
  obtain ⟨lc, hc, bc⟩ := open_names i4 (fun m hm => hz m (by
    simp only [DataW.weights, Tryz.underlying38, List.map_cons, List.map_nil, DataW.weightsEach, List.mem_append]
    exact .inr (.inr (.inr (.inr (.inl hm))))))
  obtain ⟨so, no, rfl⟩ := ho.form
  obtain ⟨sa, na, rfl⟩ := ha.form
  obtain ⟨sc, nc, rfl⟩ := hc.form
  exact ⟨⟨⟨s, p, lo, la, lc, a, b, c⟩, so, no, sa, na, sc, nc⟩, rfl, ⟨ho, ha, hc⟩, bo, ba, bc⟩
instance : Inhabited LT := ⟨⟨⟨⟨#[]⟩, ⟨#[]⟩, [], [], [], 0, 0, 0⟩, none, 0, none, 0, none, 0⟩⟩
set_option maxRecDepth 100000 in
theorem open_tys {H : Type} {enc : TypeId × Value → H} {w : World} {fuel : Nat} {v : Value} {x : DataW H × List MemPlace} (h : DataW.trod enc Tryz.prog w 0 (fun _ => true) true fuel 22 [v] = some x) (hz : ∀ n ∈ x.1.weights Tryz.prog 22, n ≤ reachBytes) :
    ∃ L : List LT, IsTys w v L ∧ L.length ≤ 140737488355328 ∧ ∀ z ∈ L, InT z.t := by
  obtain ⟨l, h1, h2, h3⟩ := open_rowsP enT 8 128 Tryz.underlying22 cTy (by kernel_rfl) (fun _ => rfl) (by omega) (by omega) (fun z => IsTy w z.t z.vo z.va z.vc ∧ InT z.t) open_ty h hz
  exact ⟨l, ⟨h1, fun z hz => (h3 z hz).1⟩, h2, fun z hz => (h3 z hz).2⟩
end Go.Proofs.YtjamkfkbajhefaaGreatDoor
/- Attributes, an event that came in. -/
namespace Go.Proofs.YtjamkfkbajhefaaGreatDoor
open Go.ChangeShapes Go.WideShapes Go.ChangeAt Go.WideMaps Go.WideElems Go.RowKit Go.Deep

theorem cA : Tryz.prog.cellsOf 54 = 4 := by kernel_rfl
theorem cV : Tryz.prog.cellsOf 52 = 3 := by kernel_rfl
theorem cEv : Tryz.prog.cellsOf 28 = 5 := by kernel_rfl
theorem cSlA : Tryz.prog.cellsOf 26 = 1 := by kernel_rfl
theorem listE2 {α : Type} {l : List α} (h : l.length = 2) : ∃ c0 c1, l = [c0, c1] := by
  match l, h with
  | [c0, c1], _ => exact ⟨c0, c1, rfl⟩
theorem listE4 {α : Type} {l : List α} (h : l.length = 4) : ∃ c0 c1 c2 c3, l = [c0, c1, c2, c3] := by
  match l, h with
  | [c0, c1, c2, c3], _ => exact ⟨c0, c1, c2, c3, rfl⟩
theorem listE5 {α : Type} {l : List α} (h : l.length = 5) : ∃ c0 c1 c2 c3 c4, l = [c0, c1, c2, c3, c4] := by
  match l, h with
  | [c0, c1, c2, c3, c4], _ => exact ⟨c0, c1, c2, c3, c4, rfl⟩
theorem open_vv {H : Type} {enc : TypeId × Value → H} {W : World} (fuel : Nat) (cs : List Value) (x : DataW H × List MemPlace) (h : DataW.trod enc Tryz.prog W 0 (fun _ => true) true fuel 52 cs = some x) : ∃ (k n : Int) (s : ByteArray), cs = [.int .i64 k, .int .i64 n, .string s] := by
  obtain ⟨xs, n, _, rfl, hl, hlen, hf⟩ := DataW.trod_struct Tryz.underlying52 h
  rw [cV] at hl
  obtain ⟨c0, c1, c2, rfl⟩ := listS3 hl
  obtain ⟨y0, y1, y2, rfl⟩ := listS3 (l := xs) hlen
  have i0 := hf 0 _ rfl
  have i1 := hf 1 _ rfl
  have i2 := hf 2 _ rfl
  simp [cI, cS] at i0 i1 i2
  obtain ⟨n0, e0, -, -⟩ := DataW.trod_int Tryz.underlying3 i0
  obtain ⟨n1, e1, -, -⟩ := DataW.trod_int Tryz.underlying3 i1
  obtain ⟨s, e2, -, -⟩ := DataW.trod_string Tryz.underlying9 i2
  simp at e0 e1 e2
  subst e0 e1 e2
  exact ⟨n0, n1, s, rfl⟩
theorem open_at {H : Type} {enc : TypeId × Value → H} {W : World} (fuel : Nat) (cs : List Value) (x : DataW H × List MemPlace) (h : DataW.trod enc Tryz.prog W 0 (fun _ => true) true fuel 54 cs = some x) : ∃ z : At, cs = enA z := by
  obtain ⟨xs, n, _, rfl, hl, hlen, hf⟩ := DataW.trod_struct Tryz.underlying54 h
  rw [cA] at hl
  obtain ⟨c0, c1, c2, c3, rfl⟩ := listE4 hl
  obtain ⟨y0, y1, rfl⟩ := listE2 (l := xs) hlen
  have i0 := hf 0 _ rfl
  have i1 := hf 1 _ rfl
  simp [cS, cV] at i0 i1
  obtain ⟨s0, e0, -, -⟩ := DataW.trod_string Tryz.underlying9 i0
  obtain ⟨k, n1, s, e1⟩ := open_vv _ _ _ i1
  simp at e0 e1
  obtain ⟨rfl, rfl, rfl⟩ := e1
  subst e0
  exact ⟨⟨s0, k, n1, s⟩, rfl⟩
instance : Inhabited At := ⟨⟨⟨#[]⟩, 0, 0, ⟨#[]⟩⟩⟩
theorem open_ats {H : Type} {enc : TypeId × Value → H} {w : World} {fuel : Nat} {v : Value} {x : DataW H × List MemPlace} (h : DataW.trod enc Tryz.prog w 0 (fun _ => true) true fuel 26 [v] = some x) (hz : ∀ n ∈ x.1.weights Tryz.prog 26, n ≤ reachBytes) :
    ∃ l : List At, IsRow w 4 v l.length (aCells l) ∧ l.length ≤ 140737488355328 :=
  open_rows enA 4 48 Tryz.underlying26 cA (by kernel_rfl) (fun _ => rfl) (by omega) (by omega) open_at h hz
set_option maxRecDepth 100000 in
theorem open_event {H : Type} {enc : TypeId × Value → H} {W : World} {b1 : Nat} {v : Value} {d : DataW H} {p : List MemPlace} (hv : Value.okWide Tryz.prog W .any b1 28 v) (h : DataW.Trod enc Tryz.prog W 0 (fun _ => true) true 28 v d p) (hz : ∀ n ∈ d.weights Tryz.prog 28, n ≤ reachBytes) :
    ∃ (a b c : Int) (k : ByteArray) (u : Value) (l : List At), v = .agg (evA a b c k u) ∧ IsRow W 4 u l.length (aCells l) ∧ l.length ≤ 140737488355328 := by
  obtain ⟨cs, rfl, hsz⟩ := okWide_struct Tryz.underlying28 hv
  obtain ⟨fuel, hf⟩ := h
  obtain ⟨xs, n, _, hd, hl, hlen, hf⟩ := DataW.trod_struct Tryz.underlying28 hf
  rw [cEv] at hl
  obtain ⟨c0, c1, c2, c3, c4, hcs⟩ := listE5 hl
  obtain ⟨y0, y1, y2, rfl⟩ := listS3 (l := xs) hlen
  rw [hcs] at hf
  have i0 := hf 0 _ rfl
  have i1 := hf 1 _ rfl
  have i2 := hf 2 _ rfl
  simp [cID, cS, cSlA] at i0 i1 i2
  obtain ⟨a, b, c, e0⟩ := open_id _ _ _ i0
  obtain ⟨k, e1, -, -⟩ := DataW.trod_string Tryz.underlying9 i1
  simp at e0 e1
  obtain ⟨rfl, rfl, rfl⟩ := e0
  subst e1
  obtain ⟨hd1, -⟩ := Prod.mk.inj hd
  subst hd1
  obtain ⟨l, hr, hb⟩ := open_ats i2 (fun m hm => hz m (by
    simp only [DataW.weights, Tryz.underlying28, List.map_cons, List.map_nil, DataW.weightsEach, List.mem_append]
    exact .inr (.inr (.inl hm))))
  refine ⟨a, b, c, k, c4, l, ?_, hr, hb⟩
  have : cs = evA a b c k c4 := by
    have e : (Value.agg cs).cells.toList = cs.toList := rfl
    rw [e] at hcs
    cases cs
    simpa using hcs
  rw [this]
end Go.Proofs.YtjamkfkbajhefaaGreatDoor
/- What the listed variables give; and a world that meets the condition. -/
namespace Go.Proofs.YtjamkfkbajhefaaGreatDoor.V
open Go.ChangeShapes Go.WideShapes Go.ChangeAt Go.WideMaps Go.WideElems Go.RowKit

theorem own : ownKnob Tryz.prog.godebug = none := by kernel_rfl
theorem laidOut : laidOutB Tryz.prog = true := by kernel_rfl
def laidV : List (String × DataW Unit) := [("math/bits.deBruijn32tab", Rows.laid_math_bits_deBruijn32tab), ("math/bits.deBruijn64tab", Rows.laid_math_bits_deBruijn64tab), ("internal/strconv.uint64pow10", Rows.laid_internal_strconv_uint64pow10), ("unicode/utf8.acceptRanges", Rows.laid_unicode_utf8_acceptRanges), ("strconv.ErrRange", Rows.laid_strconv_ErrRange), ("strconv.ErrSyntax", Rows.laid_strconv_ErrSyntax), ("unicode/utf8.first", Rows.laid_unicode_utf8_first)]
theorem accept_eq : (Rows.laid_unicode_utf8_acceptRanges : DataW Unit) = Lib.acceptData := by kernel_rfl
theorem first_eq : Rows.laid_unicode_utf8_first = Lib.firstData := Pinned.utf8First_eq
def tab64 : List Int := [0, 1, 56, 2, 57, 49, 28, 3, 61, 58, 42, 50, 38, 29, 17, 4, 62, 47, 59, 36, 45, 43, 51, 22, 53, 39, 33, 30, 24, 18, 12, 5, 63, 55, 48, 27, 60, 41, 37, 16, 46, 35, 44, 21, 52, 32, 23, 11, 54, 26, 40, 15, 34, 20, 31, 10, 25, 14, 19, 9, 13, 8, 7, 6]
theorem g64 : Tryz.prog.globalNamed "math/bits.deBruijn64tab" = some 5 := by kernel_rfl
theorem t64 : (Tryz.prog.globals[5]?).map (·.type) = some 255 := by kernel_rfl
theorem ml_of {W : World} (h : W.ShapedOpen Tryz.prog) : ML W :=
  cell_of_shapedOpen_int (P := Tryz.prog) (g := 2) (t := 3) (zero := #[.int .i64 0]) (k := .i64) h (of_decide_eq_true (by kernel_rfl)) (by kernel_rfl) rfl (by kernel_rfl) (by kernel_rfl) Tryz.underlying3
theorem vt_of {W : World} (h : laidMetH Tryz.prog laidV W) (hsh : W.ShapedOpen Tryz.prog) : VT W := by
  rw [MakeChecks.laidMetH_plain _ _ _ (by kernel_rfl)] at h
  have h2 := laidMet.tail h
  have h3 : Lib.TabIs Tryz.prog W "math/bits.deBruijn64tab" .u8 tab64 := Lib.tabIs_of_head g64 t64 Tryz.underlying255 Tryz.underlying5 (by kernel_rfl) (by kernel_rfl) h2
  refine ⟨?_, h3.cell g64 15 (by decide), ml_of hsh⟩
  exact utf8Tabs_of_readsT (U8Types.of196 Tryz.lays196) ⟨by kernel_rfl, by kernel_rfl, by kernel_rfl, by kernel_rfl, by kernel_rfl, by kernel_rfl, by kernel_rfl⟩ (first_eq ▸ Lib.laidMet.reads h (.tail _ (.tail _ (.tail _ (.tail _ (.tail _ (.tail _ (.head _)))))))) (accept_eq ▸ Lib.laidMet.reads h (.tail _ (.tail _ (.tail _ (.head _)))))
theorem all_met (os : Os) (args : Array Value) : laidMetH Tryz.prog laidV ((World.laidAll Tryz.prog os laidV).forCall (fun _ _ => 0) ⟨#[], args, []⟩).memory := by
  rw [MakeChecks.laidMetH_plain _ _ _ (by kernel_rfl)]
  exact laidMet_laidAll _ (by kernel_rfl) (by kernel_rfl)
end Go.Proofs.YtjamkfkbajhefaaGreatDoor.V
/- The frame of a law over values: the listed tables and the world's shape; a value opened and shut. -/
namespace Go.Proofs.YtjamkfkbajhefaaGreatDoor.V
open Go.ChangeShapes Go.WideShapes Go.ChangeAt Go.WideMaps Go.WideElems Go.RowKit Go.Joins

theorem frame_shaped {H : Type} {enc : TypeId × Value → H} {a : Assume} {C : Checked} {os : Os} {f : FuncId} {fn : Func} {s : ChangeSpec} {conds : List PathCond} {apart fresh handsOn again : Bool} {X : World → Array Value → Prop}
    (hX : ∀ (w w' : World) (args : Array Value), w.heap = w'.heap → X w args → X w' args)
    (own : ownKnob C.prog.godebug = none) (started : os.Started) (noInit : C.prog.inits.idxOf? f = none) (hfn : C.prog.funcs[f]? = some fn)
    (witness : ∃ (w : World) (tape : Tape) (i : Input), w.os = os ∧ (w.forCall tape i).Shaped C.prog ∧ i.vars = [] ∧ Input.okWide C.prog (w.forCall tape i) .any w.heap.size f i ∧
      ((s.pre enc C.prog fn conds apart (w.forCall tape i).memory i.args ∧ X (w.forCall tape i).memory i.args) ∧ sizedMet enc C.prog fn (OpenSpec.ofChange s) apart (w.forCall tape i).memory i.args) ∧ a.holds C.prog (lone (Frame.enter C.prog f i.args .normal) [] (w.forCall tape i)))
    (contract : ∀ (W : World) (base : Nat) (args : Array Value) (ds gs : List (DataW H)) (before : List MemPlace),
      (∀ (j : Nat) t v, fn.params[j]? = some t → args[j]? = some v → Value.okWide C.prog W .any base t v) →
      DataW.Whole enc C.prog fn.params.toList s.vars apart W args.toList ds gs before →
      (DataW.weightsEach C.prog (fn.params.toList ++ s.plain.varTypes C.prog) (ds ++ gs)).all (· ≤ reachBytes) = true → X W args → W.ShapedOpen C.prog →
      Calls C.prog f args W fun e W' => ∃ v, e = .returned v ∧ s.post enc C.prog fn apart fresh handsOn again W args v W') :
    ReturnsInHanded a C os f .any (fun w args => (s.pre enc C.prog fn conds apart w args ∧ X w args) ∧ sizedMet enc C.prog fn (OpenSpec.ofChange s) apart w args) (s.post enc C.prog fn apart fresh handsOn again) := by
  refine returnsInHanded_of_calls own started noInit witness fun w tape i _ hsh _ hok hpre _ => ?_
  obtain ⟨⟨⟨ds, gs, before, hw, _⟩, hx⟩, hz⟩ := hpre
  obtain ⟨_, _, _, fn2, hfn2, _, _, _, _, hval⟩ := hok
  cases Option.some.inj (hfn2.symm.trans hfn)
  have hw2 := DataW.Whole.of_heap (w' := w.forCall tape i) (by rfl) hw
  refine (contract _ w.heap.size i.args ds gs before hval hw2 (hz.weights hw) (hX _ _ _ (by rfl) hx) hsh).mono fun e W' h => ?_
  obtain ⟨v, rfl, hp⟩ := h
  exact ChangeSpec.post_blind hp

end Go.Proofs.YtjamkfkbajhefaaGreatDoor.V
/- What the listed variables give to the scanners, and to what shows and writes. -/
namespace Go.Proofs.YtjamkfkbajhefaaGreatDoor.V
open Go.ChangeShapes Go.WideShapes Go.ChangeAt Go.WideMaps Go.WideElems Go.RowKit

theorem gES : Tryz.prog.globalNamed "strconv.ErrSyntax" = some 6 := by kernel_rfl
theorem tES : (Tryz.prog.globals[6]?).map (·.type) = some 91 := by kernel_rfl
theorem starES : ("*errors.errorString" : String) = "*" ++ "errors.errorString" := by decide +kernel
theorem rowES (u : TypeId) (h : Tryz.prog.typeName? 3 u = some "*errors.errorString") : u = 266 :=
  typeName_ptr_named (nm := "errors.errorString") (by rw [← starES]; kernel_rfl) (by kernel_rfl) (by decide) u (by rw [← starES]; exact h)
theorem es_of {W : World} (h : laidMetH Tryz.prog laidV W) : ES W := by
  rw [MakeChecks.laidMetH_plain _ _ _ (by kernel_rfl)] at h
  have h5 := laidMet.tail (laidMet.tail (laidMet.tail (laidMet.tail (laidMet.tail h))))
  obtain ⟨a, s, hv, -, -, -⟩ := laid_sentinel h5 gES tES Tryz.underlying91 rowES Tryz.underlying266 Tryz.underlying268 rfl rfl Tryz.underlying9 (by kernel_rfl) (by kernel_rfl)
  refine ⟨.iface 266 (.pointer (some a)), ?_, .inr ⟨_, _, rfl⟩⟩
  simpa using World.var?_cell gES hv 0
theorem ve_of {W : World} (h : laidMetH Tryz.prog laidV W) (hsh : W.ShapedOpen Tryz.prog) : VE W := by
  have hv := vt_of h hsh
  exact ⟨hv.u, hv.t, hv.m, es_of h⟩
theorem t10 : (Tryz.prog.globals[3]?).map (·.type) = some 229 := by kernel_rfl
theorem p10_of {W : World} (h : laidMetH Tryz.prog laidV W) : P10 W := by
  rw [MakeChecks.laidMetH_plain _ _ _ (by kernel_rfl)] at h
  exact Lib.tabIs_of_head g10 t10 Tryz.underlying229 Tryz.underlying171 (by kernel_rfl) (by kernel_rfl) (laidMet.tail (laidMet.tail h))
end Go.Proofs.YtjamkfkbajhefaaGreatDoor.V
/- The frame of TopBelow: law03's seven listed variables; predicates that came in. -/
namespace Go.Proofs.YtjamkfkbajhefaaGreatDoor.F
open Go.ChangeShapes Go.WideShapes Go.ChangeAt Go.WideMaps Go.WideElems Go.RowKit Go.Deep

theorem w_of {W : World} (h : laidMetH Tryz.prog V.laidV W) (hsh : W.ShapedOpen Tryz.prog) : WT W := ⟨V.ve_of h hsh, V.p10_of h⟩
theorem cPr : Tryz.prog.cellsOf 59 = 3 := by kernel_rfl
theorem cSlV : Tryz.prog.cellsOf 57 = 1 := by kernel_rfl
instance : Inhabited PR := ⟨⟨⟨⟨#[]⟩, 0, []⟩, none, 0⟩⟩
theorem open_it {H : Type} {enc : TypeId × Value → H} {W : World} (fuel : Nat) (cs : List Value) (x : DataW H × List MemPlace) (h : DataW.trod enc Tryz.prog W 0 (fun _ => true) true fuel 52 cs = some x) : ∃ z : It, cs = It.cells z := by
  obtain ⟨k, n, s, rfl⟩ := open_vv _ _ _ h
  exact ⟨⟨k, n, s⟩, rfl⟩
theorem open_its {H : Type} {enc : TypeId × Value → H} {w : World} {fuel : Nat} {v : Value} {x : DataW H × List MemPlace} (h : DataW.trod enc Tryz.prog w 0 (fun _ => true) true fuel 57 [v] = some x) (hz : ∀ n ∈ x.1.weights Tryz.prog 57, n ≤ reachBytes) :
    ∃ l : List It, IsRow w 3 v l.length (itCells l) ∧ l.length ≤ 140737488355328 :=
  open_rows It.cells 3 32 Tryz.underlying57 cV (by kernel_rfl) (fun _ => rfl) (by omega) (by omega) open_it h hz
theorem open_pred {H : Type} {enc : TypeId × Value → H} {W : World} (fuel : Nat) (cs : List Value) (x : DataW H × List MemPlace) (h : DataW.trod enc Tryz.prog W 0 (fun _ => true) true fuel 59 cs = some x) (hz : ∀ n ∈ x.1.weights Tryz.prog 59, n ≤ reachBytes) :
    ∃ z : PR, cs = enP z ∧ (IsRow W 3 z.v z.y.l.length (itCells z.y.l) ∧ z.y.l.length ≤ 140737488355328) := by
  obtain ⟨xs, n, _, rfl, hl, hlen, hf⟩ := DataW.trod_struct Tryz.underlying59 h
  rw [cPr] at hl
  obtain ⟨c0, c1, c2, rfl⟩ := listS3 hl
  obtain ⟨y0, y1, y2, rfl⟩ := listS3 (l := xs) hlen
  have i0 := hf 0 _ rfl
  have i1 := hf 1 _ rfl
  have i2 := hf 2 _ rfl
  simp [cI, cS, cSlV] at i0 i1 i2
  obtain ⟨s, e0, -, -⟩ := DataW.trod_string Tryz.underlying9 i0
  obtain ⟨n1, e1, -, -⟩ := DataW.trod_int Tryz.underlying3 i1
  simp at e0 e1
  subst e0 e1
  obtain ⟨l, hr, hb⟩ := open_its i2 (fun m hm => hz m (by
    simp only [DataW.weights, Tryz.underlying59, List.map_cons, List.map_nil, DataW.weightsEach, List.mem_append]
    exact .inr (.inr (.inl hm))))
  obtain ⟨a, c, rfl⟩ := hr.form
  exact ⟨⟨⟨s, n1, l⟩, a, c⟩, rfl, hr, hb⟩
set_option maxRecDepth 100000 in
theorem open_preds {H : Type} {enc : TypeId × Value → H} {w : World} {fuel : Nat} {v : Value} {x : DataW H × List MemPlace} (h : DataW.trod enc Tryz.prog w 0 (fun _ => true) true fuel 23 [v] = some x) (hz : ∀ n ∈ x.1.weights Tryz.prog 23, n ≤ reachBytes) :
    ∃ F : List PR, IsFl w v F ∧ F.length ≤ 140737488355328 ∧ ∀ z ∈ F, z.y.l.length ≤ 140737488355328 := by
  obtain ⟨l, h1, h2, h3⟩ := open_rowsP enP 3 48 Tryz.underlying23 cPr (by kernel_rfl) (fun _ => rfl) (by omega) (by omega) (fun z => IsRow w 3 z.v z.y.l.length (itCells z.y.l) ∧ z.y.l.length ≤ 140737488355328) open_pred h hz
  exact ⟨l, ⟨h1, fun z hz => (h3 z hz).1⟩, h2, fun z hz => (h3 z hz).2⟩
end Go.Proofs.YtjamkfkbajhefaaGreatDoor.F
/- What can be asked of a type can be asked of all below it: plain mathematics. -/
namespace Go.Proofs.YtjamkfkbajhefaaGreatDoor.F
open Go.RowKit

theorem getF_more {t o : List Fd} (ht : t.Pairwise ltF) (hsub : ∀ f ∈ o, f ∈ t) {s : ByteArray} {f : Fd} (h : getF o s = some f) : getF t s = some f := by
  obtain ⟨m1, s1⟩ := getF_mem h
  have hs : (getF t s).isSome = true := by
    unfold getF
    rw [List.find?_isSome]
    exact ⟨f, hsub f m1, s1⟩
  obtain ⟨f', hg⟩ := Option.isSome_iff_exists.1 hs
  obtain ⟨m2, s2⟩ := getF_mem hg
  have : f = f' := pair_ne ht (hsub f m1) m2 (by
    simp only [sameL, decide_eq_true_eq] at s1 s2 ⊢
    rw [s1, s2])
  rw [hg, this]
theorem stF_more {t o : List Fd} (ht : t.Pairwise ltF) (hsub : ∀ f ∈ o, f ∈ t) {y : Pd} (h : stF o y = 0) : stF t y = 0 := by
  cases hg : getF o y.n with
  | none => rw [stF_none hg] at h; exact absurd h (by decide)
  | some f =>
    have hg' := getF_more ht hsub hg
    unfold stF at h ⊢
    rw [hg] at h
    rw [hg']
    exact h
theorem fgo_zero {l : List Fd} {D : List Pd} : fgo l D = 0 ↔ ∀ y ∈ D, stF l y = 0 := by
  induction D with
  | nil => exact ⟨fun _ y hy => (by cases hy), fun _ => rfl⟩
  | cons y D ih =>
    unfold fgo
    by_cases h : stF l y = 0
    · rw [if_pos h, ih]
      exact ⟨fun g z hz => (by
        rcases List.mem_cons.1 hz with rfl | hz
        · exact h
        · exact g z hz), fun g z hz => g z (List.mem_cons_of_mem _ hz)⟩
    · rw [if_neg h]
      exact ⟨fun g => absurd g h, fun g => g y List.mem_cons_self⟩
theorem fits_below {t o : List Fd} {D : List Pd} (ht : chkF t = true) (hsub : ∀ f ∈ o, f ∈ t) (h : fitsX o D = 0) : fitsX t D = 0 := by
  unfold fitsX at h ⊢
  split at h
  · rename_i hc
    rw [Bool.and_eq_true] at hc
    rw [if_pos (by rw [ht, hc.2]; rfl)]
    exact fgo_zero.2 fun y hy => stF_more (chk_sorted ht) hsub (fgo_zero.1 h y hy)
  · exact absurd h (by decide)
theorem within_sub {t o : List Fd} (hsub : ∀ f ∈ o, f ∈ t) : withinL o t = true := List.all_eq_true.2 fun f hf => List.any_eq_true.2 ⟨f, hsub f hf, sameF_self f⟩
theorem getA_keep {o : List Fd} {A : List At} {s : ByteArray} (h : (getF o s).isSome = true) : getA (keepL o A) s = getA A s := by
  unfold getA keepL
  induction A with
  | nil => rfl
  | cons a A ih =>
    rw [List.filter_cons]
    by_cases hs : sameL a.n.data.toList s.data.toList = true
    · have hk : (getF o a.n).isSome = true := by
        unfold getF at h ⊢
        rw [List.find?_isSome] at h ⊢
        obtain ⟨f, hf, h2⟩ := h
        exact ⟨f, hf, (by
          simp only [sameL, decide_eq_true_eq] at h2 hs ⊢
          rw [h2, hs])⟩
      rw [if_pos hk, List.find?_cons, List.find?_cons, hs]
    · have hs' : sameL a.n.data.toList s.data.toList = false := by simpa using hs
      by_cases hk : (getF o a.n).isSome = true
      · rw [if_pos hk, List.find?_cons, List.find?_cons, hs']
        exact ih
      · rw [if_neg hk, List.find?_cons, hs']
        exact ih
/-- What a filter lets by of what is kept. -/
theorem lets_keep {o : List Fd} {D : List Pd} {A : List At} (h : fitsX o D = 0) (hA : chkA A = true) : letsB D (keepL o A) = letsB D A := by
  unfold fitsX at h
  split at h
  rotate_left
  · exact absurd h (by decide)
  have he : ∀ y ∈ D, holdsB y (keepL o A) = holdsB y A := fun y hy => by
    have h0 := fgo_zero.1 h y hy
    have hg : (getF o y.n).isSome = true := by
      cases hh : getF o y.n with
      | none => rw [stF_none hh] at h0; exact absurd h0 (by decide)
      | some f => rfl
    unfold holdsB
    rw [getA_keep hg]
  have ha : (D.all fun y => holdsB y (keepL o A)) = D.all fun y => holdsB y A := by
    rw [Bool.eq_iff_iff, List.all_eq_true, List.all_eq_true]
    exact ⟨fun g y hy => by rw [← he y hy]; exact g y hy, fun g y hy => by rw [he y hy]; exact g y hy⟩
  unfold letsB
  rw [chkA_keep hA, hA, ha]
/-- What holds of a type and of one that is of it. -/
theorem below_all {l : List Ty} (hi : isB l = true) {x y : Ty} (hx : x ∈ l) (hy : y ∈ l) (h : ofB y x.n = true) {D : List Pd} (hf : fitsX x.all D = 0) : fitsX y.all D = 0 ∧ withinL x.all y.all = true := by
  obtain ⟨-, -, -, hs⟩ := of_chain hi hy hx h
  exact ⟨fits_below (chkF_all (((isB_iff _).1 hi).2.1 _ hy)) hs hf, within_sub hs⟩
end Go.Proofs.YtjamkfkbajhefaaGreatDoor.F
