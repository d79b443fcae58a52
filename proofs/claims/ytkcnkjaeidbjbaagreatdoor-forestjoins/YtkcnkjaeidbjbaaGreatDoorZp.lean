/- Slices of structs that came in, as rows. -/
import Derived.Test.YtkcnkjaeidbjbaaGreatDoorZa
import Derived.Test.YtkcnkjaeidbjbaaGreatDoorChecked
import Derived.ProofKit
import Derived.OpenShut
import Derived.ShutString
import Derived.ChangeOld
import Derived.Below
import Derived.Stop.Joined
import Derived.Deep.Slices
import Derived.Deep.Strs
import Derived.SizedLaws
import Derived.Lib.SmallJoins
import Derived.Test.YtkcnkjaeidbjbaaGreatDoorZo
import Derived.PinnedBridge
import Derived.Lay
import Derived.Lib.LaidU8T
import Derived.LaidMore
import Derived.Stop.LaidErr
import Derived.Shelf.Vars
namespace Go.Proofs.YtkcnkjaeidbjbaaGreatDoor
open Go.ChangeShapes Go.WideShapes Go.ChangeAt Go.WideMaps Go.WideElems Go.RowKit Go.Deep

theorem flatG_len {α : Type} (en : α → List Value) (sz : Nat) (hen : ∀ y, (en y).length = sz) (l : List α) : (l.flatMap en).length = l.length * sz := by
  induction l with
  | nil => simp
  | cons d D ih => rw [List.flatMap_cons, List.length_append, List.length_cons, ih, hen, Nat.succ_mul, Nat.add_comm]
theorem flatG_get {α : Type} (en : α → List Value) (sz : Nat) (hen : ∀ y, (en y).length = sz) : ∀ (l : List α) (k : Nat) (h : k < l.length) (i : Nat), i < sz → (l.flatMap en)[k * sz + i]? = (en l[k])[i]?
  | [], k, h, _, _ => absurd h (by simp)
  | d :: D, 0, _, i, hi => by
    rw [List.flatMap_cons, Nat.zero_mul, Nat.zero_add, List.getElem?_append_left (by rw [hen]; exact hi)]
    rfl
  | d :: D, k + 1, h, i, hi => by
    rw [List.flatMap_cons, List.getElem?_append_right (by rw [hen, Nat.succ_mul]; omega), hen, show (k + 1) * sz + i - sz = k * sz + i by rw [Nat.succ_mul]; omega, flatG_get en sz hen D k (by simpa using h) i hi]
    rfl
theorem addS_lit (b off j : Nat) : (⟨b, off, none⟩ : Addr).add j = ⟨b, off + j, none⟩ := by unfold Addr.add; split <;> simp_all
/-- A slice of structs of 'sz' cells each: read as a row. -/
theorem open_rows {α : Type} [Inhabited α] {H : Type} {enc : TypeId × Value → H} {w : World} {fuel : Nat} {v : Value} {x : DataW H × List MemPlace} (en : α → List Value) (sz bytes : Nat) {tS tE : TypeId}
    (hS : Tryz.prog.underlying tS = some (.slice tE)) (hC : Tryz.prog.cellsOf tE = sz) (hB : Tryz.prog.bytesOf tE = bytes) (hen : ∀ y, (en y).length = sz) (hsz : 0 < sz) (hby : 8 ≤ bytes)
    (op : ∀ (fuel : Nat) (cs : List Value) (y : DataW H × List MemPlace), DataW.trod enc Tryz.prog w 0 (fun _ => true) true fuel tE cs = some y → ∃ z : α, cs = en z)
    (h : DataW.trod enc Tryz.prog w 0 (fun _ => true) true fuel tS [v] = some x) (hz : ∀ n ∈ x.1.weights Tryz.prog tS, n ≤ reachBytes) :
    ∃ l : List α, IsRow w sz v l.length (l.flatMap en) ∧ l.length ≤ 140737488355328 := by
  rcases open_slice hS h with ⟨hv, _⟩ | ⟨a, len, cap, m, n, D, Pl, hv, hb, hl, hm, hmm, rfl, hx⟩
  · simp at hv
    subst hv
    exact ⟨[], ⟨by simp, .inl ⟨rfl, _, _, rfl⟩⟩, by simp⟩
  simp at hv
  subst hv
  simp at hmm
  subst hmm
  have key : ∀ i, i < len → ∃ y : α, w.cells? 0 (a.add (i * sz)) sz = some (en y) := by
    intro i hi
    obtain ⟨cs, hc, ht⟩ := hx i (by omega)
    rw [hC] at hc
    obtain ⟨y, rfl⟩ := op _ _ _ ht
    exact ⟨y, hc⟩
  obtain ⟨X, hX⟩ := choose_lt key
  have hlen : len * bytes ≤ reachBytes := by
    have := hz ((len + (m - len)) * bytes) (by simp only [DataW.weights, hS, hB]; simp)
    exact Nat.le_trans (Nat.mul_le_mul_right _ (by omega)) this
  have hlen8 : len * 8 ≤ reachBytes := Nat.le_trans (Nat.mul_le_mul_left _ hby) hlen
  refine ⟨(List.range len).map X, ⟨flatG_len en sz hen _, ?_⟩, ?_⟩
  · simp only [List.length_map, List.length_range]
    by_cases h0 : len = 0
    · subst h0
      exact .inl ⟨rfl, _, _, rfl⟩
    · right
      obtain ⟨b, off, spot⟩ := a
      have hspot : spot = none := by
        have := (World.cells?_some (hX 0 (by omega))).2.2 0 (by omega)
        obtain ⟨u, hu⟩ : ∃ u, (en (X 0))[0]? = some u := ⟨_, List.getElem?_eq_getElem (by rw [hen]; exact hsz)⟩
        rw [hu, Nat.zero_mul] at this
        simpa [Addr.add] using World.cell?_spot this
      subst hspot
      have hcell : ∀ i (hi : i < len) r, r < sz → w.cell? ⟨b, off + (i * sz + r), none⟩ = (en (X i))[r]? := by
        intro i hi r hr
        have := (World.cells?_some (hX i hi)).2.2 r hr
        rw [addS_lit, addS_lit] at this
        rw [← Nat.add_assoc]
        exact this
      refine ⟨b, off, m, rfl, ?_, hl, hm, ?_⟩
      · have := hcell 0 (by omega) 0 hsz
        obtain ⟨u, hu⟩ : ∃ u, (en (X 0))[0]? = some u := ⟨_, List.getElem?_eq_getElem (by rw [hen]; exact hsz)⟩
        rw [hu] at this
        exact block_lt_of_cell this
      · intro j u hu
        have hj : j < len * sz := by
          have := (List.getElem?_eq_some_iff.1 hu).1
          rw [flatG_len en sz hen] at this
          simpa using this
        have hq : j / sz < len := (Nat.div_lt_iff_lt_mul hsz).2 hj
        have hr : j % sz < sz := Nat.mod_lt _ hsz
        have hjj : j = j / sz * sz + j % sz := by rw [Nat.mul_comm]; exact (Nat.div_add_mod j sz).symm
        have hat := flatG_get en sz hen ((List.range len).map X) (j / sz) (by simpa using hq) (j % sz) hr
        simp only [List.getElem_map, List.getElem_range] at hat
        rw [← hjj] at hat
        rw [hat] at hu
        have := hcell (j / sz) hq (j % sz) hr
        rw [← hjj] at this
        rw [this]; exact hu
  · simp; unfold reachBytes at hlen8; omega
end Go.Proofs.YtkcnkjaeidbjbaaGreatDoor
/- The frame of a law over forests: the listed tables, the world's shape; fields that came in, slices of structs with slices in them. -/
namespace Go.Proofs.YtkcnkjaeidbjbaaGreatDoor
open Go.ChangeShapes Go.WideShapes Go.ChangeAt Go.WideMaps Go.WideElems Go.RowKit Go.Deep

theorem own : ownKnob Tryz.prog.godebug = none := by kernel_rfl
theorem laidOut : laidOutB Tryz.prog = true := by kernel_rfl
def laidT : List (String × DataW Unit) := [("unicode/utf8.acceptRanges", Rows.laid_unicode_utf8_acceptRanges), ("unicode/utf8.first", Rows.laid_unicode_utf8_first)]
theorem accept_eq : (Rows.laid_unicode_utf8_acceptRanges : DataW Unit) = Lib.acceptData := by kernel_rfl
theorem first_eq : Rows.laid_unicode_utf8_first = Lib.firstData := Pinned.utf8First_eq
theorem ml_of {W : World} (h : W.ShapedOpen Tryz.prog) : ML W :=
  cell_of_shapedOpen_int (P := Tryz.prog) (g := 2) (t := 3) (zero := #[.int .i64 0]) (k := .i64) h (of_decide_eq_true (by kernel_rfl)) (by kernel_rfl) rfl (by kernel_rfl) (by kernel_rfl) Tryz.underlying3

theorem frame_shaped {H : Type} {enc : TypeId × Value → H} {a : Assume} {C : Checked} {os : Os} {f : FuncId} {fn : Func} {s : ChangeSpec} {conds : List PathCond} {apart fresh handsOn again : Bool} {X : World → Array Value → Prop}
    (hX : ∀ (w w' : World) (args : Array Value), w.heap = w'.heap → X w args → X w' args)
    (own : ownKnob C.prog.godebug = none) (started : os.Started) (noInit : C.prog.inits.idxOf? f = none) (hfn : C.prog.funcs[f]? = some fn)
    (witness : ∃ (w : World) (tape : Tape) (i : Input), w.os = os ∧ (w.forCall tape i).Shaped C.prog ∧ i.vars = [] ∧ Input.okWide C.prog (w.forCall tape i) .any w.heap.size f i ∧
      ((s.pre enc C.prog fn conds apart (w.forCall tape i).memory i.args ∧ X (w.forCall tape i).memory i.args) ∧ sizedMet enc C.prog fn (OpenSpec.ofChange s) apart (w.forCall tape i).memory i.args) ∧ a.holds C.prog (lone (Frame.enter C.prog f i.args .normal) [] (w.forCall tape i)))
    (contract : ∀ (W : World) (base : Nat) (args : Array Value) (ds gs : List (DataW H)) (before : List MemPlace),
      (∀ (j : Nat) t v, fn.params[j]? = some t → args[j]? = some v → Value.okWide C.prog W .any base t v) →
      DataW.Whole enc C.prog fn.params.toList s.vars apart W args.toList ds gs before →
      (DataW.weightsEach C.prog (fn.params.toList ++ s.plain.varTypes C.prog) (ds ++ gs)).all (· ≤ reachBytes) = true → X W args → W.ShapedOpen C.prog →
      Calls C.prog f args W fun e W' => ∃ v, e = .returned v ∧ s.post enc C.prog fn apart fresh handsOn again W args v W') :
    ReturnsInHanded a C os f .any (fun w args => (s.pre enc C.prog fn conds apart w args ∧ X w args) ∧ sizedMet enc C.prog fn (OpenSpec.ofChange s) apart w args) (s.post enc C.prog fn apart fresh handsOn again) := by
  refine returnsInHanded_of_calls own started noInit witness fun w tape i _ hsh _ hok hpre _ => ?_
  obtain ⟨⟨⟨ds, gs, before, hw, _⟩, hx⟩, hz⟩ := hpre
  obtain ⟨_, _, _, fn2, hfn2, _, _, _, _, hval⟩ := hok
  cases Option.some.inj (hfn2.symm.trans hfn)
  have hw2 := DataW.Whole.of_heap (w' := w.forCall tape i) (by rfl) hw
  refine (contract _ w.heap.size i.args ds gs before hval hw2 (hz.weights hw) (hX _ _ _ (by rfl) hx) hsh).mono fun e W' h => ?_
  obtain ⟨v, rfl, hp⟩ := h
  exact ChangeSpec.post_blind hp
theorem w3_of {W : World} (h : laidMetH Tryz.prog laidT W) (hsh : W.ShapedOpen Tryz.prog) : W3 W := by
  rw [MakeChecks.laidMetH_plain _ _ _ (by kernel_rfl)] at h
  exact ⟨utf8Tabs_of_readsT (U8Types.of196 Tryz.lays196) ⟨by kernel_rfl, by kernel_rfl, by kernel_rfl, by kernel_rfl, by kernel_rfl, by kernel_rfl, by kernel_rfl⟩ (first_eq ▸ Lib.laidMet.reads h (.tail _ (.head _))) (accept_eq ▸ Lib.laidMet.reads h (.head _)), ml_of hsh⟩
theorem all_met (os : Os) (args : Array Value) : laidMetH Tryz.prog laidT ((World.laidAll Tryz.prog os laidT).forCall (fun _ _ => 0) ⟨#[], args, []⟩).memory := by
  rw [MakeChecks.laidMetH_plain _ _ _ (by kernel_rfl)]
  exact laidMet_laidAll _ (by kernel_rfl) (by kernel_rfl)
theorem cF : Tryz.prog.cellsOf 81 = 3 := by kernel_rfl
theorem cI : Tryz.prog.cellsOf 3 = 1 := by kernel_rfl
theorem cS : Tryz.prog.cellsOf 9 = 1 := by kernel_rfl
theorem cB : Tryz.prog.cellsOf 4 = 1 := by kernel_rfl
instance : Inhabited Fd := ⟨⟨⟨#[]⟩, 0, false⟩⟩
theorem listS3 {α : Type} {l : List α} (h : l.length = 3) : ∃ c0 c1 c2, l = [c0, c1, c2] := by
  match l, h with
  | [c0, c1, c2], _ => exact ⟨c0, c1, c2, rfl⟩
theorem open_fd {H : Type} {enc : TypeId × Value → H} {W : World} (fuel : Nat) (cs : List Value) (x : DataW H × List MemPlace) (h : DataW.trod enc Tryz.prog W 0 (fun _ => true) true fuel 81 cs = some x) : ∃ z : Fd, cs = enF z := by
  obtain ⟨xs, n, _, rfl, hl, hlen, hf⟩ := DataW.trod_struct Tryz.underlying81 h
  rw [cF] at hl
  obtain ⟨c0, c1, c2, rfl⟩ := listS3 hl
  obtain ⟨y0, y1, y2, rfl⟩ := listS3 (l := xs) hlen
  have i0 := hf 0 _ rfl
  have i1 := hf 1 _ rfl
  have i2 := hf 2 _ rfl
  simp [cI, cS, cB] at i0 i1 i2
  obtain ⟨s, e0, -, -⟩ := DataW.trod_string Tryz.underlying9 i0
  obtain ⟨n1, e1, -, -⟩ := DataW.trod_int Tryz.underlying3 i1
  obtain ⟨b, e2, -⟩ := DataW.trod_bool Tryz.underlying4 i2
  simp at e0 e1 e2
  subst e0 e1 e2
  exact ⟨⟨s, n1, b⟩, rfl⟩
theorem open_fds {H : Type} {enc : TypeId × Value → H} {w : World} {fuel : Nat} {v : Value} {x : DataW H × List MemPlace} (h : DataW.trod enc Tryz.prog w 0 (fun _ => true) true fuel 23 [v] = some x) (hz : ∀ n ∈ x.1.weights Tryz.prog 23, n ≤ reachBytes) :
    ∃ l : List Fd, IsRow w 3 v l.length (fCells l) ∧ l.length ≤ 140737488355328 :=
  open_rows enF 3 32 Tryz.underlying23 cF (by kernel_rfl) (fun _ => rfl) (by omega) (by omega) open_fd h hz
theorem wAll_mem {H : Type} {P : Program} {e : TypeId} : ∀ {l : List (DataW H)} {d : DataW H}, d ∈ l → ∀ n ∈ d.weights P e, n ∈ DataW.weightsAll P e l
  | d' :: r, d, hd, n, hn => by
    simp only [DataW.weightsAll, List.mem_append]
    rcases List.mem_cons.1 hd with rfl | h
    · exact Or.inl hn
    · exact Or.inr (wAll_mem h n hn)
/-- A slice of structs of 'sz' cells each: read as a row. -/
theorem open_rowsP {α : Type} [Inhabited α] {H : Type} {enc : TypeId × Value → H} {w : World} {fuel : Nat} {v : Value} {x : DataW H × List MemPlace} (en : α → List Value) (sz bytes : Nat) {tS tE : TypeId}
    (hS : Tryz.prog.underlying tS = some (.slice tE)) (hC : Tryz.prog.cellsOf tE = sz) (hB : Tryz.prog.bytesOf tE = bytes) (hen : ∀ y, (en y).length = sz) (hsz : 0 < sz) (hby : 8 ≤ bytes)
    (Pz : α → Prop)
    (op : ∀ (fuel : Nat) (cs : List Value) (y : DataW H × List MemPlace), DataW.trod enc Tryz.prog w 0 (fun _ => true) true fuel tE cs = some y → (∀ n ∈ y.1.weights Tryz.prog tE, n ≤ reachBytes) → ∃ z : α, cs = en z ∧ Pz z)
    (h : DataW.trod enc Tryz.prog w 0 (fun _ => true) true fuel tS [v] = some x) (hz : ∀ n ∈ x.1.weights Tryz.prog tS, n ≤ reachBytes) :
    ∃ l : List α, IsRow w sz v l.length (l.flatMap en) ∧ l.length ≤ 140737488355328 ∧ ∀ z ∈ l, Pz z := by
  rcases open_slice hS h with ⟨hv, _⟩ | ⟨a, len, cap, m, n, D, Pl, hv, hb, hl, hm, hmm, rfl, hx⟩
  · simp at hv
    subst hv
    exact ⟨[], ⟨by simp, .inl ⟨rfl, _, _, rfl⟩⟩, by simp, fun z hz => nomatch hz⟩
  simp at hv
  subst hv
  simp at hmm
  subst hmm
  have key : ∀ i, i < len → ∃ y : α, w.cells? 0 (a.add (i * sz)) sz = some (en y) ∧ Pz y := by
    intro i hi
    obtain ⟨cs, hc, ht⟩ := hx i (by omega)
    rw [hC] at hc
    obtain ⟨y, rfl, hP⟩ := op _ _ _ ht (fun n hn => hz n (by
      simp only [DataW.weights, hS, List.mem_cons, List.mem_append]
      exact .inr (.inl (wAll_mem (List.mem_map.2 ⟨i, List.mem_range.2 hi, rfl⟩) n hn))))
    exact ⟨y, hc, hP⟩
  obtain ⟨X, hXP⟩ := choose_lt key
  have hX : ∀ i, i < len → w.cells? 0 (a.add (i * sz)) sz = some (en (X i)) := fun i hi => (hXP i hi).1
  have hlen : len * bytes ≤ reachBytes := by
    have := hz ((len + (m - len)) * bytes) (by simp only [DataW.weights, hS, hB]; simp)
    exact Nat.le_trans (Nat.mul_le_mul_right _ (by omega)) this
  have hlen8 : len * 8 ≤ reachBytes := Nat.le_trans (Nat.mul_le_mul_left _ hby) hlen
  refine ⟨(List.range len).map X, ⟨flatG_len en sz hen _, ?_⟩, ?_, ?_⟩
  · simp only [List.length_map, List.length_range]
    by_cases h0 : len = 0
    · subst h0
      exact .inl ⟨rfl, _, _, rfl⟩
    · right
      obtain ⟨b, off, spot⟩ := a
      have hspot : spot = none := by
        have := (World.cells?_some (hX 0 (by omega))).2.2 0 (by omega)
        obtain ⟨u, hu⟩ : ∃ u, (en (X 0))[0]? = some u := ⟨_, List.getElem?_eq_getElem (by rw [hen]; exact hsz)⟩
        rw [hu, Nat.zero_mul] at this
        simpa [Addr.add] using World.cell?_spot this
      subst hspot
      have hcell : ∀ i (hi : i < len) r, r < sz → w.cell? ⟨b, off + (i * sz + r), none⟩ = (en (X i))[r]? := by
        intro i hi r hr
        have := (World.cells?_some (hX i hi)).2.2 r hr
        rw [addS_lit, addS_lit] at this
        rw [← Nat.add_assoc]
        exact this
      refine ⟨b, off, m, rfl, ?_, hl, hm, ?_⟩
      · have := hcell 0 (by omega) 0 hsz
        obtain ⟨u, hu⟩ : ∃ u, (en (X 0))[0]? = some u := ⟨_, List.getElem?_eq_getElem (by rw [hen]; exact hsz)⟩
        rw [hu] at this
        exact block_lt_of_cell this
      · intro j u hu
        have hj : j < len * sz := by
          have := (List.getElem?_eq_some_iff.1 hu).1
          rw [flatG_len en sz hen] at this
          simpa using this
        have hq : j / sz < len := (Nat.div_lt_iff_lt_mul hsz).2 hj
        have hr : j % sz < sz := Nat.mod_lt _ hsz
        have hjj : j = j / sz * sz + j % sz := by rw [Nat.mul_comm]; exact (Nat.div_add_mod j sz).symm
        have hat := flatG_get en sz hen ((List.range len).map X) (j / sz) (by simpa using hq) (j % sz) hr
        simp only [List.getElem_map, List.getElem_range] at hat
        rw [← hjj] at hat
        rw [hat] at hu
        have := hcell (j / sz) hq (j % sz) hr
        rw [← hjj] at this
        rw [this]; exact hu
  · simp; unfold reachBytes at hlen8; omega
  · intro z hz
    obtain ⟨i, hi, rfl⟩ := List.mem_map.1 hz
    exact (hXP i (List.mem_range.1 hi)).2
theorem cID : Tryz.prog.cellsOf 25 = 3 := by kernel_rfl
theorem cSlF : Tryz.prog.cellsOf 23 = 1 := by kernel_rfl
theorem open_id {H : Type} {enc : TypeId × Value → H} {W : World} (fuel : Nat) (cs : List Value) (x : DataW H × List MemPlace) (h : DataW.trod enc Tryz.prog W 0 (fun _ => true) true fuel 25 cs = some x) : ∃ a b c : Int, cs = [.int .i64 a, .int .i64 b, .int .i64 c] := by
  obtain ⟨xs, n, _, rfl, hl, hlen, hf⟩ := DataW.trod_struct Tryz.underlying25 h
  rw [cID] at hl
  obtain ⟨c0, c1, c2, rfl⟩ := listS3 hl
  obtain ⟨y0, y1, y2, rfl⟩ := listS3 (l := xs) hlen
  have i0 := hf 0 _ rfl
  have i1 := hf 1 _ rfl
  have i2 := hf 2 _ rfl
  simp [cI] at i0 i1 i2
  obtain ⟨n0, e0, -, -⟩ := DataW.trod_int Tryz.underlying3 i0
  obtain ⟨n1, e1, -, -⟩ := DataW.trod_int Tryz.underlying3 i1
  obtain ⟨n2, e2, -, -⟩ := DataW.trod_int Tryz.underlying3 i2
  simp at e0 e1 e2
  subst e0 e1 e2
  exact ⟨n0, n1, n2, rfl⟩
end Go.Proofs.YtkcnkjaeidbjbaaGreatDoor
