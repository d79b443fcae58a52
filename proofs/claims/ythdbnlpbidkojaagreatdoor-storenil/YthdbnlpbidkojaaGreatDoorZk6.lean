/- The frame of a law over forests: the listed tables, the world's shape; fields that came in, slices of structs with slices in them. -/
import Derived.Test.YthdbnlpbidkojaaGreatDoorZk5
import Derived.PinnedBridge
import Derived.Lay
import Derived.Lib.LaidU8T
import Derived.LaidMore
import Derived.Stop.LaidErr
import Derived.Shelf.Vars
import Derived.Test.YthdbnlpbidkojaaGreatDoorZk4
import Derived.WalkMore
namespace Go.Proofs.YthdbnlpbidkojaaGreatDoor
open Go.ChangeShapes Go.WideShapes Go.ChangeAt Go.WideMaps Go.WideElems Go.RowKit Go.Deep

theorem own : ownKnob Tryz.prog.godebug = none := by kernel_rfl
theorem laidOut : laidOutB Tryz.prog = true := by kernel_rfl
def laidT : List (String × DataW Unit) := [("unicode/utf8.acceptRanges", Rows.laid_unicode_utf8_acceptRanges), ("unicode/utf8.first", Rows.laid_unicode_utf8_first)]
theorem accept_eq : (Rows.laid_unicode_utf8_acceptRanges : DataW Unit) = Lib.acceptData := by kernel_rfl
theorem first_eq : Rows.laid_unicode_utf8_first = Lib.firstData := Pinned.utf8First_eq
theorem ml_of {W : World} (h : W.ShapedOpen Tryz.prog) : ML W :=
  cell_of_shapedOpen_int (P := Tryz.prog) (g := 2) (t := 3) (zero := #[.int .i64 0]) (k := .i64) h (of_decide_eq_true (by kernel_rfl)) (by kernel_rfl) rfl (by kernel_rfl) (by kernel_rfl) Tryz.underlying3

theorem frame_shaped {H : Type} {enc : TypeId × Value → H} {a : Assume} {C : Checked} {os : Os} {f : FuncId} {fn : Func} {s : ChangeSpec} {conds : List PathCond} {apart fresh handsOn again : Bool} {X : World → Array Value → Prop}
    (hX : ∀ (w w' : World) (args : Array Value), w.heap = w'.heap → X w args → X w' args)
    (own : ownKnob C.prog.godebug = none) (started : os.Started) (noInit : C.prog.inits.idxOf? f = none) (hfn : C.prog.funcs[f]? = some fn)
    (witness : ∃ (w : World) (tape : Tape) (i : Input), w.os = os ∧ (w.forCall tape i).Shaped C.prog ∧ i.vars = [] ∧ Input.okWide C.prog (w.forCall tape i) .any w.heap.size f i ∧
      ((s.pre enc C.prog fn conds apart (w.forCall tape i).memory i.args ∧ X (w.forCall tape i).memory i.args) ∧ sizedMet enc C.prog fn (OpenSpec.ofChange s) apart (w.forCall tape i).memory i.args) ∧ a.holds C.prog (lone (Frame.enter C.prog f i.args .normal) [] (w.forCall tape i)))
    (contract : ∀ (W : World) (base : Nat) (args : Array Value) (ds gs : List (DataW H)) (before : List MemPlace),
      (∀ (j : Nat) t v, fn.params[j]? = some t → args[j]? = some v → Value.okWide C.prog W .any base t v) →
      DataW.Whole enc C.prog fn.params.toList s.vars apart W args.toList ds gs before →
      (DataW.weightsEach C.prog (fn.params.toList ++ s.plain.varTypes C.prog) (ds ++ gs)).all (· ≤ reachBytes) = true → X W args → W.ShapedOpen C.prog →
      Calls C.prog f args W fun e W' => ∃ v, e = .returned v ∧ s.post enc C.prog fn apart fresh handsOn again W args v W') :
    ReturnsInHanded a C os f .any (fun w args => (s.pre enc C.prog fn conds apart w args ∧ X w args) ∧ sizedMet enc C.prog fn (OpenSpec.ofChange s) apart w args) (s.post enc C.prog fn apart fresh handsOn again) := by
  refine returnsInHanded_of_calls own started noInit witness fun w tape i _ hsh _ hok hpre _ => ?_
  obtain ⟨⟨⟨ds, gs, before, hw, _⟩, hx⟩, hz⟩ := hpre
  obtain ⟨_, _, _, fn2, hfn2, _, _, _, _, hval⟩ := hok
  cases Option.some.inj (hfn2.symm.trans hfn)
  have hw2 := DataW.Whole.of_heap (w' := w.forCall tape i) (by rfl) hw
  refine (contract _ w.heap.size i.args ds gs before hval hw2 (hz.weights hw) (hX _ _ _ (by rfl) hx) hsh).mono fun e W' h => ?_
  obtain ⟨v, rfl, hp⟩ := h
  exact ChangeSpec.post_blind hp
theorem w3_of {W : World} (h : laidMetH Tryz.prog laidT W) (hsh : W.ShapedOpen Tryz.prog) : W3 W := by
  rw [MakeChecks.laidMetH_plain _ _ _ (by kernel_rfl)] at h
  exact ⟨utf8Tabs_of_readsT (U8Types.of196 Tryz.lays196) ⟨by kernel_rfl, by kernel_rfl, by kernel_rfl, by kernel_rfl, by kernel_rfl, by kernel_rfl, by kernel_rfl⟩ (first_eq ▸ Lib.laidMet.reads h (.tail _ (.head _))) (accept_eq ▸ Lib.laidMet.reads h (.head _)), ml_of hsh⟩
theorem all_met (os : Os) (args : Array Value) : laidMetH Tryz.prog laidT ((World.laidAll Tryz.prog os laidT).forCall (fun _ _ => 0) ⟨#[], args, []⟩).memory := by
  rw [MakeChecks.laidMetH_plain _ _ _ (by kernel_rfl)]
  exact laidMet_laidAll _ (by kernel_rfl) (by kernel_rfl)
theorem cF : Tryz.prog.cellsOf 95 = 3 := by kernel_rfl
theorem cI : Tryz.prog.cellsOf 3 = 1 := by kernel_rfl
theorem cS : Tryz.prog.cellsOf 9 = 1 := by kernel_rfl
theorem cB : Tryz.prog.cellsOf 4 = 1 := by kernel_rfl
instance : Inhabited Fd := ⟨⟨⟨#[]⟩, 0, false⟩⟩
theorem listS3 {α : Type} {l : List α} (h : l.length = 3) : ∃ c0 c1 c2, l = [c0, c1, c2] := by
  match l, h with
  | [c0, c1, c2], _ => exact ⟨c0, c1, c2, rfl⟩
theorem open_fd {H : Type} {enc : TypeId × Value → H} {W : World} (fuel : Nat) (cs : List Value) (x : DataW H × List MemPlace) (h : DataW.trod enc Tryz.prog W 0 (fun _ => true) true fuel 95 cs = some x) : ∃ z : Fd, cs = enF z := by
  obtain ⟨xs, n, _, rfl, hl, hlen, hf⟩ := DataW.trod_struct Tryz.underlying95 h
  rw [cF] at hl
  obtain ⟨c0, c1, c2, rfl⟩ := listS3 hl
  obtain ⟨y0, y1, y2, rfl⟩ := listS3 (l := xs) hlen
  have i0 := hf 0 _ rfl
  have i1 := hf 1 _ rfl
  have i2 := hf 2 _ rfl
  simp [cI, cS, cB] at i0 i1 i2
  obtain ⟨s, e0, -, -⟩ := DataW.trod_string Tryz.underlying9 i0
  obtain ⟨n1, e1, -, -⟩ := DataW.trod_int Tryz.underlying3 i1
  obtain ⟨b, e2, -⟩ := DataW.trod_bool Tryz.underlying4 i2
  simp at e0 e1 e2
  subst e0 e1 e2
  exact ⟨⟨s, n1, b⟩, rfl⟩
theorem open_fds {H : Type} {enc : TypeId × Value → H} {w : World} {fuel : Nat} {v : Value} {x : DataW H × List MemPlace} (h : DataW.trod enc Tryz.prog w 0 (fun _ => true) true fuel 30 [v] = some x) (hz : ∀ n ∈ x.1.weights Tryz.prog 30, n ≤ reachBytes) :
    ∃ l : List Fd, IsRow w 3 v l.length (fCells l) ∧ l.length ≤ 140737488355328 :=
  open_rows enF 3 32 Tryz.underlying30 cF (by kernel_rfl) (fun _ => rfl) (by omega) (by omega) open_fd h hz
theorem wAll_mem {H : Type} {P : Program} {e : TypeId} : ∀ {l : List (DataW H)} {d : DataW H}, d ∈ l → ∀ n ∈ d.weights P e, n ∈ DataW.weightsAll P e l
  | d' :: r, d, hd, n, hn => by
    simp only [DataW.weightsAll, List.mem_append]
    rcases List.mem_cons.1 hd with rfl | h
    · exact Or.inl hn
    · exact Or.inr (wAll_mem h n hn)
/-- A slice of structs of 'sz' cells each: read as a row. -/
theorem open_rowsP {α : Type} [Inhabited α] {H : Type} {enc : TypeId × Value → H} {w : World} {fuel : Nat} {v : Value} {x : DataW H × List MemPlace} (en : α → List Value) (sz bytes : Nat) {tS tE : TypeId}
    (hS : Tryz.prog.underlying tS = some (.slice tE)) (hC : Tryz.prog.cellsOf tE = sz) (hB : Tryz.prog.bytesOf tE = bytes) (hen : ∀ y, (en y).length = sz) (hsz : 0 < sz) (hby : 8 ≤ bytes)
    (Pz : α → Prop)
    (op : ∀ (fuel : Nat) (cs : List Value) (y : DataW H × List MemPlace), DataW.trod enc Tryz.prog w 0 (fun _ => true) true fuel tE cs = some y → (∀ n ∈ y.1.weights Tryz.prog tE, n ≤ reachBytes) → ∃ z : α, cs = en z ∧ Pz z)
    (h : DataW.trod enc Tryz.prog w 0 (fun _ => true) true fuel tS [v] = some x) (hz : ∀ n ∈ x.1.weights Tryz.prog tS, n ≤ reachBytes) :
    ∃ l : List α, IsRow w sz v l.length (l.flatMap en) ∧ l.length ≤ 140737488355328 ∧ ∀ z ∈ l, Pz z := by
  rcases open_slice hS h with ⟨hv, _⟩ | ⟨a, len, cap, m, n, D, Pl, hv, hb, hl, hm, hmm, rfl, hx⟩
  · simp at hv
    subst hv
    exact ⟨[], ⟨by simp, .inl ⟨rfl, _, _, rfl⟩⟩, by simp, fun z hz => nomatch hz⟩
  simp at hv
  subst hv
  simp at hmm
  subst hmm
  have key : ∀ i, i < len → ∃ y : α, w.cells? 0 (a.add (i * sz)) sz = some (en y) ∧ Pz y := by
    intro i hi
    obtain ⟨cs, hc, ht⟩ := hx i (by omega)
    rw [hC] at hc
    obtain ⟨y, rfl, hP⟩ := op _ _ _ ht (fun n hn => hz n (by
      simp only [DataW.weights, hS, List.mem_cons, List.mem_append]
      exact .inr (.inl (wAll_mem (List.mem_map.2 ⟨i, List.mem_range.2 hi, rfl⟩) n hn))))
    exact ⟨y, hc, hP⟩
  obtain ⟨X, hXP⟩ := choose_lt key
  have hX : ∀ i, i < len → w.cells? 0 (a.add (i * sz)) sz = some (en (X i)) := fun i hi => (hXP i hi).1
  have hlen : len * bytes ≤ reachBytes := by
    have := hz ((len + (m - len)) * bytes) (by simp only [DataW.weights, hS, hB]; simp)
    exact Nat.le_trans (Nat.mul_le_mul_right _ (by omega)) this
  have hlen8 : len * 8 ≤ reachBytes := Nat.le_trans (Nat.mul_le_mul_left _ hby) hlen
  refine ⟨(List.range len).map X, ⟨flatG_len en sz hen _, ?_⟩, ?_, ?_⟩
  · simp only [List.length_map, List.length_range]
    by_cases h0 : len = 0
    · subst h0
      exact .inl ⟨rfl, _, _, rfl⟩
    · right
      obtain ⟨b, off, spot⟩ := a
      have hspot : spot = none := by
        have := (World.cells?_some (hX 0 (by omega))).2.2 0 (by omega)
        obtain ⟨u, hu⟩ : ∃ u, (en (X 0))[0]? = some u := ⟨_, List.getElem?_eq_getElem (by rw [hen]; exact hsz)⟩
        rw [hu, Nat.zero_mul] at this
        simpa [Addr.add] using World.cell?_spot this
      subst hspot
      have hcell : ∀ i (hi : i < len) r, r < sz → w.cell? ⟨b, off + (i * sz + r), none⟩ = (en (X i))[r]? := by
        intro i hi r hr
        have := (World.cells?_some (hX i hi)).2.2 r hr
        rw [addS_lit, addS_lit] at this
        rw [← Nat.add_assoc]
        exact this
      refine ⟨b, off, m, rfl, ?_, hl, hm, ?_⟩
      · have := hcell 0 (by omega) 0 hsz
        obtain ⟨u, hu⟩ : ∃ u, (en (X 0))[0]? = some u := ⟨_, List.getElem?_eq_getElem (by rw [hen]; exact hsz)⟩
        rw [hu] at this
        exact block_lt_of_cell this
      · intro j u hu
        have hj : j < len * sz := by
          have := (List.getElem?_eq_some_iff.1 hu).1
          rw [flatG_len en sz hen] at this
          simpa using this
        have hq : j / sz < len := (Nat.div_lt_iff_lt_mul hsz).2 hj
        have hr : j % sz < sz := Nat.mod_lt _ hsz
        have hjj : j = j / sz * sz + j % sz := by rw [Nat.mul_comm]; exact (Nat.div_add_mod j sz).symm
        have hat := flatG_get en sz hen ((List.range len).map X) (j / sz) (by simpa using hq) (j % sz) hr
        simp only [List.getElem_map, List.getElem_range] at hat
        rw [← hjj] at hat
        rw [hat] at hu
        have := hcell (j / sz) hq (j % sz) hr
        rw [← hjj] at this
        rw [this]; exact hu
  · simp; unfold reachBytes at hlen8; omega
  · intro z hz
    obtain ⟨i, hi, rfl⟩ := List.mem_map.1 hz
    exact (hXP i (List.mem_range.1 hi)).2
theorem cID : Tryz.prog.cellsOf 33 = 3 := by kernel_rfl
theorem cSlF : Tryz.prog.cellsOf 30 = 1 := by kernel_rfl
theorem open_id {H : Type} {enc : TypeId × Value → H} {W : World} (fuel : Nat) (cs : List Value) (x : DataW H × List MemPlace) (h : DataW.trod enc Tryz.prog W 0 (fun _ => true) true fuel 33 cs = some x) : ∃ a b c : Int, cs = [.int .i64 a, .int .i64 b, .int .i64 c] := by
  obtain ⟨xs, n, _, rfl, hl, hlen, hf⟩ := DataW.trod_struct Tryz.underlying33 h
  rw [cID] at hl
  obtain ⟨c0, c1, c2, rfl⟩ := listS3 hl
  obtain ⟨y0, y1, y2, rfl⟩ := listS3 (l := xs) hlen
  have i0 := hf 0 _ rfl
  have i1 := hf 1 _ rfl
  have i2 := hf 2 _ rfl
  simp [cI] at i0 i1 i2
  obtain ⟨n0, e0, -, -⟩ := DataW.trod_int Tryz.underlying3 i0
  obtain ⟨n1, e1, -, -⟩ := DataW.trod_int Tryz.underlying3 i1
  obtain ⟨n2, e2, -, -⟩ := DataW.trod_int Tryz.underlying3 i2
  simp at e0 e1 e2
  subst e0 e1 e2
  exact ⟨n0, n1, n2, rfl⟩
end Go.Proofs.YthdbnlpbidkojaaGreatDoor
/- The law's awake: its walk. -/
namespace Go.Proofs.YthdbnlpbidkojaaGreatDoor
open Go.RowKit

abbrev awS1 : ByteArray := ⟨#[97, 32, 105, 110, 116, 33, 44, 32, 98, 32, 116, 101, 120, 116]⟩
abbrev awS2 : ByteArray := ⟨#[97, 32, 98, 111, 111, 108]⟩
abbrev awL : List Fd := [⟨⟨#[97]⟩, 1, true⟩, ⟨⟨#[98]⟩, 2, false⟩]
abbrev awM : List Fd := [⟨⟨#[97]⟩, 3, false⟩]
theorem aw1 : parseR awS1 = (awL, 0) := by kernel_rfl
theorem aw2 : parseR awS2 = (awM, 0) := by kernel_rfl
theorem aw3 : mergeE awL awM = 9 := by kernel_rfl
theorem aw4 : fitsL awL [⟨⟨#[97]⟩, 1, 1, ⟨#[]⟩⟩] = 0 := by kernel_rfl
theorem aw5 : fitsL awL [⟨⟨#[98]⟩, 2, 0, ⟨#[120]⟩⟩] = 7 := by kernel_rfl
theorem aw6 : fitsL awL [⟨⟨#[97]⟩, 2, 0, ⟨#[120]⟩⟩] = 8 := by kernel_rfl
theorem aw7 : fitsL awL [⟨⟨#[97]⟩, 1, 1, ⟨#[]⟩⟩, ⟨⟨#[99]⟩, 1, 2, ⟨#[]⟩⟩] = 4 := by kernel_rfl
theorem rowA {w : World} {l : List At} {t : TypeId} {C : Array Value} (hC : C = (aCells l).toArray) (hl : l.length ≤ 1000) {w' : World} (hb : Below (w.alloc (.cells C t)).heap.size (w.alloc (.cells C t)) w') : IsRow w' 4 (.slice (some ⟨w.heap.size, 0, none⟩) l.length l.length) l.length (aCells l) := by
  subst hC
  refine IsRow.below ?_ hb
  refine ⟨aCells_len l, .inr ⟨w.heap.size, 0, l.length, rfl, by simp, Nat.le_refl _, by unfold maxLen; omega, ?_⟩⟩
  intro j u hu
  rw [Lib.cell_of_heap (new_at w _)]
  simpa using hu
theorem nmL : NmF awL := fun x hx => by simp at hx; rcases hx with rfl | rfl <;> decide
theorem nmM : NmF awM := fun x hx => by simp at hx; subst hx; decide
end Go.Proofs.YthdbnlpbidkojaaGreatDoor
/- The law's Few and FewAttrs: walks. -/
namespace Go.Proofs.YthdbnlpbidkojaaGreatDoor
open Go.RowKit

def okW (l : List Fd) (k : Nat) (h : k < l.length) : Prop := k ≤ 40 ∧ l[k].n.size ≤ 200
instance (l : List Fd) (k : Nat) (h : k < l.length) : Decidable (okW l k h) := by unfold okW; exact inferInstance
def fewF (l : List Fd) : Bool := decide (∀ (k : Nat) (h : k < l.length), okW l k h)
theorem fewF_no {l : List Fd} {k : Nat} (h : k < l.length) (hn : ¬ okW l k h) : fewF l = false := decide_eq_false fun hh => hn (hh k h)
def okWA (l : List At) (k : Nat) (h : k < l.length) : Prop := k ≤ 40 ∧ l[k].n.size ≤ 200 ∧ l[k].s.size ≤ 500
instance (l : List At) (k : Nat) (h : k < l.length) : Decidable (okWA l k h) := by unfold okWA; exact inferInstance
def fewA (l : List At) : Bool := decide (∀ (k : Nat) (h : k < l.length), okWA l k h)
theorem fewA_no {l : List At} {k : Nat} (h : k < l.length) (hn : ¬ okWA l k h) : fewA l = false := decide_eq_false fun hh => hn (hh k h)
set_option maxRecDepth 100000 in
set_option maxHeartbeats 2000000 in
theorem fewF_any (v : Value) (l : List Fd) (w : World) (hr : IsRow w 3 v l.length (fCells l)) (hl : l.length ≤ 140737488355328) :
    Calls Tryz.prog 68 #[v] w fun e w' => e = .returned (.bool (fewF l)) ∧ w' = w := by
  obtain ⟨a0, cap0, rfl⟩ := hr.form
  have HR : Hid (IsRow w 3 (.slice a0 l.length cap0) l.length (fCells l)) := hr
  clear hr
  go_enter Tryz.func68, Tryz.ntmps68
  go_wp2_with fail
  go_loopw [2, 3] (fun r i wr => r = .bool false ∧ ∃ k : Nat, k ≤ l.length ∧ k ≤ 41 ∧ i = .int .i64 (k : Int) ∧ Hid (∀ (j : Nat) (h : j < l.length), j < k → okW l j h) ∧ w = wr) (fun _ i _ => l.length - (intOf i).toNat)
  case atStart => exact ⟨rfl, 0, Nat.zero_le _, by omega, rfl, fun j h hj => absurd hj (Nat.not_lt_zero _), rfl⟩
  case round =>
    obtain ⟨rfl, k, hk, hk41, rfl, HO, rfl⟩ := hrel
    by_cases hlk : k < l.length
    · have dk : decide ((k : Int) < l.length) = true := by simp; omega
      obtain ⟨b, off, rfl, hlt, hcap, hc⟩ := f_at HR.out (by omega)
      obtain ⟨ck0, -, -⟩ := hc k hlk
      have HN : Hid (¬ okW l k hlk → fewF l = false) := fewF_no hlk
      by_cases h40 : k ≤ 40
      · have d40 : decide ((40 : Int) < (k : Int)) = false := by simp; omega
        by_cases h200 : l[k].n.size ≤ 200
        · have d200 : decide ((200 : Int) < (l[k].n.size : Int)) = false := by simp; omega
          have HO2 : Hid (∀ (j : Nat) (h : j < l.length), j < k + 1 → okW l j h) := fun j h hj => by
            by_cases e : j = k
            · subst e; exact ⟨h40, h200⟩
            · exact HO.out j h (by omega)
          generalize l[k].n = nm at *
          clear hc HO h200 HN
          go_wp2
          go_roundw
          case rel => exact ⟨rfl, k + 1, by omega, by omega, by simp, HO2, trivial⟩
          case measure => simp [intOf]; omega
        · have d200 : decide ((200 : Int) < (l[k].n.size : Int)) = true := by simp; omega
          have HNn : Hid (fewF l = false) := HN.out fun h => h200 h.2
          generalize l[k].n = nm at *
          clear hc HO h200 HN
          go_wp2
          go_ret
          exact ⟨by rw [HNn.out]; rfl, rfl⟩
      · have d40 : decide ((40 : Int) < (k : Int)) = true := by simp; omega
        have HNn : Hid (fewF l = false) := HN.out fun h => h40 h.1
        clear hc HO HN
        go_wp2
        go_ret
        exact ⟨by rw [HNn.out]; rfl, rfl⟩
    · have hk' : k = l.length := by omega
      subst hk'
      have dk : decide ((l.length : Int) < l.length) = false := by simp
      have HY : Hid (fewF l = true) := decide_eq_true fun j hj => HO.out j hj hj
      clear HO
      go_wp2
      go_ret
      exact ⟨by rw [HY.out]; rfl, rfl⟩
end Go.Proofs.YthdbnlpbidkojaaGreatDoor
/- The law's Refs; the reference's Same of fields: walks. -/
namespace Go.Proofs.YthdbnlpbidkojaaGreatDoor
open Go.RowKit

/-- A row of fields, handed back. -/
def RfPost (l : List Fd) (w : World) (e : Ending) (w' : World) : Prop := ∃ v, e = .returned v ∧ IsRow w' 3 v l.length (fCells l) ∧ Below w.heap.size w w'
theorem info_rf : (Tryz.prog.info? 133).map (fun i => (i.zero, i.size, i.bytes)) = some (some (.agg #[.string ⟨#[]⟩, .int .i64 0, .bool false]), 3, 32) := by kernel_rfl
theorem f_take (l : List Fd) (k : Nat) (hk : k < l.length) : fCells (l.take (k + 1)) = fCells (l.take k) ++ enF l[k] := by
  rw [List.take_succ_eq_append_getElem hk, fCells, List.flatMap_append]
  simp [fCells]
set_option maxRecDepth 100000 in
set_option maxHeartbeats 2000000 in
theorem refs_any (v : Value) (l : List Fd) (w : World) (hr : IsRow w 3 v l.length (fCells l)) (hl : l.length ≤ 1000000) :
    Calls Tryz.prog 61 #[v] w fun e w' => RfPost l w e w' := by
  obtain ⟨a0, cap0, rfl⟩ := hr.form
  have HR : Hid (IsRow w 3 (.slice a0 l.length cap0) l.length (fCells l)) := hr
  clear hr
  obtain ⟨i0, hi0, hz0, hz1, hz2⟩ := info_parts info_rf
  go_enter Tryz.func61, Tryz.ntmps61
  go_wp2_with fail
  go_loopw [3, 4] (fun r i wr => ∃ k : Nat, k ≤ l.length ∧ i = .int .i64 (k : Int) ∧ wr.ownsRow w.heap.size 133 3 r k (fCells (l.take k)) ∧ Below w.heap.size w wr) (fun _ i _ => l.length - (intOf i).toNat)
  case atStart => exact ⟨0, Nat.zero_le _, rfl, World.ownsRow_nil _ _ _ _, Below.refl _ _⟩
  case round =>
    obtain ⟨k, hk, rfl, hown, hB⟩ := hrel
    have hsz := hB.size
    by_cases hlk : k < l.length
    · have dk : decide ((k : Int) < l.length) = true := by simp; omega
      obtain ⟨b, off, rfl, hlt, hcap, hc⟩ := f_at (HR.out.below hB) (by omega)
      obtain ⟨ck0, ck1, ck2⟩ := hc k hlk
      have HTh : Hid (fCells (l.take (k + 1)) = fCells (l.take k) ++ enF l[k]) := f_take l k hlk
      have HO : Hid (wr.ownsRow w.heap.size 133 3 u3 k (fCells (l.take k))) := hown
      generalize l[k]'hlk = x at *
      obtain ⟨fn, fk, fm⟩ := x
      clear hc hown
      go_wp2_with (at_builtin; go_loud (refine wpl_appE wr rfl (.tmp 11) (.tmp 16) 67 133 rfl i0 _ 3 32 Tryz.underlying67 hi0 hz0 hz1 hz2 rfl (by decide) w.heap.size u3 k _ rfl HO.out [.string fn, .int .i64 fk, .bool fm] rfl _ rfl rfl (by intro u hu; simp at hu; rcases hu with rfl | rfl | rfl <;> rfl) (by omega) (by unfold maxLen; omega) (by omega) ?_); intro v4 w4 hown4 hb4)
      have HO4 : Hid (w4.ownsRow w.heap.size 133 3 v4 (k + 1) (fCells (l.take (k + 1)))) := by show World.ownsRow _ _ _ _ _ _ _; rw [HTh.out]; exact hown4
      have HB4 : Hid (Below w.heap.size w w4) := hB.trans hb4
      clear hown4 hb4 HTh HO hB
      go_wp2
      go_roundw
      case rel => exact ⟨k + 1, by omega, by simp, HO4.out, HB4.out⟩
      case measure => simp [intOf]; omega
    · have hk' : k = l.length := by omega
      subst hk'
      have dk : decide ((l.length : Int) < l.length) = false := by simp
      rw [List.take_of_length_le (Nat.le_refl _)] at hown
      have HX : Hid (IsRow wr 3 u3 l.length (fCells l) ∧ Below w.heap.size w wr) := ⟨IsRow.own hown, hB⟩
      clear hown hB
      go_wp2
      go_ret
      exact ⟨_, rfl, HX.out.1, HX.out.2⟩
end Go.Proofs.YthdbnlpbidkojaaGreatDoor
/- The reference's Same of fields: its walk. -/
namespace Go.Proofs.YthdbnlpbidkojaaGreatDoor
open Go.RowKit

/-- The same in all. -/
def eqF (x y : Fd) : Bool := decide (x.n = y.n) && (decide (x.k = y.k) && decide (x.m = y.m))
theorem eqF_iff (x y : Fd) : eqF x y = true ↔ x = y := by
  obtain ⟨n, k, m⟩ := x
  obtain ⟨n', k', m'⟩ := y
  simp [eqF]
def sameR (a b : List Fd) : Bool := decide (a.length = b.length) && decide (∀ (k : Nat) (h : k < a.length) (h2 : k < b.length), eqF a[k] b[k] = true)
theorem sameR_iff (a b : List Fd) : sameR a b = true ↔ a = b := by
  unfold sameR
  rw [Bool.and_eq_true, decide_eq_true_eq, decide_eq_true_eq]
  constructor
  · intro ⟨h1, h2⟩
    exact List.ext_getElem h1 fun k h h' => (eqF_iff _ _).1 (h2 k h h')
  · rintro rfl
    exact ⟨rfl, fun k h h2 => (eqF_iff _ _).2 rfl⟩
theorem sameR_no {a b : List Fd} {k : Nat} (h : k < a.length) (h2 : k < b.length) (hn : eqF a[k] b[k] = false) : sameR a b = false := by
  unfold sameR
  rw [Bool.and_eq_false_iff]
  right
  rw [decide_eq_false_iff_not]
  exact fun hh => by rw [hh k h h2] at hn; cases hn
set_option maxRecDepth 100000 in
set_option maxHeartbeats 2000000 in
theorem refSame_any (v u : Value) (a l : List Fd) (w : World) (hq : IsRow w 3 v a.length (fCells a)) (hr : IsRow w 3 u l.length (fCells l)) (hal : a.length ≤ 1000000) (hl : l.length ≤ 1000000) :
    Calls Tryz.prog 62 #[v, u] w fun e w' => e = .returned (.bool (sameR a l)) ∧ Below w.heap.size w w' := by
  obtain ⟨a0, cap0, rfl⟩ := hq.form
  obtain ⟨a1, cap1, rfl⟩ := hr.form
  have HQ : Hid (∀ w', Below w.heap.size w w' → IsRow w' 3 (.slice a0 a.length cap0) a.length (fCells a)) := fun w' h => hq.below h
  have HR : Hid (∀ w', Below w.heap.size w w' → IsRow w' 3 (.slice a1 l.length cap1) l.length (fCells l)) := fun w' h => hr.below h
  clear hq hr
  by_cases hln : a.length = l.length
  rotate_left
  · have e0 : sameR a l = false := by unfold sameR; rw [decide_eq_false hln, Bool.false_and]
    have dn : ((a.length : Int) != (l.length : Int)) = true := by rw [bne_iff_ne]; omega
    rw [e0]
    go_enter Tryz.func62, Tryz.ntmps62
    go_wp2
    go_ret
    exact ⟨rfl, Below.refl _ _⟩
  have dn : ((a.length : Int) != (l.length : Int)) = false := by rw [hln]; simp
  have HL : Hid (a.length = l.length) := hln
  clear hln
  go_enter Tryz.func62, Tryz.ntmps62
  go_wp2_with fail
  go_loopw [4, 5] (fun r i wr => r = .bool false ∧ ∃ k : Nat, k ≤ a.length ∧ i = .int .i64 (k : Int) ∧ Hid (∀ (j : Nat) (h : j < a.length) (h2 : j < l.length), j < k → eqF a[j] l[j] = true) ∧ Below w.heap.size w wr) (fun _ i _ => a.length - (intOf i).toNat)
  case atStart => exact ⟨rfl, 0, Nat.zero_le _, rfl, fun j h h2 hj => absurd hj (Nat.not_lt_zero _), Below.refl _ _⟩
  case round =>
    obtain ⟨rfl, k, hk, rfl, HO, hB⟩ := hrel
    by_cases hlk : k < a.length
    · have hlk2 : k < l.length := by have := HL.out; omega
      have dk : decide ((k : Int) < a.length) = true := by simp; omega
      obtain ⟨b, off, rfl, hlt, hcap, hc⟩ := f_at (HQ.out wr hB) (by omega)
      obtain ⟨b', off', rfl, hlt', hcap', hc'⟩ := f_at (HR.out wr hB) (by omega)
      obtain ⟨ck0, ck1, ck2⟩ := hc k hlk
      obtain ⟨dk0, dk1, dk2⟩ := hc' k hlk2
      have HO2 : Hid (eqF a[k] l[k] = true → ∀ (j : Nat) (h : j < a.length) (h2 : j < l.length), j < k + 1 → eqF a[j] l[j] = true) := fun hs j h h2 hj => by
        by_cases e : j = k
        · subst e; exact hs
        · exact HO.out j h h2 (by omega)
      have HN : Hid (eqF a[k] l[k] = false → sameR a l = false) := sameR_no hlk hlk2
      generalize a[k]'hlk = x at *
      generalize l[k]'hlk2 = y at *
      obtain ⟨n, kk, m⟩ := x
      obtain ⟨n', kk', m'⟩ := y
      have q1 : (0 : Int) ≤ (k : Int) := by omega
      have q2 : (k : Int) < (a.length : Int) := by omega
      have q3 : (k : Int) < (l.length : Int) := by omega
      clear hc hc' HO
      have HBd : Hid (∀ q, Below w.heap.size w (wr.drewN q)) := fun q => ⟨hB.os, hB.tape, hB.output, hB.size, hB.block⟩
      clear hB
      cases hq : eqF ⟨n, kk, m⟩ ⟨n', kk', m'⟩ with
      | true =>
        have HO3 := HO2.out hq
        have he := (eqF_iff _ _).1 hq
        simp only [Fd.mk.injEq] at he
        obtain ⟨rfl, rfl, rfl⟩ := he
        clear hq HN HO2
        go_wp2_with fail
        refine wp_region_quiet (C := fun w' => ∃ q, w' = wr.drewN q) (by kernel_rfl) (by kernel_rfl) ⟨1, rfl⟩ ?_
        dsimp only
        repeat (first
          | (go_big_quiet_want
             apply Exists.intro
             refine ⟨fun W' hW' => ?_, ?_⟩
             · obtain ⟨q, rfl⟩ := hW'
               go_simp
               first
                 | done
                 | exact ⟨rfl, q, rfl⟩
                 | exact ⟨rfl, rfl⟩
                 | rfl
             go_big_quiet_on
             try simp only [Act.put, List.setIfInBounds_toArray, List.set_cons_zero, List.set_cons_succ]))
        refine wpQuiet_nil ?_
        rintro w2 ⟨q, rfl⟩
        go_wp2
        go_roundw
        case rel => exact ⟨rfl, k + 1, by omega, by simp, HO3, HBd.out q⟩
        case measure => simp [intOf]; omega
      | false =>
        have HN2 : Hid (sameR a l = false) := HN.out hq
        have hne : ¬ (n.toList = n'.toList ∧ kk = kk' ∧ m = m') := fun h => by
          obtain ⟨h1, rfl, rfl⟩ := h
          rw [ByteArray.toList_eq, ByteArray.toList_eq] at h1
          obtain rfl : n = n' := ba_eq h1
          rw [(eqF_iff _ _).2 rfl] at hq
          cases hq
        have HE : Hid (∀ q : Nat, ((if n.toList = n'.toList then if kk = kk' then if m = m' then Result.ok (Next.value (Value.bool false)) (wr.drewN q) else Result.ok (Next.value (Value.bool true)) (wr.drewN q) else Result.ok (Next.value (Value.bool true)) (wr.drewN q) else Result.ok (Next.value (Value.bool true)) (wr.drewN q))) = (Result.ok (Next.value (Value.bool true)) (wr.drewN q) : Result Next)) := fun q => by
          by_cases h1 : n.toList = n'.toList
          · by_cases h2 : kk = kk'
            · by_cases h3 : m = m'
              · exact absurd ⟨h1, h2, h3⟩ hne
              · simp [h1, h2, h3]
            · simp [h1, h2]
          · simp [h1]
        clear hq HN HO2 hne
        go_wp2_with fail
        refine wp_region_quiet (C := fun w' => ∃ q, w' = wr.drewN q) (by kernel_rfl) (by kernel_rfl) ⟨1, rfl⟩ ?_
        dsimp only
        repeat (first
          | (go_big_quiet_want
             apply Exists.intro
             refine ⟨fun W' hW' => ?_, ?_⟩
             · obtain ⟨q, rfl⟩ := hW'
               go_simp
               first
                 | done
                 | exact ⟨rfl, q, rfl⟩
                 | exact ⟨rfl, rfl⟩
                 | rfl
             go_big_quiet_on
             try simp only [Act.put, List.setIfInBounds_toArray, List.set_cons_zero, List.set_cons_succ]))
        go_big_quiet_want
        refine ⟨.bool true, fun W' hW' => ?_, ?_⟩
        · obtain ⟨q, rfl⟩ := hW'
          have := HE.out q
          go_simp
        go_big_quiet_on
        try simp only [Act.put, List.setIfInBounds_toArray, List.set_cons_zero, List.set_cons_succ]
        refine wpQuiet_nil ?_
        rintro w2 ⟨q, rfl⟩
        go_wp2
        go_ret
        exact ⟨by rw [HN2.out]; rfl, HBd.out q⟩
    · have hk' : k = a.length := by omega
      subst hk'
      have dk : decide ((a.length : Int) < a.length) = false := by simp
      have HY : Hid (sameR a l = true) := by show _ = _; unfold sameR; rw [decide_eq_true HL.out, decide_eq_true (fun j h h2 => HO.out j h h2 h)]; rfl
      clear HO
      have HBB : Hid (Below w.heap.size w wr) := hB
      clear hB
      go_wp2
      go_ret
      exact ⟨by rw [HY.out]; rfl, HBB.out⟩
end Go.Proofs.YthdbnlpbidkojaaGreatDoor
/- forest.counts, IsID, climb: walks. -/
namespace Go.Proofs.YthdbnlpbidkojaaGreatDoor
open Go.RowKit

def cntI (n : Int) : Bool := decide (1 ≤ n) && decide (n ≤ 1099511627775)
/-- May an identity be? -/
def idB (a b c : Int) : Bool := decide (1 ≤ a) && (decide (a ≤ 15) && (cntI b && cntI c))
abbrev idV (a b c : Int) : Value := .agg #[.int .i64 a, .int .i64 b, .int .i64 c]
theorem countsI_any (n : Int) (w : World) : Calls Tryz.prog 75 #[.int .i64 n] w fun e w' => e = .returned (.bool (cntI n)) ∧ w' = w := by
  by_cases h1 : 1 ≤ n
  · have d1 : decide (1 ≤ n) = true := decide_eq_true h1
    have e : cntI n = decide (n ≤ 1099511627775) := by unfold cntI; rw [d1, Bool.true_and]
    rw [e]
    clear e
    go_enter Tryz.func75, Tryz.ntmps75
    go_wp2
    go_ret
    exact ⟨rfl, rfl⟩
  · have d1 : decide (1 ≤ n) = false := decide_eq_false h1
    have e : cntI n = false := by unfold cntI; rw [d1, Bool.false_and]
    rw [e]
    clear e
    go_enter Tryz.func75, Tryz.ntmps75
    go_wp2
    go_ret
    exact ⟨rfl, rfl⟩
set_option maxRecDepth 100000 in
set_option maxHeartbeats 1000000 in
theorem isID_any (a b c : Int) (w : World) : Calls Tryz.prog 47 #[idV a b c] w fun e w' => e = .returned (.bool (idB a b c)) ∧ Below w.heap.size w w' := by
  have HB : Hid (Below w.heap.size w (w.alloc (.cells #[.int .i64 a, .int .i64 b, .int .i64 c] 33))) := al_b w _
  have HC : Hid (∀ n W, Calls Tryz.prog 75 #[.int .i64 n] W fun e w' => e = .returned (.bool (cntI n)) ∧ w' = W) := fun n W => countsI_any n W
  by_cases h1 : 1 ≤ a
  · have d1 : decide (1 ≤ a) = true := decide_eq_true h1
    by_cases h2 : a ≤ 15
    · have d2 : decide (a ≤ 15) = true := decide_eq_true h2
      have e0 : idB a b c = (cntI b && cntI c) := by unfold idB; rw [d1, d2, Bool.true_and, Bool.true_and]
      rw [e0]
      cases hb : cntI b
      · rw [Bool.false_and]
        have HCb := HC.out b
        rw [hb] at HCb
        clear e0 hb h1 h2
        go_enter Tryz.func47, Tryz.ntmps47
        go_wp2_with fail
        refine (HCb _).mono ?_
        rintro e w1 ⟨rfl, h1⟩
        obtain rfl := h1.symm
        go_wp2
        go_ret
        exact ⟨rfl, HB.out⟩
      · rw [Bool.true_and]
        have HCb := HC.out b
        rw [hb] at HCb
        have HCc := HC.out c
        generalize cntI c = cc at *
        clear e0 hb h1 h2 HC
        go_enter Tryz.func47, Tryz.ntmps47
        go_wp2_with fail
        refine (HCb _).mono ?_
        rintro e w1 ⟨rfl, h1⟩
        obtain rfl := h1.symm
        go_wp2_with fail
        refine (HCc _).mono ?_
        rintro e w2 ⟨rfl, h2⟩
        obtain rfl := h2.symm
        go_wp2
        go_ret
        exact ⟨rfl, HB.out⟩
    · have d2 : decide (a ≤ 15) = false := decide_eq_false h2
      have e0 : idB a b c = false := by unfold idB; rw [d1, d2, Bool.true_and, Bool.false_and]
      rw [e0]
      clear e0 HC h1 h2
      go_enter Tryz.func47, Tryz.ntmps47
      go_wp2
      go_ret
      exact ⟨rfl, HB.out⟩
  · have d1 : decide (1 ≤ a) = false := decide_eq_false h1
    have e0 : idB a b c = false := by unfold idB; rw [d1, Bool.false_and]
    rw [e0]
    clear e0 HC h1
    go_enter Tryz.func47, Tryz.ntmps47
    go_wp2
    go_ret
    exact ⟨rfl, HB.out⟩
/-- How far up the names are names, none the same as one below it: the names, folded. -/
def clm : List (List UInt8) → List ByteArray → List (List UInt8)
  | b, [] => b
  | b, s :: r => if checkL s.data.toList = 0 ∧ ¬ foldL s.data.toList ∈ b then clm (b ++ [foldL s.data.toList]) r else b
theorem clm_len : ∀ (ch : List ByteArray) (b : List (List UInt8)), (clm b ch).length ≤ b.length + ch.length
  | [], b => by simp [clm]
  | s :: r, b => by
    rw [clm]
    split
    · have := clm_len r (b ++ [foldL s.data.toList])
      rw [List.length_append, List.length_singleton] at this
      rw [List.length_cons]
      omega
    · omega
def fVs (b : List (List UInt8)) : List Value := b.map fun x => .string (str x)
theorem info_st : (Tryz.prog.info? 9).map (fun i => (i.zero, i.size, i.bytes)) = some (some (.string ⟨#[]⟩), 1, 16) := by kernel_rfl
theorem fV_at {w : World} {v : Value} {b : List (List UInt8)} (h : IsRow w 1 v b.length (fVs b)) (h0 : 0 < b.length) :
    ∃ g off cap, v = .slice (some ⟨g, off, none⟩) b.length cap ∧ g < w.heap.size ∧ ∀ (k : Nat) (hk : k < b.length), w.cell? ⟨g, off + k, none⟩ = some (.string (str b[k])) := by
  obtain ⟨g, off, cap, hv, hlt, q1, q2, hc⟩ := h.open (by omega)
  exact ⟨g, off, cap, hv, hlt, fun k hk => hc k _ (by simp [fVs, hk])⟩
theorem strEq (A B : List UInt8) : ((str A).toList == (str B).toList) = decide (A = B) := by
  rw [ByteArray.toList_eq, ByteArray.toList_eq, str_data, str_data, Bool.eq_iff_iff]
  simp
set_option maxRecDepth 100000 in
set_option maxHeartbeats 2000000 in
theorem climb_any (v : Value) (ch : List ByteArray) (w : World) (hr : IsRow w 1 v ch.length (sVals ch)) (hl : ch.length ≤ 100) (hn : ∀ s ∈ ch, s.size ≤ 1000000) (hU : UT w) :
    Calls Tryz.prog 46 #[v] w fun e w' => e = .returned (.int .i64 ((clm [] ch).length : Int)) ∧ Below w.heap.size w w' := by
  obtain ⟨a0, cap0, rfl⟩ := hr.form
  obtain ⟨i0, hi0, hz0, hz1, hz2⟩ := info_parts info_st
  have HR : Hid (∀ W, Below w.heap.size w W → IsRow W 1 (.slice a0 ch.length cap0) ch.length (sVals ch)) := fun W h => hr.below h
  have HC : Hid (∀ (k : Nat) (hk : k < ch.length) W, Calls Tryz.prog 56 #[.string ch[k]] W fun e w' => e = .returned (.int .i64 (checkL ch[k].data.toList)) ∧ Below W.heap.size W w') := fun k hk W => check_any _ W (Nat.le_trans (hn _ (List.getElem_mem hk)) (by decide))
  have HF : Hid (∀ (k : Nat) (hk : k < ch.length) W, Below w.heap.size w W → Calls Tryz.prog 66 #[.string ch[k]] W fun e w' => e = .returned (.string (str (foldL ch[k].data.toList))) ∧ Below W.heap.size W w') := fun k hk W hW => fold_any _ W (hn _ (List.getElem_mem hk)) (Utf8Tabs_below hU hW)
  clear hr hn hU
  go_enter Tryz.func46, Tryz.ntmps46
  go_wp2_with fail
  go_step3
  go_wp2_with fail
  go_step3
  go_wp2_with fail
  go_loopw [3, 11] (fun o i wr => ∃ (k : Nat) (B : List (List UInt8)) (va : Option Addr) (vc : Nat), k ≤ ch.length ∧ i = .int .i64 (k : Int) ∧ o = .slice va B.length vc ∧ B.length ≤ k ∧ Hid (clm [] ch = clm B (ch.drop k)) ∧ Hid (wr.ownsRow w.heap.size 9 1 (.slice va B.length vc) B.length (fVs B)) ∧ Hid (Below w.heap.size w wr)) (fun _ i _ => ch.length - (intOf i).toNat)
  case atStart => exact ⟨0, [], none, 0, Nat.zero_le _, rfl, rfl, Nat.le_refl _, rfl, World.ownsRow_nil _ _ _ _, Below.refl _ _⟩
  case round =>
    obtain ⟨k, B, va, vc, hk, rfl, rfl, hBk, HQ, HO, HB⟩ := hrel
    have hsz := HB.out.size
    by_cases hlk : k < ch.length
    · have dk : decide ((k : Int) < ch.length) = true := by simp; omega
      obtain ⟨b, off, rfl, -, hlt, hcap, hcc⟩ := s_at (HR.out _ HB.out) (by omega)
      have c0 := hcc k hlk
      have HCk := HC.out k hlk wr
      have HFk := HF.out k hlk
      have HFk' : Hid (∀ W, Below w.heap.size w W → Calls Tryz.prog 66 #[.string ch[k]] W fun e w' => e = .returned (.string (str (foldL ch[k].data.toList))) ∧ Below W.heap.size W w') := HFk
      have HStop : Hid (¬ (checkL ch[k].data.toList = 0 ∧ ¬ foldL ch[k].data.toList ∈ B) → clm [] ch = B) := fun hh => by
        rw [HQ.out, List.drop_eq_getElem_cons hlk, clm, if_neg hh]
      have HGo : Hid (checkL ch[k].data.toList = 0 → ¬ foldL ch[k].data.toList ∈ B → clm [] ch = clm (B ++ [foldL ch[k].data.toList]) (ch.drop (k + 1))) := fun h1 h2 => by
        rw [HQ.out, List.drop_eq_getElem_cons hlk, clm, if_pos ⟨h1, h2⟩]
      generalize ch[k]'hlk = s at *
      generalize checkL s.data.toList = C at *
      generalize foldL s.data.toList = F at *
      clear hcc HR HC HF HQ HFk
      by_cases h0 : C = 0
      · subst h0
        go_wp2_with fail
        refine HCk.mono ?_
        rintro e w1 ⟨rfl, hb1⟩
        have HB1 : Hid (Below w.heap.size w w1) := HB.out.trans (hb1.mono hsz)
        have HO1 : Hid (w1.ownsRow w.heap.size 9 1 (.slice va B.length vc) B.length (fVs B)) := own_belowE HO.out hb1
        clear hb1 HCk HO c0
        go_wp2_with fail
        refine (HFk'.out w1 HB1.out).mono ?_
        rintro e w2 ⟨rfl, hb2⟩
        have HB2 : Hid (Below w.heap.size w w2) := HB1.out.trans (hb2.mono HB1.out.size)
        have HO2 : Hid (w2.ownsRow w.heap.size 9 1 (.slice va B.length vc) B.length (fVs B)) := own_belowE HO1.out hb2
        have hs2 := HB2.out.size
        clear hb2 HFk' HO1
        go_wp2_with fail
        go_loopw [22] (fun i wr => ∃ j : Nat, j ≤ B.length ∧ i = .int .i64 (j : Int) ∧ Hid (∀ (t : Nat) (h : t < B.length), t < j → B[t] ≠ F) ∧ w2 = wr) (fun i _ => B.length - (intOf i).toNat)
        case atStart => exact ⟨0, Nat.zero_le _, rfl, (fun t h ht => absurd ht (Nat.not_lt_zero _)), rfl⟩
        case round =>
          obtain ⟨j, hj, rfl, HN, rfl⟩ := hrel
          by_cases hjk : j < B.length
          · have dj : decide (j < B.length) = true := by simp; omega
            have dj' : decide ((j : Int) < (B.length : Int)) = true := by simp; omega
            obtain ⟨g, goff, gcap, hgv, hglt, hgc⟩ := fV_at (IsRow.own HO2.out) (by omega)
            obtain ⟨rfl, -, rfl⟩ := Value.slice.inj hgv
            have d0 := hgc j hjk
            have q1 : (0 : Int) ≤ (j : Int) := by omega
            have q2 : (j : Int) < (B.length : Int) := by omega
            have eS := strEq B[j] F
            by_cases he : B[j] = F
            · rw [decide_eq_true he] at eS
              have HSt : Hid (clm [] ch = B) := HStop.out (fun hh => hh.2 (he ▸ List.getElem_mem hjk))
              clear he hgc hgv HN HStop HGo
              go_wp2
              try rw [Exit.noGoto_ret]
              go_ret
              exact ⟨by rw [HSt.out]; rfl, HB2.out⟩
            · rw [decide_eq_false he] at eS
              have HN2 : Hid (∀ (t : Nat) (h : t < B.length), t < j + 1 → B[t] ≠ F) := fun t h ht => by
                by_cases e : t = j
                · subst e; exact he
                · exact HN.out t h (by omega)
              clear he hgc hgv HN HStop HGo
              go_wp2
              go_roundw
              case rel => exact ⟨j + 1, by omega, by simp, HN2, trivial⟩
              case measure => simp [intOf]; omega
          · have dj : decide (j < B.length) = false := by simp; omega
            have dj' : decide ((j : Int) < (B.length : Int)) = false := by simp; omega
            have hnm : ¬ F ∈ B := fun hm => by
              obtain ⟨t, ht, e⟩ := List.mem_iff_getElem.1 hm
              exact HN.out t ht (by omega) e
            have HG : Hid (clm [] ch = clm (B ++ [F]) (ch.drop (k + 1))) := HGo.out (by trivial) hnm
            clear hnm HN HStop HGo
            go_wp2_with (at_builtin; go_loud (refine wpl_appE w2 rfl (.tmp 30) (.tmp 32) 31 9 rfl i0 _ 1 16 Tryz.underlying31 hi0 hz0 hz1 hz2 rfl (by decide) w.heap.size (.slice va B.length vc) B.length (fVs B) rfl HO2.out [.string (str F)] rfl _ rfl rfl (by simp [Value.oneCell']) (by omega) (by unfold maxLen; omega) (by omega) ?_; intro v4 w4 ho4 hb4; obtain ⟨va4, vc4, rfl⟩ := (IsRow.own ho4).form))
            have HB4 : Hid (Below w.heap.size w w4) := HB2.out.trans hb4
            have HO4 : Hid (w4.ownsRow w.heap.size 9 1 (.slice va4 (B ++ [F]).length vc4) (B ++ [F]).length (fVs (B ++ [F]))) := by
              show World.ownsRow _ _ _ _ _ _ _
              have e : fVs (B ++ [F]) = fVs B ++ [.string (str F)] := by simp [fVs]
              rw [e, List.length_append, List.length_singleton]
              exact ho4
            clear ho4 hb4 HO2
            go_wp2
            go_roundw
            case rel => exact ⟨k + 1, B ++ [F], va4, vc4, by omega, by simp, by simp, by simp; omega, HG, HO4, HB4⟩
            case measure => simp [intOf]; omega
      · have nb : (C != 0) = true := by simpa using h0
        have HSt : Hid (clm [] ch = B) := HStop.out (fun hh => h0 hh.1)
        clear h0 HStop HGo HFk'
        go_wp2_with fail
        refine HCk.mono ?_
        rintro e w1 ⟨rfl, hb1⟩
        have HB1 : Hid (Below w.heap.size w w1) := HB.out.trans (hb1.mono hsz)
        clear hb1 HCk HO c0
        go_wp2
        try rw [Exit.noGoto_ret]
        go_ret
        exact ⟨by rw [HSt.out]; rfl, HB1.out⟩
    · have dk : decide ((k : Int) < ch.length) = false := by simp; omega
      have HSt : Hid (clm [] ch = B) := by
        show _ = _
        rw [HQ.out, List.drop_eq_nil_of_le (by omega)]
        rfl
      clear HQ HR HC HF
      go_wp2
      try rw [Exit.noGoto_ret]
      go_ret
      exact ⟨by rw [HSt.out]; rfl, HB.out⟩
end Go.Proofs.YthdbnlpbidkojaaGreatDoor
