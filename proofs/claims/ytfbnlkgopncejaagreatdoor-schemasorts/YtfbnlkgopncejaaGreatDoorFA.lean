/- The frame of a law over schemas: the listed tables, the world's shape; fields and attributes that came in. -/
import Derived.Test.YtfbnlkgopncejaaGreatDoorEN
import Derived.Test.YtfbnlkgopncejaaGreatDoorSG
import Derived.PinnedBridge
import Derived.Lay
import Derived.Lib.LaidU8T
import Derived.LaidMore
import Derived.Stop.LaidErr
import Derived.Shelf.Vars
namespace Go.Proofs.YtfbnlkgopncejaaGreatDoor
open Go.ChangeShapes Go.WideShapes Go.ChangeAt Go.WideMaps Go.WideElems Go.RowKit Go.Deep

theorem own : ownKnob Tryz.prog.godebug = none := by kernel_rfl
theorem laidOut : laidOutB Tryz.prog = true := by kernel_rfl
def laidS : List (String × DataW Unit) := [("unicode/utf8.acceptRanges", Rows.laid_unicode_utf8_acceptRanges), ("caduceus/schema.words", Rows.laid_caduceus_schema_words), ("unicode/utf8.first", Rows.laid_unicode_utf8_first)]
theorem accept_eq : (Rows.laid_unicode_utf8_acceptRanges : DataW Unit) = Lib.acceptData := by kernel_rfl
theorem first_eq : Rows.laid_unicode_utf8_first = Lib.firstData := Pinned.utf8First_eq
theorem ml_of {W : World} (h : W.ShapedOpen Tryz.prog) : ML W :=
  cell_of_shapedOpen_int (P := Tryz.prog) (g := 3) (t := 3) (zero := #[.int .i64 0]) (k := .i64) h (of_decide_eq_true (by kernel_rfl)) (by kernel_rfl) rfl (by kernel_rfl) (by kernel_rfl) Tryz.underlying3

theorem frame_shaped {H : Type} {enc : TypeId × Value → H} {a : Assume} {C : Checked} {os : Os} {f : FuncId} {fn : Func} {s : ChangeSpec} {conds : List PathCond} {apart fresh handsOn again : Bool} {X : World → Array Value → Prop}
    (hX : ∀ (w w' : World) (args : Array Value), w.heap = w'.heap → X w args → X w' args)
    (own : ownKnob C.prog.godebug = none) (started : os.Started) (noInit : C.prog.inits.idxOf? f = none) (hfn : C.prog.funcs[f]? = some fn)
    (witness : ∃ (w : World) (tape : Tape) (i : Input), w.os = os ∧ (w.forCall tape i).Shaped C.prog ∧ i.vars = [] ∧ Input.okWide C.prog (w.forCall tape i) .any w.heap.size f i ∧
      ((s.pre enc C.prog fn conds apart (w.forCall tape i).memory i.args ∧ X (w.forCall tape i).memory i.args) ∧ sizedMet enc C.prog fn (OpenSpec.ofChange s) apart (w.forCall tape i).memory i.args) ∧ a.holds C.prog (lone (Frame.enter C.prog f i.args .normal) [] (w.forCall tape i)))
    (contract : ∀ (W : World) (base : Nat) (args : Array Value) (ds gs : List (DataW H)) (before : List MemPlace),
      (∀ (j : Nat) t v, fn.params[j]? = some t → args[j]? = some v → Value.okWide C.prog W .any base t v) →
      DataW.Whole enc C.prog fn.params.toList s.vars apart W args.toList ds gs before →
      (DataW.weightsEach C.prog (fn.params.toList ++ s.plain.varTypes C.prog) (ds ++ gs)).all (· ≤ reachBytes) = true → X W args → W.ShapedOpen C.prog →
      Calls C.prog f args W fun e W' => ∃ v, e = .returned v ∧ s.post enc C.prog fn apart fresh handsOn again W args v W') :
    ReturnsInHanded a C os f .any (fun w args => (s.pre enc C.prog fn conds apart w args ∧ X w args) ∧ sizedMet enc C.prog fn (OpenSpec.ofChange s) apart w args) (s.post enc C.prog fn apart fresh handsOn again) := by
  refine returnsInHanded_of_calls own started noInit witness fun w tape i _ hsh _ hok hpre _ => ?_
  obtain ⟨⟨⟨ds, gs, before, hw, _⟩, hx⟩, hz⟩ := hpre
  obtain ⟨_, _, _, fn2, hfn2, _, _, _, _, hval⟩ := hok
  cases Option.some.inj (hfn2.symm.trans hfn)
  have hw2 := DataW.Whole.of_heap (w' := w.forCall tape i) (by rfl) hw
  refine (contract _ w.heap.size i.args ds gs before hval hw2 (hz.weights hw) (hX _ _ _ (by rfl) hx) hsh).mono fun e W' h => ?_
  obtain ⟨v, rfl, hp⟩ := h
  exact ChangeSpec.post_blind hp
theorem word_at {W : World} {cs : Array Value} {fuel : Nat} {p : List MemPlace} {ds : List (DataW Unit)} (h4 : DataW.trod (fun _ => ()) Tryz.prog W 0 (fun _ => true) false fuel 98 cs.toList = some (.agg ds, p)) (i : Nat) (hi : i < 5) {l : List UInt8} (hd : ds[i]? = some (.lit (.string l))) : cs[i]? = some (.string ⟨l.toArray⟩) := by
  have hc : Tryz.prog.cellsOf 9 = 1 := by kernel_rfl
  obtain ⟨fuel', d, q, e1, e2⟩ := Lib.array_elem Tryz.underlying98 h4 i hi
  rw [hd] at e1
  cases e1
  obtain ⟨s, e3, e4, -⟩ := DataW.trod_string Tryz.underlying9 e2
  rw [hc, Nat.mul_one] at e3
  have e5 := congrArg (·[0]?) e3
  simp only [List.getElem?_take, List.getElem?_drop, Nat.add_zero, List.getElem?_cons_zero] at e5
  simp at e5
  have e6 : l = s.data.toList ∧ q = [] := by simpa using e4
  replace e6 := e6.1
  subst e6
  rw [e5]
theorem wt_of {W : World} (h : Lib.VarReads Tryz.prog W "caduceus/schema.words" Rows.laid_caduceus_schema_words) : WT W := by
  obtain ⟨g, t, cs, fuel, p, h1, h2, h3, h4⟩ := h
  obtain rfl : g = 0 := Option.some.inj ((show Tryz.prog.globalNamed "caduceus/schema.words" = some 0 by kernel_rfl).symm.trans h1) |>.symm
  obtain rfl : t = 98 := Option.some.inj ((show (Tryz.prog.globals[0]?).map (·.type) = some 98 by kernel_rfl).symm.trans h2) |>.symm
  exact ⟨(World.var?_cell h1 h3 1).trans (word_at h4 1 (by omega) rfl), (World.var?_cell h1 h3 2).trans (word_at h4 2 (by omega) rfl), (World.var?_cell h1 h3 3).trans (word_at h4 3 (by omega) rfl), (World.var?_cell h1 h3 4).trans (word_at h4 4 (by omega) rfl)⟩
theorem w4_of {W : World} (h : laidMetH Tryz.prog laidS W) (hsh : W.ShapedOpen Tryz.prog) : W4 W := by
  rw [MakeChecks.laidMetH_plain _ _ _ (by kernel_rfl)] at h
  exact ⟨utf8Tabs_of_readsT (U8Types.of196 Tryz.lays196) ⟨by kernel_rfl, by kernel_rfl, by kernel_rfl, by kernel_rfl, by kernel_rfl, by kernel_rfl, by kernel_rfl⟩ (first_eq ▸ Lib.laidMet.reads h (.tail _ (.tail _ (.head _)))) (accept_eq ▸ Lib.laidMet.reads h (.head _)), ml_of hsh, wt_of (Lib.laidMet.reads h (.tail _ (.head _)))⟩
theorem all_met (os : Os) (args : Array Value) : laidMetH Tryz.prog laidS ((World.laidAll Tryz.prog os laidS).forCall (fun _ _ => 0) ⟨#[], args, []⟩).memory := by
  rw [MakeChecks.laidMetH_plain _ _ _ (by kernel_rfl)]
  exact laidMet_laidAll _ (by kernel_rfl) (by kernel_rfl)
theorem cF : Tryz.prog.cellsOf 35 = 3 := by kernel_rfl
theorem cI : Tryz.prog.cellsOf 3 = 1 := by kernel_rfl
theorem cS : Tryz.prog.cellsOf 9 = 1 := by kernel_rfl
theorem cB : Tryz.prog.cellsOf 4 = 1 := by kernel_rfl
instance : Inhabited Fd := ⟨⟨⟨#[]⟩, 0, false⟩⟩
instance : Inhabited At := ⟨⟨⟨#[]⟩, 0, 0, ⟨#[]⟩⟩⟩
theorem listS3 {α : Type} {l : List α} (h : l.length = 3) : ∃ c0 c1 c2, l = [c0, c1, c2] := by
  match l, h with
  | [c0, c1, c2], _ => exact ⟨c0, c1, c2, rfl⟩
theorem open_fd {H : Type} {enc : TypeId × Value → H} {W : World} (fuel : Nat) (cs : List Value) (x : DataW H × List MemPlace) (h : DataW.trod enc Tryz.prog W 0 (fun _ => true) true fuel 35 cs = some x) : ∃ z : Fd, cs = enF z := by
  obtain ⟨xs, n, _, rfl, hl, hlen, hf⟩ := DataW.trod_struct Tryz.underlying35 h
  rw [cF] at hl
  obtain ⟨c0, c1, c2, rfl⟩ := listS3 hl
  obtain ⟨y0, y1, y2, rfl⟩ := listS3 (l := xs) hlen
  have i0 := hf 0 _ rfl
  have i1 := hf 1 _ rfl
  have i2 := hf 2 _ rfl
  simp [cI, cS, cB] at i0 i1 i2
  obtain ⟨s, e0, -, -⟩ := DataW.trod_string Tryz.underlying9 i0
  obtain ⟨n1, e1, -, -⟩ := DataW.trod_int Tryz.underlying3 i1
  obtain ⟨b, e2, -⟩ := DataW.trod_bool Tryz.underlying4 i2
  simp at e0 e1 e2
  subst e0 e1 e2
  exact ⟨⟨s, n1, b⟩, rfl⟩
theorem open_fds {H : Type} {enc : TypeId × Value → H} {w : World} {fuel : Nat} {v : Value} {x : DataW H × List MemPlace} (h : DataW.trod enc Tryz.prog w 0 (fun _ => true) true fuel 22 [v] = some x) (hz : ∀ n ∈ x.1.weights Tryz.prog 22, n ≤ reachBytes) :
    ∃ l : List Fd, IsRow w 3 v l.length (fCells l) ∧ l.length ≤ 140737488355328 :=
  open_rows enF 3 32 Tryz.underlying22 cF (by kernel_rfl) (fun _ => rfl) (by omega) (by omega) open_fd h hz
end Go.Proofs.YtfbnlkgopncejaaGreatDoor
