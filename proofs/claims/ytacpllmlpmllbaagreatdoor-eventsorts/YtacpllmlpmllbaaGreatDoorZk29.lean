/- Attributes, an event that came in. -/
import Derived.Test.YtacpllmlpmllbaaGreatDoorZk28
import Derived.Test.YtacpllmlpmllbaaGreatDoorZk18
import Derived.Test.YtacpllmlpmllbaaGreatDoorZk25
import Derived.ProofKit
import Derived.PinnedBridge
import Derived.Lay
import Derived.Lib.LaidU8T
import Derived.Lib.LaidTab
import Derived.LaidMore
import Derived.Stop.LaidErr
import Derived.OpenShut
import Derived.ShutString
import Derived.ChangeOld
import Derived.Below
import Derived.Stop.Joined
import Derived.SizedLaws
import Derived.Shelf.Vars
import Derived.Lib.SmallJoins
import Derived.Test.YtacpllmlpmllbaaGreatDoorZk27
import Derived.Test.YtacpllmlpmllbaaGreatDoorZk21
import Derived.Test.YtacpllmlpmllbaaGreatDoorZk23
namespace Go.Proofs.YtacpllmlpmllbaaGreatDoor
open Go.ChangeShapes Go.WideShapes Go.ChangeAt Go.WideMaps Go.WideElems Go.RowKit Go.Deep

theorem cA : Tryz.prog.cellsOf 78 = 4 := by kernel_rfl
theorem cV : Tryz.prog.cellsOf 76 = 3 := by kernel_rfl
theorem cEv : Tryz.prog.cellsOf 26 = 5 := by kernel_rfl
theorem cSlA : Tryz.prog.cellsOf 24 = 1 := by kernel_rfl
theorem listE2 {α : Type} {l : List α} (h : l.length = 2) : ∃ c0 c1, l = [c0, c1] := by
  match l, h with
  | [c0, c1], _ => exact ⟨c0, c1, rfl⟩
theorem listE4 {α : Type} {l : List α} (h : l.length = 4) : ∃ c0 c1 c2 c3, l = [c0, c1, c2, c3] := by
  match l, h with
  | [c0, c1, c2, c3], _ => exact ⟨c0, c1, c2, c3, rfl⟩
theorem listE5 {α : Type} {l : List α} (h : l.length = 5) : ∃ c0 c1 c2 c3 c4, l = [c0, c1, c2, c3, c4] := by
  match l, h with
  | [c0, c1, c2, c3, c4], _ => exact ⟨c0, c1, c2, c3, c4, rfl⟩
theorem open_vv {H : Type} {enc : TypeId × Value → H} {W : World} (fuel : Nat) (cs : List Value) (x : DataW H × List MemPlace) (h : DataW.trod enc Tryz.prog W 0 (fun _ => true) true fuel 76 cs = some x) : ∃ (k n : Int) (s : ByteArray), cs = [.int .i64 k, .int .i64 n, .string s] := by
  obtain ⟨xs, n, _, rfl, hl, hlen, hf⟩ := DataW.trod_struct Tryz.underlying76 h
  rw [cV] at hl
  obtain ⟨c0, c1, c2, rfl⟩ := listS3 hl
  obtain ⟨y0, y1, y2, rfl⟩ := listS3 (l := xs) hlen
  have i0 := hf 0 _ rfl
  have i1 := hf 1 _ rfl
  have i2 := hf 2 _ rfl
  simp [cI, cS] at i0 i1 i2
  obtain ⟨n0, e0, -, -⟩ := DataW.trod_int Tryz.underlying3 i0
  obtain ⟨n1, e1, -, -⟩ := DataW.trod_int Tryz.underlying3 i1
  obtain ⟨s, e2, -, -⟩ := DataW.trod_string Tryz.underlying9 i2
  simp at e0 e1 e2
  subst e0 e1 e2
  exact ⟨n0, n1, s, rfl⟩
theorem open_at {H : Type} {enc : TypeId × Value → H} {W : World} (fuel : Nat) (cs : List Value) (x : DataW H × List MemPlace) (h : DataW.trod enc Tryz.prog W 0 (fun _ => true) true fuel 78 cs = some x) : ∃ z : At, cs = enA z := by
  obtain ⟨xs, n, _, rfl, hl, hlen, hf⟩ := DataW.trod_struct Tryz.underlying78 h
  rw [cA] at hl
  obtain ⟨c0, c1, c2, c3, rfl⟩ := listE4 hl
  obtain ⟨y0, y1, rfl⟩ := listE2 (l := xs) hlen
  have i0 := hf 0 _ rfl
  have i1 := hf 1 _ rfl
  simp [cS, cV] at i0 i1
  obtain ⟨s0, e0, -, -⟩ := DataW.trod_string Tryz.underlying9 i0
  obtain ⟨k, n1, s, e1⟩ := open_vv _ _ _ i1
  simp at e0 e1
  obtain ⟨rfl, rfl, rfl⟩ := e1
  subst e0
  exact ⟨⟨s0, k, n1, s⟩, rfl⟩
instance : Inhabited At := ⟨⟨⟨#[]⟩, 0, 0, ⟨#[]⟩⟩⟩
theorem open_ats {H : Type} {enc : TypeId × Value → H} {w : World} {fuel : Nat} {v : Value} {x : DataW H × List MemPlace} (h : DataW.trod enc Tryz.prog w 0 (fun _ => true) true fuel 24 [v] = some x) (hz : ∀ n ∈ x.1.weights Tryz.prog 24, n ≤ reachBytes) :
    ∃ l : List At, IsRow w 4 v l.length (aCells l) ∧ l.length ≤ 140737488355328 :=
  open_rows enA 4 48 Tryz.underlying24 cA (by kernel_rfl) (fun _ => rfl) (by omega) (by omega) open_at h hz
set_option maxRecDepth 100000 in
theorem open_event {H : Type} {enc : TypeId × Value → H} {W : World} {b1 : Nat} {v : Value} {d : DataW H} {p : List MemPlace} (hv : Value.okWide Tryz.prog W .any b1 26 v) (h : DataW.Trod enc Tryz.prog W 0 (fun _ => true) true 26 v d p) (hz : ∀ n ∈ d.weights Tryz.prog 26, n ≤ reachBytes) :
    ∃ (a b c : Int) (k : ByteArray) (u : Value) (l : List At), v = .agg (evA a b c k u) ∧ IsRow W 4 u l.length (aCells l) ∧ l.length ≤ 140737488355328 := by
  obtain ⟨cs, rfl, hsz⟩ := okWide_struct Tryz.underlying26 hv
  obtain ⟨fuel, hf⟩ := h
  obtain ⟨xs, n, _, hd, hl, hlen, hf⟩ := DataW.trod_struct Tryz.underlying26 hf
  rw [cEv] at hl
  obtain ⟨c0, c1, c2, c3, c4, hcs⟩ := listE5 hl
  obtain ⟨y0, y1, y2, rfl⟩ := listS3 (l := xs) hlen
  rw [hcs] at hf
  have i0 := hf 0 _ rfl
  have i1 := hf 1 _ rfl
  have i2 := hf 2 _ rfl
  simp [cID, cS, cSlA] at i0 i1 i2
  obtain ⟨a, b, c, e0⟩ := open_id _ _ _ i0
  obtain ⟨k, e1, -, -⟩ := DataW.trod_string Tryz.underlying9 i1
  simp at e0 e1
  obtain ⟨rfl, rfl, rfl⟩ := e0
  subst e1
  obtain ⟨hd1, -⟩ := Prod.mk.inj hd
  subst hd1
  obtain ⟨l, hr, hb⟩ := open_ats i2 (fun m hm => hz m (by
    simp only [DataW.weights, Tryz.underlying26, List.map_cons, List.map_nil, DataW.weightsEach, List.mem_append]
    exact .inr (.inr (.inl hm))))
  refine ⟨a, b, c, k, c4, l, ?_, hr, hb⟩
  have : cs = evA a b c k c4 := by
    have e : (Value.agg cs).cells.toList = cs.toList := rfl
    rw [e] at hcs
    cases cs
    simpa using hcs
  rw [this]
end Go.Proofs.YtacpllmlpmllbaaGreatDoor
/- What the listed variables give; and a world that meets the condition. -/
namespace Go.Proofs.YtacpllmlpmllbaaGreatDoor.V
open Go.ChangeShapes Go.WideShapes Go.ChangeAt Go.WideMaps Go.WideElems Go.RowKit

theorem own : ownKnob Tryz.prog.godebug = none := by kernel_rfl
theorem laidOut : laidOutB Tryz.prog = true := by kernel_rfl
def laidV : List (String × DataW Unit) := [("math/bits.deBruijn32tab", Rows.laid_math_bits_deBruijn32tab), ("math/bits.deBruijn64tab", Rows.laid_math_bits_deBruijn64tab), ("internal/strconv.uint64pow10", Rows.laid_internal_strconv_uint64pow10), ("unicode/utf8.acceptRanges", Rows.laid_unicode_utf8_acceptRanges), ("strconv.ErrRange", Rows.laid_strconv_ErrRange), ("strconv.ErrSyntax", Rows.laid_strconv_ErrSyntax), ("unicode/utf8.first", Rows.laid_unicode_utf8_first)]
theorem accept_eq : (Rows.laid_unicode_utf8_acceptRanges : DataW Unit) = Lib.acceptData := by kernel_rfl
theorem first_eq : Rows.laid_unicode_utf8_first = Lib.firstData := Pinned.utf8First_eq
def tab64 : List Int := [0, 1, 56, 2, 57, 49, 28, 3, 61, 58, 42, 50, 38, 29, 17, 4, 62, 47, 59, 36, 45, 43, 51, 22, 53, 39, 33, 30, 24, 18, 12, 5, 63, 55, 48, 27, 60, 41, 37, 16, 46, 35, 44, 21, 52, 32, 23, 11, 54, 26, 40, 15, 34, 20, 31, 10, 25, 14, 19, 9, 13, 8, 7, 6]
theorem g64 : Tryz.prog.globalNamed "math/bits.deBruijn64tab" = some 4 := by kernel_rfl
theorem t64 : (Tryz.prog.globals[4]?).map (·.type) = some 247 := by kernel_rfl
theorem ml_of {W : World} (h : W.ShapedOpen Tryz.prog) : ML W :=
  cell_of_shapedOpen_int (P := Tryz.prog) (g := 2) (t := 3) (zero := #[.int .i64 0]) (k := .i64) h (of_decide_eq_true (by kernel_rfl)) (by kernel_rfl) rfl (by kernel_rfl) (by kernel_rfl) Tryz.underlying3
theorem vt_of {W : World} (h : laidMetH Tryz.prog laidV W) (hsh : W.ShapedOpen Tryz.prog) : VT W := by
  rw [MakeChecks.laidMetH_plain _ _ _ (by kernel_rfl)] at h
  have h2 := laidMet.tail h
  have h3 : Lib.TabIs Tryz.prog W "math/bits.deBruijn64tab" .u8 tab64 := Lib.tabIs_of_head g64 t64 Tryz.underlying247 Tryz.underlying5 (by kernel_rfl) (by kernel_rfl) h2
  refine ⟨?_, h3.cell g64 15 (by decide), ml_of hsh⟩
  exact utf8Tabs_of_readsT (U8Types.of196 Tryz.lays196) ⟨by kernel_rfl, by kernel_rfl, by kernel_rfl, by kernel_rfl, by kernel_rfl, by kernel_rfl, by kernel_rfl⟩ (first_eq ▸ Lib.laidMet.reads h (.tail _ (.tail _ (.tail _ (.tail _ (.tail _ (.tail _ (.head _)))))))) (accept_eq ▸ Lib.laidMet.reads h (.tail _ (.tail _ (.tail _ (.head _)))))
theorem all_met (os : Os) (args : Array Value) : laidMetH Tryz.prog laidV ((World.laidAll Tryz.prog os laidV).forCall (fun _ _ => 0) ⟨#[], args, []⟩).memory := by
  rw [MakeChecks.laidMetH_plain _ _ _ (by kernel_rfl)]
  exact laidMet_laidAll _ (by kernel_rfl) (by kernel_rfl)
theorem all_shaped (os : Os) : (World.laidAll Tryz.prog os laidV).Shaped Tryz.prog := World.shaped_of_ZipB (by kernel_rfl) (by kernel_rfl)
end Go.Proofs.YtacpllmlpmllbaaGreatDoor.V
/- The frame of a law over values: the listed tables and the world's shape; a value opened and shut. -/
namespace Go.Proofs.YtacpllmlpmllbaaGreatDoor.V
open Go.ChangeShapes Go.WideShapes Go.ChangeAt Go.WideMaps Go.WideElems Go.RowKit Go.Joins

theorem frame_shaped {H : Type} {enc : TypeId × Value → H} {a : Assume} {C : Checked} {os : Os} {f : FuncId} {fn : Func} {s : ChangeSpec} {conds : List PathCond} {apart fresh handsOn again : Bool} {X : World → Array Value → Prop}
    (hX : ∀ (w w' : World) (args : Array Value), w.heap = w'.heap → X w args → X w' args)
    (own : ownKnob C.prog.godebug = none) (started : os.Started) (noInit : C.prog.inits.idxOf? f = none) (hfn : C.prog.funcs[f]? = some fn)
    (witness : ∃ (w : World) (tape : Tape) (i : Input), w.os = os ∧ (w.forCall tape i).Shaped C.prog ∧ i.vars = [] ∧ Input.okWide C.prog (w.forCall tape i) .any w.heap.size f i ∧
      ((s.pre enc C.prog fn conds apart (w.forCall tape i).memory i.args ∧ X (w.forCall tape i).memory i.args) ∧ sizedMet enc C.prog fn (OpenSpec.ofChange s) apart (w.forCall tape i).memory i.args) ∧ a.holds C.prog (lone (Frame.enter C.prog f i.args .normal) [] (w.forCall tape i)))
    (contract : ∀ (W : World) (base : Nat) (args : Array Value) (ds gs : List (DataW H)) (before : List MemPlace),
      (∀ (j : Nat) t v, fn.params[j]? = some t → args[j]? = some v → Value.okWide C.prog W .any base t v) →
      DataW.Whole enc C.prog fn.params.toList s.vars apart W args.toList ds gs before →
      (DataW.weightsEach C.prog (fn.params.toList ++ s.plain.varTypes C.prog) (ds ++ gs)).all (· ≤ reachBytes) = true → X W args → W.ShapedOpen C.prog →
      Calls C.prog f args W fun e W' => ∃ v, e = .returned v ∧ s.post enc C.prog fn apart fresh handsOn again W args v W') :
    ReturnsInHanded a C os f .any (fun w args => (s.pre enc C.prog fn conds apart w args ∧ X w args) ∧ sizedMet enc C.prog fn (OpenSpec.ofChange s) apart w args) (s.post enc C.prog fn apart fresh handsOn again) := by
  refine returnsInHanded_of_calls own started noInit witness fun w tape i _ hsh _ hok hpre _ => ?_
  obtain ⟨⟨⟨ds, gs, before, hw, _⟩, hx⟩, hz⟩ := hpre
  obtain ⟨_, _, _, fn2, hfn2, _, _, _, _, hval⟩ := hok
  cases Option.some.inj (hfn2.symm.trans hfn)
  have hw2 := DataW.Whole.of_heap (w' := w.forCall tape i) (by rfl) hw
  refine (contract _ w.heap.size i.args ds gs before hval hw2 (hz.weights hw) (hX _ _ _ (by rfl) hx) hsh).mono fun e W' h => ?_
  obtain ⟨v, rfl, hp⟩ := h
  exact ChangeSpec.post_blind hp

theorem cellsV : Tryz.prog.cellsOf 76 = 3 := by kernel_rfl
abbrev dv {H : Type} (k n : Int) (s : ByteArray) : DataW H := .agg [.lit (.int .i64 k), .lit (.int .i64 n), .lit (.string s.data.toList)]
set_option maxRecDepth 100000 in
theorem open_val {H : Type} {enc : TypeId × Value → H} {W : World} {base b0 : Nat} {sp : Nat → Bool} {held : Bool} {v : Value} {d : DataW H} {p : List MemPlace} (hv : Value.okWide Tryz.prog W .any b0 76 v) (h : DataW.Trod enc Tryz.prog W base sp held 76 v d p) :
    ∃ (k n : Int) (s : ByteArray), v = vv k n s ∧ d = dv k n s ∧ p = [] ∧ (Lit.int .i64 k).wf = true ∧ (Lit.int .i64 n).wf = true ∧ s.size ≤ maxLen := by
  obtain ⟨c0, c1, c2, y0, y1, y2, m, rfl, rfl, rfl, hy0, hy1, hy2⟩ := open_agg3 Tryz.underlying76 (by kernel_rfl) cellsV hv h
  obtain ⟨k, e0, rfl, wk⟩ := DataW.trod_int Tryz.underlying3 hy0
  obtain ⟨n, e1, rfl, wn⟩ := DataW.trod_int Tryz.underlying3 hy1
  obtain ⟨s, e2, rfl, ws⟩ := DataW.trod_string Tryz.underlying9 hy2
  simp at e0 e1 e2
  subst e0 e1 e2
  exact ⟨k, n, s, rfl, rfl, rfl, wk, wn, ws⟩
set_option maxRecDepth 100000 in
theorem shut_val {H : Type} {enc : TypeId × Value → H} {W : World} {base : Nat} {sp : Nat → Bool} {held : Bool} {k n : Int} {s : ByteArray} (wk : (Lit.int .i64 k).wf = true) (wn : (Lit.int .i64 n).wf = true) (ws : s.size ≤ maxLen) :
    DataW.Trod enc Tryz.prog W base sp held 76 (vv k n s) (dv k n s) [] :=
  shut_agg3 (y0 := (.lit (.int .i64 k), [])) (y1 := (.lit (.int .i64 n), [])) (y2 := (.lit (.string s.data.toList), [])) Tryz.underlying76 (by kernel_rfl) cellsV ⟨1, by simp [DataW.trod, Tryz.underlying3, wk]⟩ ⟨1, by simp [DataW.trod, Tryz.underlying3, wn]⟩ ⟨1, by simp [DataW.trod, Tryz.underlying9, ws]⟩
end Go.Proofs.YtacpllmlpmllbaaGreatDoor.V
/- What the listed variables give to the scanners, and to what shows and writes. -/
namespace Go.Proofs.YtacpllmlpmllbaaGreatDoor.V
open Go.ChangeShapes Go.WideShapes Go.ChangeAt Go.WideMaps Go.WideElems Go.RowKit

theorem gES : Tryz.prog.globalNamed "strconv.ErrSyntax" = some 6 := by kernel_rfl
theorem tES : (Tryz.prog.globals[6]?).map (·.type) = some 96 := by kernel_rfl
theorem starES : ("*errors.errorString" : String) = "*" ++ "errors.errorString" := by decide +kernel
theorem rowES (u : TypeId) (h : Tryz.prog.typeName? 3 u = some "*errors.errorString") : u = 274 :=
  typeName_ptr_named (nm := "errors.errorString") (by rw [← starES]; kernel_rfl) (by kernel_rfl) (by decide) u (by rw [← starES]; exact h)
theorem es_of {W : World} (h : laidMetH Tryz.prog laidV W) : ES W := by
  rw [MakeChecks.laidMetH_plain _ _ _ (by kernel_rfl)] at h
  have h5 := laidMet.tail (laidMet.tail (laidMet.tail (laidMet.tail (laidMet.tail h))))
  obtain ⟨a, s, hv, -, -, -⟩ := laid_sentinel h5 gES tES Tryz.underlying96 rowES Tryz.underlying274 Tryz.underlying276 rfl rfl Tryz.underlying9 (by kernel_rfl) (by kernel_rfl)
  refine ⟨.iface 274 (.pointer (some a)), ?_, .inr ⟨_, _, rfl⟩⟩
  simpa using World.var?_cell gES hv 0
theorem ve_of {W : World} (h : laidMetH Tryz.prog laidV W) (hsh : W.ShapedOpen Tryz.prog) : VE W := by
  have hv := vt_of h hsh
  exact ⟨hv.u, hv.t, hv.m, es_of h⟩
theorem t10 : (Tryz.prog.globals[5]?).map (·.type) = some 249 := by kernel_rfl
theorem p10_of {W : World} (h : laidMetH Tryz.prog laidV W) : P10 W := by
  rw [MakeChecks.laidMetH_plain _ _ _ (by kernel_rfl)] at h
  exact Lib.tabIs_of_head g10 t10 Tryz.underlying249 Tryz.underlying152 (by kernel_rfl) (by kernel_rfl) (laidMet.tail (laidMet.tail h))
end Go.Proofs.YtacpllmlpmllbaaGreatDoor.V
/- The frame of a law over events: law03's seven listed variables; an identity that came in. -/
namespace Go.Proofs.YtacpllmlpmllbaaGreatDoor
open Go.ChangeShapes Go.WideShapes Go.ChangeAt Go.WideMaps Go.WideElems Go.RowKit Go.Deep

theorem w6_of {W : World} (h : laidMetH Tryz.prog V.laidV W) (hsh : W.ShapedOpen Tryz.prog) : W6 W := by
  have hv := V.vt_of h hsh
  exact ⟨hv.u, hv.m, V.ve_of h hsh, hv.t, V.p10_of h⟩
theorem W6.w3 {w : World} (h : W6 w) : W3 w := ⟨h.t, h.m⟩
theorem cId : Tryz.prog.cellsOf 23 = 3 := by kernel_rfl
set_option maxRecDepth 100000 in
theorem open_id1 {H : Type} {enc : TypeId × Value → H} {W : World} {b1 : Nat} {v : Value} {d : DataW H} {p : List MemPlace} (hv : Value.okWide Tryz.prog W .any b1 23 v) (h : DataW.Trod enc Tryz.prog W 0 (fun _ => true) true 23 v d p) :
    ∃ a b c : Int, v = idV a b c := by
  obtain ⟨cs, rfl, hsz⟩ := okWide_struct Tryz.underlying23 hv
  obtain ⟨fuel, hf⟩ := h
  obtain ⟨xs, n, _, hd, hl, hlen, hf⟩ := DataW.trod_struct Tryz.underlying23 hf
  rw [cId] at hl
  obtain ⟨c0, c1, c2, hcs⟩ := listS3 hl
  obtain ⟨y0, y1, y2, rfl⟩ := listS3 (l := xs) hlen
  rw [hcs] at hf
  have i0 := hf 0 _ rfl
  have i1 := hf 1 _ rfl
  have i2 := hf 2 _ rfl
  simp [cI] at i0 i1 i2
  obtain ⟨n0, e0, -, -⟩ := DataW.trod_int Tryz.underlying3 i0
  obtain ⟨n1, e1, -, -⟩ := DataW.trod_int Tryz.underlying3 i1
  obtain ⟨n2, e2, -, -⟩ := DataW.trod_int Tryz.underlying3 i2
  simp at e0 e1 e2
  subst e0 e1 e2
  refine ⟨n0, n1, n2, ?_⟩
  have : cs = #[.int .i64 n0, .int .i64 n1, .int .i64 n2] := by
    have e : (Value.agg cs).cells.toList = cs.toList := rfl
    rw [e] at hcs
    cases cs
    simpa using hcs
  rw [this]
end Go.Proofs.YtacpllmlpmllbaaGreatDoor
/- law06's awake: its walk. -/
namespace Go.Proofs.YtacpllmlpmllbaaGreatDoor
open Go.RowKit Go.ChangeMaps

theorem row_blk {w : World} {g : Nat} {C : Array Value} {ty : TypeId} {z : Nat × Nat} {sz n cap : Nat} {xs : List Value} (h : w.heap[g]? = some (.cells C ty z)) (hx : xs.length = n * sz) (hn : n ≤ cap) (hc : cap ≤ maxLen) (hC : ∀ (j : Nat) (u : Value), xs[j]? = some u → C[j]? = some u) : IsRow w sz (.slice (some ⟨g, 0, none⟩) n cap) n xs := by
  refine ⟨hx, .inr ⟨g, 0, cap, rfl, (Array.getElem?_eq_some_iff.1 h).1, hn, hc, ?_⟩⟩
  intro j u hj
  rw [Lib.cell_of_heap h, Nat.zero_add]
  exact hC j u hj
set_option maxRecDepth 100000 in
set_option maxHeartbeats 4000000 in
theorem awake6_any (w : World) (hW : W6 w) :
    Calls Tryz.prog 9 #[] w fun e w' => e = .returned (.bool true) ∧ Below w.heap.size w w' := by
  have HPa : Hid (∀ W, Below w.heap.size w W → Calls Tryz.prog 32 #[.string ⟨#[50, 46, 49, 46, 55, 32, 78, 101, 119, 115, 32, 116, 105, 116, 108, 101, 61, 34, 97, 32, 98, 34]⟩] W fun e w' => (∃ a c, e = .returned (.tuple #[.agg (evA 2 1 7 ⟨#[78, 101, 119, 115]⟩ (.slice a 1 c)), .int .i64 0]) ∧ IsRow w' 4 (.slice a 1 c) 1 (aCells [exA])) ∧ Below W.heap.size W w') := fun W h => parse_ex W (hW.below h)
  have HCh : Hid (∀ a c W, Below w.heap.size w W → IsRow W 4 (.slice a 1 c) 1 (aCells [exA]) → Calls Tryz.prog 11 #[.agg (evA 2 1 7 ⟨#[78, 101, 119, 115]⟩ (.slice a 1 c))] W fun e w' => e = .returned (.bool true) ∧ Below W.heap.size W w') := fun a c W h hr => chk_ex _ W hr (hW.below h)
  have HSh : Hid (∀ a c W, Below w.heap.size w W → IsRow W 4 (.slice a 1 c) 1 (aCells [exA]) → Calls Tryz.prog 17 #[.agg (evA 2 1 7 ⟨#[78, 101, 119, 115]⟩ (.slice a 1 c))] W fun e w' => e = .returned (.string ⟨#[50, 46, 49, 46, 55, 32, 78, 101, 119, 115, 32, 116, 105, 116, 108, 101, 61, 34, 97, 32, 98, 34]⟩) ∧ Below W.heap.size W w') := fun a c W h hr => shw_ex _ W hr (hW.below h)
  have HSm : Hid (∀ a c a' c' W, IsRow W 4 (.slice a 1 c) 1 (aCells [exA]) → IsRow W 4 (.slice a' 1 c') 1 (aCells [exA]) → Calls Tryz.prog 13 #[.agg (evA 2 1 7 ⟨#[78, 101, 119, 115]⟩ (.slice a 1 c)), .agg (evA 2 1 7 ⟨#[78, 101, 119, 115]⟩ (.slice a' 1 c'))] W fun e w' => e = .returned (.bool true) ∧ Below W.heap.size W w') := fun a c a' c' W h1 h2 => evSame_one 2 1 7 ⟨#[78, 101, 119, 115]⟩ _ _ exA W h1 h2
  clear hW
  obtain ⟨w1, hw1⟩ : ∃ w1, w1 = w.alloc (.cells #[.string ⟨#[116, 105, 116, 108, 101]⟩, .int .i64 2, .int .i64 0, .string ⟨#[97, 32, 98]⟩] 78) := ⟨_, rfl⟩
  have B1 : Hid (Below w.heap.size w w1) := by show Below _ _ _; rw [hw1]; exact al_b _ _
  have hn1 : w1.heap[w.heap.size]? = some (.cells #[.string ⟨#[116, 105, 116, 108, 101]⟩, .int .i64 2, .int .i64 0, .string ⟨#[97, 32, 98]⟩] 78 (0, 0)) := by rw [hw1]; exact new_at _ _
  have C1 : Hid (∀ W, Below w1.heap.size w1 W → W.heap[w.heap.size]? = some (.cells #[.string ⟨#[116, 105, 116, 108, 101]⟩, .int .i64 2, .int .i64 0, .string ⟨#[97, 32, 98]⟩] 78 (0, 0))) := fun W h => (h.block _ (Array.getElem?_eq_some_iff.1 hn1).1).trans hn1
  clear hn1
  obtain ⟨w2, hw2⟩ : ∃ w2, w2 = w1.alloc (.cells (evA 2 1 7 ⟨#[78, 101, 119, 115]⟩ (.slice (some ⟨w.heap.size, 0, none⟩) 1 1)) 26) := ⟨_, rfl⟩
  have B2 : Hid (Below w1.heap.size w1 w2) := by show Below _ _ _; rw [hw2]; exact al_b _ _
  have hn2 : w2.heap[(w.heap.size + 1)]? = some (.cells (evA 2 1 7 ⟨#[78, 101, 119, 115]⟩ (.slice (some ⟨w.heap.size, 0, none⟩) 1 1)) 26 (0, 0)) := by rw [hw2]; rw [show w.heap.size + 1 = w1.heap.size by (rw [hw1]; simp)]; exact new_at _ _
  have C2 : Hid (∀ W, Below w2.heap.size w2 W → W.heap[(w.heap.size + 1)]? = some (.cells (evA 2 1 7 ⟨#[78, 101, 119, 115]⟩ (.slice (some ⟨w.heap.size, 0, none⟩) 1 1)) 26 (0, 0))) := fun W h => (h.block _ (Array.getElem?_eq_some_iff.1 hn2).1).trans hn2
  clear hn2
  have HR1 : Hid (∀ W, Below w1.heap.size w1 W → IsRow W 4 (.slice (some ⟨w.heap.size, 0, none⟩) 1 1) 1 (aCells [exA])) := fun W h => row_blk (C1.out W h) rfl (Nat.le_refl _) (by decide) (fun j u hj => by rw [List.getElem?_toArray]; exact hj)
  go_enter Tryz.func9, Tryz.ntmps9
  go_wp2_with fail
  rw [← hw1, ← hw2]
  clear hw1 hw2
  refine (HPa.out _ (bT B1.out B2.out)).mono ?_
  rintro e w3 ⟨⟨a, c, rfl, hr⟩, hb⟩
  have B3 : Hid (Below w2.heap.size w2 w3) := hb
  clear hb 
  have HR : Hid (∀ W, Below w3.heap.size w3 W → IsRow W 4 (.slice a 1 c) 1 (aCells [exA])) := fun W h => hr.below h
  clear hr
  obtain ⟨w4, hw4⟩ : ∃ w4, w4 = w3.alloc (.cells (evA 2 1 7 ⟨#[78, 101, 119, 115]⟩ (.slice a 1 c)) 26) := ⟨_, rfl⟩
  have B4 : Hid (Below w3.heap.size w3 w4) := by show Below _ _ _; rw [hw4]; exact al_b _ _
  have hn4 : w4.heap[w3.heap.size]? = some (.cells (evA 2 1 7 ⟨#[78, 101, 119, 115]⟩ (.slice a 1 c)) 26 (0, 0)) := by rw [hw4]; exact new_at _ _
  have C4 : Hid (∀ W, Below w4.heap.size w4 W → W.heap[w3.heap.size]? = some (.cells (evA 2 1 7 ⟨#[78, 101, 119, 115]⟩ (.slice a 1 c)) 26 (0, 0))) := fun W h => (h.block _ (Array.getElem?_eq_some_iff.1 hn4).1).trans hn4
  clear hn4
  have hk := C2.out w4 (bT B3.out B4.out)
  have c2_0 : w4.cell? ⟨(w.heap.size + 1), 0, none⟩ = some (.int .i64 2) := by rw [Lib.cell_of_heap hk]; rfl
  have c2_1 : w4.cell? ⟨(w.heap.size + 1), 1, none⟩ = some (.int .i64 1) := by rw [Lib.cell_of_heap hk]; rfl
  have c2_2 : w4.cell? ⟨(w.heap.size + 1), 2, none⟩ = some (.int .i64 7) := by rw [Lib.cell_of_heap hk]; rfl
  have c2_3 : w4.cell? ⟨(w.heap.size + 1), 3, none⟩ = some (.string ⟨#[78, 101, 119, 115]⟩) := by rw [Lib.cell_of_heap hk]; rfl
  have c2_4 : w4.cell? ⟨(w.heap.size + 1), 4, none⟩ = some (.slice (some ⟨w.heap.size, 0, none⟩) 1 1) := by rw [Lib.cell_of_heap hk]; rfl
  clear hk
  rw [hw4] at c2_0 c2_1 c2_2 c2_3 c2_4
  go_wp2_with fail
  rw [← hw4]
  clear hw4
  clear c2_0 c2_1 c2_2 c2_3 c2_4
  refine (HSh.out _ _ _ (bT (bT (bT B1.out B2.out) B3.out) B4.out) (HR1.out _ (bT (bT B2.out B3.out) B4.out))).mono ?_
  rintro e w5 ⟨rfl, hb⟩
  have B5 : Hid (Below w4.heap.size w4 w5) := hb
  clear hb 
  have hk := C2.out w5 (bT (bT B3.out B4.out) B5.out)
  have c2_0 : w5.cell? ⟨(w.heap.size + 1), 0, none⟩ = some (.int .i64 2) := by rw [Lib.cell_of_heap hk]; rfl
  have c2_1 : w5.cell? ⟨(w.heap.size + 1), 1, none⟩ = some (.int .i64 1) := by rw [Lib.cell_of_heap hk]; rfl
  have c2_2 : w5.cell? ⟨(w.heap.size + 1), 2, none⟩ = some (.int .i64 7) := by rw [Lib.cell_of_heap hk]; rfl
  have c2_3 : w5.cell? ⟨(w.heap.size + 1), 3, none⟩ = some (.string ⟨#[78, 101, 119, 115]⟩) := by rw [Lib.cell_of_heap hk]; rfl
  have c2_4 : w5.cell? ⟨(w.heap.size + 1), 4, none⟩ = some (.slice (some ⟨w.heap.size, 0, none⟩) 1 1) := by rw [Lib.cell_of_heap hk]; rfl
  clear hk
  have hk := C4.out w5 B5.out
  have c4_0 : w5.cell? ⟨w3.heap.size, 0, none⟩ = some (.int .i64 2) := by rw [Lib.cell_of_heap hk]; rfl
  have c4_1 : w5.cell? ⟨w3.heap.size, 1, none⟩ = some (.int .i64 1) := by rw [Lib.cell_of_heap hk]; rfl
  have c4_2 : w5.cell? ⟨w3.heap.size, 2, none⟩ = some (.int .i64 7) := by rw [Lib.cell_of_heap hk]; rfl
  have c4_3 : w5.cell? ⟨w3.heap.size, 3, none⟩ = some (.string ⟨#[78, 101, 119, 115]⟩) := by rw [Lib.cell_of_heap hk]; rfl
  have c4_4 : w5.cell? ⟨w3.heap.size, 4, none⟩ = some (.slice a 1 c) := by rw [Lib.cell_of_heap hk]; rfl
  clear hk
  go_wp2_with fail
  clear c2_0 c2_1 c2_2 c2_3 c2_4 c4_0 c4_1 c4_2 c4_3 c4_4
  refine (HSm.out _ _ _ _ _ (HR1.out _ (bT (bT (bT B2.out B3.out) B4.out) B5.out)) (HR.out _ (bT B4.out B5.out))).mono ?_
  rintro e w6 ⟨rfl, hb⟩
  have B6 : Hid (Below w5.heap.size w5 w6) := hb
  clear hb 
  have hk := C2.out w6 (bT (bT (bT B3.out B4.out) B5.out) B6.out)
  have c2_0 : w6.cell? ⟨(w.heap.size + 1), 0, none⟩ = some (.int .i64 2) := by rw [Lib.cell_of_heap hk]; rfl
  have c2_1 : w6.cell? ⟨(w.heap.size + 1), 1, none⟩ = some (.int .i64 1) := by rw [Lib.cell_of_heap hk]; rfl
  have c2_2 : w6.cell? ⟨(w.heap.size + 1), 2, none⟩ = some (.int .i64 7) := by rw [Lib.cell_of_heap hk]; rfl
  have c2_3 : w6.cell? ⟨(w.heap.size + 1), 3, none⟩ = some (.string ⟨#[78, 101, 119, 115]⟩) := by rw [Lib.cell_of_heap hk]; rfl
  have c2_4 : w6.cell? ⟨(w.heap.size + 1), 4, none⟩ = some (.slice (some ⟨w.heap.size, 0, none⟩) 1 1) := by rw [Lib.cell_of_heap hk]; rfl
  clear hk
  go_wp2_with fail
  clear c2_0 c2_1 c2_2 c2_3 c2_4
  refine (HCh.out _ _ _ (bT (bT (bT (bT (bT B1.out B2.out) B3.out) B4.out) B5.out) B6.out) (HR1.out _ (bT (bT (bT (bT B2.out B3.out) B4.out) B5.out) B6.out))).mono ?_
  rintro e w7 ⟨rfl, hb⟩
  have B7 : Hid (Below w6.heap.size w6 w7) := hb
  clear hb 
  have HBz : Hid (Below w.heap.size w w7) := (bT (bT (bT (bT (bT (bT B1.out B2.out) B3.out) B4.out) B5.out) B6.out) B7.out)
  go_wp2
  go_ret
  exact ⟨rfl, HBz.out⟩
end Go.Proofs.YtacpllmlpmllbaaGreatDoor
