/- The law's refs, the reference's Same: walks. -/
import Derived.Test.YtdendpckihckeaaDoorZb4
import Derived.Test.YtdendpckihckeaaDoorZb5
import Derived.RegionTactic
import Derived.ChangeAlike
import Derived.Deep.QuietTactic
import Derived.BigQuiet
import Derived.Shelf.Small.Strs
import Derived.Shelf.Utf8.AppendRune
import Derived.Shelf.Pu.ToError
import Derived.Ground.MpProg
import Derived.Test.YtdendpckihckeaaDoorProg
import Derived.Test.YtdendpckihckeaaDoorZb2
import Derived.Test.YtdendpckihckeaaDoorZb3
import Derived.Lib.ConvBytes
import Derived.Test.YtdendpckihckeaaDoorZb1
import Derived.Lib.OthersKept
import Derived.BigCall
namespace Go.Proofs.YtdendpckihckeaaDoor
open Go.RowKit

theorem tk_get : ∀ (l : List Tk) (k : Nat) (h : k < l.length) (j : Nat), j < 6 → (tkCells l)[k * 6 + j]? = (Tk.cells (l[k]'h))[j]?
  | [], k, h, _, _ => absurd h (Nat.not_lt_zero _)
  | x :: l, 0, _, j, hj => by
    have e : tkCells (x :: l) = Tk.cells x ++ tkCells l := by simp [tkCells]
    rw [e, Nat.zero_mul, Nat.zero_add, List.getElem?_append_left (by simpa [Tk.cells] using hj)]
    rfl
  | x :: l, k + 1, h, j, hj => by
    have e : tkCells (x :: l) = Tk.cells x ++ tkCells l := by simp [tkCells]
    have z : (Tk.cells x).length = 6 := rfl
    rw [e, List.getElem?_append_right (by omega), show (k + 1) * 6 + j - (Tk.cells x).length = k * 6 + j by omega]
    exact tk_get l k (by simpa using h) j hj
/-- The cells of a token in a row. -/
theorem toks_at {w : World} {a : Option Addr} {cap : Nat} {l : List Tk} (h : IsRow w 6 (.slice a l.length cap) l.length (tkCells l)) (k : Nat) (hk : k < l.length) :
    ∃ b off, a = some ⟨b, off, none⟩ ∧ b < w.heap.size ∧ w.cell? ⟨b, off + k * 6, none⟩ = some (.int .i64 l[k].k) ∧ w.cell? ⟨b, off + k * 6 + 1, none⟩ = some (.int .i64 l[k].p) ∧ w.cell? ⟨b, off + k * 6 + 2, none⟩ = some (.string (str l[k].s)) ∧ w.cell? ⟨b, off + k * 6 + 3, none⟩ = some (.int .i64 l[k].vk) ∧ w.cell? ⟨b, off + k * 6 + 4, none⟩ = some (.int .i64 l[k].vn) ∧ w.cell? ⟨b, off + k * 6 + 5, none⟩ = some (.string (str l[k].vs)) := by
  obtain ⟨b, off, cap', hv, hlt, _, _, hc⟩ := h.open (by omega)
  simp only [Value.slice.injEq] at hv
  have g := fun j hj u hu => hc (k * 6 + j) u ((tk_get l k hk j hj).trans hu)
  refine ⟨b, off, hv.1, hlt, ?_, ?_, ?_, ?_, ?_, ?_⟩
  · exact g 0 (by decide) _ rfl
  · rw [Nat.add_assoc]; exact g 1 (by decide) _ rfl
  · rw [Nat.add_assoc]; exact g 2 (by decide) _ rfl
  · rw [Nat.add_assoc]; exact g 3 (by decide) _ rfl
  · rw [Nat.add_assoc]; exact g 4 (by decide) _ rfl
  · rw [Nat.add_assoc]; exact g 5 (by decide) _ rfl
theorem info_rtok : (Tryd.prog.info? 43).map (fun i => (i.zero, i.size, i.bytes)) = some (some (.agg #[.int .i64 0, .int .i64 0, .string ⟨#[]⟩, .int .i64 0, .int .i64 0, .string ⟨#[]⟩]), 6, 64) := by kernel_rfl
set_option maxRecDepth 100000 in
set_option maxHeartbeats 2000000 in
/-- refs: the same tokens, in a row of the call's own. -/
theorem refs7_any (v : Value) (l : List Tk) (w : World) (h : IsRow w 6 v l.length (tkCells l)) (hl : l.length ≤ 100000) :
    Calls Tryd.prog 7 #[v] w fun e w' => ∃ v', e = .returned v' ∧ w'.ownsRow w.heap.size 43 6 v' l.length (tkCells l) ∧ Below w.heap.size w w' := by
  obtain ⟨a0, cap0, rfl⟩ := h.form
  obtain ⟨i0, hi0, hz0, hz1, hz2⟩ := info_parts info_rtok
  go_enter Tryd.func7, Tryd.ntmps7
  go_wp2
  go_loopw [3, 4] (fun t i wr => ∃ k : Nat, k ≤ l.length ∧ i = .int .i64 k ∧ wr.ownsRow w.heap.size 43 6 t k (tkCells (l.take k)) ∧ Below w.heap.size w wr) (fun _ i _ => l.length - (intOf i).toNat)
  case atStart => exact ⟨0, Nat.zero_le _, rfl, World.ownsRow_nil _ _ _ _, Below.refl _ _⟩
  case round =>
    obtain ⟨k, hk, rfl, hown, hb⟩ := hrel
    by_cases hlt : k < l.length
    · obtain ⟨b, off, rfl, hbl, c0, c1, c2, c3, c4, c5⟩ := toks_at (h.below hb) k hlt
      have hi : (k : Int) < l.length := by omega
      have HF : Hid (tkCells (l.take k) ++ Tk.cells l[k] = tkCells (l.take (k + 1))) := by show _ = _; rw [List.take_succ_eq_append_getElem hlt, tkCells_snoc]
      have HO : Hid (wr.ownsRow w.heap.size 43 6 u3 k (tkCells (l.take k))) := hown
      have h1c : ∀ u ∈ Tk.cells l[k], u.oneCell' = true := by intro u hu; simp [Tk.cells] at hu; rcases hu with rfl | rfl | rfl | rfl | rfl | rfl <;> rfl
      have hb1 : (k + 1) * 64 ≤ 140737488355328 := by omega
      have hb2 : k + 1 ≤ maxLen := by unfold maxLen; omega
      have hb3 : w.heap.size ≤ wr.heap.size := hb.size
      have HBr : Hid (Below w.heap.size w wr) := hb
      clear hown
      go_wp2
      go_region_law (refine step_appd rfl (.tmp 11) (.tmp 33) 29 43 rfl i0 _ 6 64 Tryd.underlying29 hi0 hz0 hz1 hz2 rfl (by decide) w.heap.size u3 k (tkCells (l.take k)) rfl HO.out (Tk.cells l[k]) rfl _ rfl rfl h1c hb1 hb2 hb3 ?_; intro v3 w3 hown3 hbw3 hst3 hform; obtain ⟨g3, c3, rfl⟩ := hform)
      all_goals go_wp2
      all_goals
        go_roundw
        case rel => exact ⟨k + 1, by omega, by go_num, by rw [← HF.out]; exact hown3, HBr.out.trans hbw3⟩
        case measure => simp [intOf]; omega
    · have hk' : k = l.length := by omega
      subst hk'
      have e : l.take l.length = l := List.take_of_length_le (Nat.le_refl _)
      rw [e] at hown
      have H1 : Hid (wr.ownsRow w.heap.size 43 6 u3 l.length (tkCells l)) := hown
      clear hown
      go_wp2
      go_ret
      exact ⟨_, rfl, H1.out, hb⟩
set_option maxRecDepth 100000 in
set_option maxHeartbeats 4000000 in
/-- Same, but for the places, of tokens that are the same but for their places. -/
theorem same7_any (v1 v2 : Value) (l m : List Tk) (w : World) (h1 : IsRow w 6 v1 l.length (tkCells l)) (h2 : IsRow w 6 v2 m.length (tkCells m)) (hl : l.length ≤ 100000)
    (hlm : m.length = l.length) (hs : ∀ (k : Nat) (h : k < l.length) (h' : k < m.length), l[k].k = m[k].k ∧ l[k].s = m[k].s ∧ l[k].vk = m[k].vk ∧ l[k].vn = m[k].vn ∧ l[k].vs = m[k].vs) :
    Calls Tryd.prog 6 #[v1, v2, .bool true] w fun e w' => e = .returned (.bool true) ∧ Below w.heap.size w w' := by
  obtain ⟨a1, cap1, rfl⟩ := h1.form
  obtain ⟨a2, cap2, rfl⟩ := h2.form
  have hlm' : (m.length : Int) = l.length := by omega
  go_enter Tryd.func6, Tryd.ntmps6
  go_wp2
  go_loopw [7] (fun i wr => ∃ k : Nat, k ≤ l.length ∧ i = .int .i64 k ∧ Below w.heap.size w wr) (fun i _ => l.length - (intOf i).toNat)
  case atStart => exact ⟨0, Nat.zero_le _, rfl, Below.refl _ _⟩
  case round =>
    obtain ⟨k, hk, rfl, hb⟩ := hrel
    by_cases hlt : k < l.length
    · obtain ⟨b, off, rfl, hbl, c0, c1, c2, c3, c4, c5⟩ := toks_at (h1.below hb) k hlt
      obtain ⟨b', off', rfl, hbl', d0, d1, d2, d3, d4, d5⟩ := toks_at (h2.below hb) k (by omega)
      obtain ⟨e1, e2, e3, e4, e5⟩ := hs k hlt (by omega)
      rw [← e1] at d0
      rw [← e2] at d2
      rw [← e3] at d3
      rw [← e4] at d4
      rw [← e5] at d5
      have hi : (k : Int) < l.length := by omega
      clear hs e1 e2 e3 e4 e5
      generalize str l[k].s = S at *
      generalize str l[k].vs = VS at *
      generalize l[k].k = K at *
      generalize l[k].vk = VK at *
      generalize l[k].vn = VN at *
      generalize l[k].p = PP at *
      generalize m[k].p = PQ at *
      go_wp2
      go_region
      all_goals go_wp2
      all_goals go_roundw
      case rel => exact ⟨k + 1, by omega, by go_num, hb.drew⟩
      case measure => simp [intOf]; omega
    · have hk' : k = l.length := by omega
      subst hk'
      go_wp2
      go_ret
      exact ⟨rfl, hb⟩
end Go.Proofs.YtdendpckihckeaaDoor
/- The shelf's contracts of utf8.AppendRune and strconv.toError, at this program, laid by the shelf's tool in plain words. -/
namespace Go.Proofs
open Go.Shelf
def Tryd.lays242_ren : Go.Shelf.Ren := ⟨fun | 242 => 50 | 278 => 63 | n => n, fun | 37 => 22 | 21 => 21 | 51 => 93 | 4 => 4 | 5 => 5 | 46 => 50 | n => n, fun | n => n⟩
theorem Tryd.lays242 : Go.Proofs.Lays.n242 Tryd.prog Tryd.lays242_ren := {
  mixed := by kernel_rfl
  f242 := Tryd.func50.trans (congrArg some (by kernel_rfl))
  f278 := Tryd.func63.trans (congrArg some (by kernel_rfl))
  t4 := Tryd.underlying4
  a4 := Tryd.isAgg4
  z4 := Tryd.sizeOf4
  v4 := Tryd.zeroValue4
  t5 := Tryd.underlying5
  a5 := Tryd.isAgg5
  z5 := Tryd.sizeOf5
  v5 := Tryd.zeroValue5
  t21 := Tryd.underlying21
  a21 := Tryd.isAgg21
  z21 := Tryd.sizeOf21
  v21 := Tryd.zeroValue21
  t37 := Tryd.underlying22
  a37 := Tryd.isAgg22
  z37 := Tryd.sizeOf22
  v37 := Tryd.zeroValue22
  t46 := Tryd.underlying50
  a46 := Tryd.isAgg50
  z46 := Tryd.sizeOf50
  v46 := Tryd.zeroValue50
  t51 := Tryd.underlying93
  a51 := Tryd.isAgg93
  z51 := Tryd.sizeOf93
  v51 := Tryd.zeroValue93 }
open Go.RowKit in
theorem Tryd.utf8_AppendRune_row (B : Nat) (v : Value) (n : Nat) (xs : List Value) (r : Int) (hr0 : -2147483648 ≤ r) (hr1 : r ≤ 2147483647) (w : World) (hown : w.ownsRowF B 5 1 v n xs) (hlen : n + 4 ≤ 140737488355328) (hBw : B ≤ w.heap.size) :
    Calls Tryd.prog 50 #[v, .int .i32 r] w fun e w' => ∃ v', e = .returned v' ∧ w'.ownsRowF B 5 1 v' (n + (Lib.runeCells r).length) (xs ++ Lib.runeCells r) ∧ ∃ o, (w.alloc o).grownBy w' v.ownBlock := Any.utf8_AppendRune_row Tryd.lays242 (by kernel_rfl) B v n xs r hr0 hr1 w hown hlen hBw
def Tryd.laysPu17_ren : Go.Shelf.Ren := ⟨fun | 17 => 74 | 21 => 83 | 22 => 84 | 23 => 85 | 24 => 86 | 25 => 92 | 27 => 94 | 26 => 93 | 28 => 97 | 29 => 68 | 30 => 75 | 31 => 76 | 32 => 77 | 33 => 78 | 35 => 88 | 34 => 87 | 36 => 89 | 37 => 90 | 38 => 91 | 39 => 95 | 40 => 96 | n => n, fun | 9 => 9 | 3 => 3 | 24 => 65 | 34 => 109 | 4 => 4 | 39 => 111 | 44 => 120 | 37 => 22 | 0 => 0 | 47 => 82 | 50 => 125 | 48 => 123 | 2 => 2 | 52 => 102 | 22 => 55 | 5 => 5 | 55 => 105 | 59 => 115 | 60 => 93 | 20 => 20 | 61 => 116 | 36 => 50 | 65 => 126 | 66 => 127 | 67 => 69 | n => n, fun | 0 => 4 | 1 => 5 | 2 => 3 | 3 => 6 | 4 => 7 | n => n⟩
theorem Tryd.laysPu17 : Go.Proofs.LaysPu.n17 Tryd.prog Tryd.laysPu17_ren := {
  mixed := by kernel_rfl
  f17 := Tryd.func74.trans (congrArg some (by kernel_rfl))
  f21 := Tryd.func83.trans (congrArg some (by kernel_rfl))
  f22 := Tryd.func84.trans (congrArg some (by kernel_rfl))
  f23 := Tryd.func85.trans (congrArg some (by kernel_rfl))
  f24 := Tryd.func86.trans (congrArg some (by kernel_rfl))
  f25 := Tryd.func92.trans (congrArg some (by kernel_rfl))
  f26 := Tryd.func93.trans (congrArg some (by kernel_rfl))
  f27 := Tryd.func94.trans (congrArg some (by kernel_rfl))
  f28 := Tryd.func97.trans (congrArg some (by kernel_rfl))
  f29 := Tryd.func68.trans (congrArg some (by kernel_rfl))
  f30 := Tryd.func75.trans (congrArg some (by kernel_rfl))
  f31 := Tryd.func76.trans (congrArg some (by kernel_rfl))
  f32 := Tryd.func77.trans (congrArg some (by kernel_rfl))
  f33 := Tryd.func78.trans (congrArg some (by kernel_rfl))
  f34 := Tryd.func87.trans (congrArg some (by kernel_rfl))
  f35 := Tryd.func88.trans (congrArg some (by kernel_rfl))
  f36 := Tryd.func89.trans (congrArg some (by kernel_rfl))
  f37 := Tryd.func90.trans (congrArg some (by kernel_rfl))
  f38 := Tryd.func91.trans (congrArg some (by kernel_rfl))
  f39 := Tryd.func95.trans (congrArg some (by kernel_rfl))
  f40 := Tryd.func96.trans (congrArg some (by kernel_rfl))
  t0 := Tryd.underlying0
  a0 := Tryd.isAgg0
  z0 := Tryd.sizeOf0
  v0 := Tryd.zeroValue0
  i0 := by kernel_rfl
  t2 := Tryd.underlying2
  a2 := Tryd.isAgg2
  z2 := Tryd.sizeOf2
  v2 := Tryd.zeroValue2
  i2 := by kernel_rfl
  t3 := Tryd.underlying3
  a3 := Tryd.isAgg3
  z3 := Tryd.sizeOf3
  v3 := Tryd.zeroValue3
  i3 := by kernel_rfl
  t4 := Tryd.underlying4
  a4 := Tryd.isAgg4
  z4 := Tryd.sizeOf4
  v4 := Tryd.zeroValue4
  i4 := by kernel_rfl
  t5 := Tryd.underlying5
  a5 := Tryd.isAgg5
  z5 := Tryd.sizeOf5
  v5 := Tryd.zeroValue5
  i5 := by kernel_rfl
  t9 := Tryd.underlying9
  a9 := Tryd.isAgg9
  z9 := Tryd.sizeOf9
  v9 := Tryd.zeroValue9
  i9 := by kernel_rfl
  t20 := Tryd.underlying20
  a20 := Tryd.isAgg20
  z20 := Tryd.sizeOf20
  v20 := Tryd.zeroValue20
  i20 := by kernel_rfl
  t22 := Tryd.underlying55
  a22 := Tryd.isAgg55
  z22 := Tryd.sizeOf55
  v22 := Tryd.zeroValue55
  i22 := by kernel_rfl
  t24 := Tryd.underlying65
  a24 := Tryd.isAgg65
  z24 := Tryd.sizeOf65
  v24 := Tryd.zeroValue65
  i24 := by kernel_rfl
  t34 := Tryd.underlying109
  a34 := Tryd.isAgg109
  z34 := Tryd.sizeOf109
  v34 := Tryd.zeroValue109
  i34 := by kernel_rfl
  c34 := by kernel_rfl
  t36 := Tryd.underlying50
  a36 := Tryd.isAgg50
  z36 := Tryd.sizeOf50
  v36 := Tryd.zeroValue50
  i36 := by kernel_rfl
  t37 := Tryd.underlying22
  a37 := Tryd.isAgg22
  z37 := Tryd.sizeOf22
  v37 := Tryd.zeroValue22
  i37 := by kernel_rfl
  t39 := Tryd.underlying111
  a39 := Tryd.isAgg111
  z39 := Tryd.sizeOf111
  v39 := Tryd.zeroValue111
  i39 := by kernel_rfl
  t44 := Tryd.underlying120
  a44 := Tryd.isAgg120
  z44 := Tryd.sizeOf120
  v44 := Tryd.zeroValue120
  i44 := by kernel_rfl
  t47 := Tryd.underlying82
  a47 := Tryd.isAgg82
  z47 := Tryd.sizeOf82
  v47 := Tryd.zeroValue82
  i47 := by kernel_rfl
  t48 := Tryd.underlying123
  a48 := Tryd.isAgg123
  z48 := Tryd.sizeOf123
  v48 := Tryd.zeroValue123
  i48 := by kernel_rfl
  t50 := Tryd.underlying125
  a50 := Tryd.isAgg125
  z50 := Tryd.sizeOf125
  v50 := Tryd.zeroValue125
  i50 := by kernel_rfl
  t52 := Tryd.underlying102
  a52 := Tryd.isAgg102
  z52 := Tryd.sizeOf102
  v52 := Tryd.zeroValue102
  i52 := by kernel_rfl
  t55 := Tryd.underlying105
  a55 := Tryd.isAgg105
  z55 := Tryd.sizeOf105
  v55 := Tryd.zeroValue105
  i55 := by kernel_rfl
  t59 := Tryd.underlying115
  a59 := Tryd.isAgg115
  z59 := Tryd.sizeOf115
  v59 := Tryd.zeroValue115
  i59 := by kernel_rfl
  t60 := Tryd.underlying93
  a60 := Tryd.isAgg93
  z60 := Tryd.sizeOf93
  v60 := Tryd.zeroValue93
  i60 := by kernel_rfl
  t61 := Tryd.underlying116
  a61 := Tryd.isAgg116
  z61 := Tryd.sizeOf116
  t65 := Tryd.underlying126
  a65 := Tryd.isAgg126
  z65 := Tryd.sizeOf126
  v65 := Tryd.zeroValue126
  i65 := by kernel_rfl
  t66 := Tryd.underlying127
  a66 := Tryd.isAgg127
  z66 := Tryd.sizeOf127
  v66 := Tryd.zeroValue127
  i66 := by kernel_rfl
  t67 := Tryd.underlying69
  a67 := Tryd.isAgg69
  z67 := Tryd.sizeOf69
  v67 := Tryd.zeroValue69
  i67 := by kernel_rfl
  g0 := by kernel_rfl
  m0 := by kernel_rfl
  g1 := by kernel_rfl
  m1 := by kernel_rfl
  g2 := by kernel_rfl
  m2 := by kernel_rfl
  g3 := by kernel_rfl
  m3 := by kernel_rfl
  g4 := by kernel_rfl
  m4 := by kernel_rfl }
open Go.RowKit in
theorem Tryd.strconv_toError_syntax (fn s : ByteArray) (base bits : Int) (ev : Value) (w : World) (hlim : s.size ≤ 281474976710656) (hv : w.cell? ⟨4, 0, none⟩ = some ev) (hev : ev = .nilIface ∨ ∃ te pe, ev = .iface te pe) :
    Calls Tryd.prog 74 #[.string fn, .string s, .int .i64 base, .int .i64 bits, .iface 109 (.int .i64 2)] w fun e w' => ∃ N, e = .returned (.iface 111 (.pointer (some ⟨N, 0, none⟩))) ∧ w.heap.size ≤ N ∧ w'.heap[N]? = some (.cells #[.string fn, .string s, ev] 120 (0, 0)) ∧ Below w.heap.size w w' := AnyPu.strconv_toError_syntax Tryd.laysPu17 fn s base bits ev w hlim hv hev
end Go.Proofs
/- strconv.ParseUint at base 16 and 8 bits, of one or two bytes: walks. -/
namespace Go.Proofs.YtdendpckihckeaaDoor
open Go.RowKit

def puG : Nat → List UInt8 → Option Nat
  | acc, [] => some acc
  | acc, c :: t => match puD c with
    | none => none
    | some d => puG (16 * acc + d) t
theorem puG_puL {l : List UInt8} (h1 : l.length ≠ 0) (h2 : l.length ≤ 2) : puG 0 l = puL l := by
  match l, h1, h2 with
  | [x], _, _ =>
    simp only [puG, puL]
    cases puD x <;> simp
  | [x, y], _, _ =>
    simp only [puG, puL]
    cases puD x with
    | none => rfl
    | some d =>
      simp only
      cases puD y <;> simp
/-- What the inner ParseUint hands back. -/
def puVal : Option Nat → Value
  | some n => .tuple #[.int .u64 (n : Int), .nilIface]
  | none => .tuple #[.int .u64 0, .iface 109 (.int .i64 2)]
theorem or32 : ∀ n : Fin 256, bits BinOp.or IntKind.u8 (n.val : Int) 32 = ((n.val ||| 32 : Nat) : Int) := by decide +kernel
theorem or32_lt : ∀ n : Fin 256, (n.val ||| 32) < 256 := by decide +kernel
theorem lower_any (c : Nat) (w : World) (h : c < 256) : Calls Tryd.prog 81 #[.int .u8 (c : Int)] w fun e w' => e = .returned (.int .u8 ((c ||| 32 : Nat) : Int)) ∧ w' = w := by
  have ho := or32 ⟨c, h⟩
  simp only at ho
  go_enter Tryd.func81, Tryd.ntmps81
  go_wp2
  go_ret
  exact ⟨rfl, rfl⟩
theorem bytesWorld_below (w : World) (e : TypeId) (s : ByteArray) : Below w.heap.size w (Lib.bytesWorld w e s) := ⟨rfl, rfl, rfl, by rw [Lib.bytesWorld_size]; exact Nat.le_succ _, fun k hk => Lib.bytesWorld_at_old w e s k hk⟩
set_option maxHeartbeats 8000000 in
set_option maxRecDepth 100000 in
theorem parseUint_i (t : ByteArray) (w : World) (h1 : t.size ≠ 0) (h2 : t.size ≤ 2) :
    Calls Tryd.prog 73 #[.string t, .int .i64 16, .int .i64 8] w fun e w' => e = .returned (puVal (puG 0 t.data.toList)) ∧ Below w.heap.size w w' := by
  have hemp : t.toList.isEmpty = false := empty_not t h1
  have hcv := Lib.run_convert_string_bytes (P := Tryd.prog) w 9 22 5 t (u := .string) Tryd.underlying9 Tryd.underlying22 Tryd.underlying5
  have hB : ∀ j, j < t.size → (Lib.bytesWorld w 5 t).cell? ⟨w.heap.size, j, none⟩ = some (.int .u8 (t.data.toList.getD j 0).toNat) := fun j hj => Lib.bytesWorld_cell w 5 t j hj
  have HW : Hid (Below w.heap.size w (Lib.bytesWorld w 5 t)) := bytesWorld_below w _ t
  generalize Lib.bytesWorld w 5 t = W1 at *
  obtain ⟨bs, hL⟩ : ∃ bs, bs = t.data.toList := ⟨_, rfl⟩
  have hLn : bs.length = t.size := by rw [hL, Lib.size_eq]
  rw [← hL] at hB ⊢
  clear hL h1
  have hmv : IntKind.u64.wrap (IntKind.u64.wrap 256 - 1) = 255 := by decide +kernel
  go_enter Tryd.func73, Tryd.ntmps73
  go_wp2
  go_loop [12, 13, 101] (fun vu vn vi => ∃ (k acc : Nat) (a : Int), vu = .bool false ∧ vn = .int .u64 a ∧ vi = .int .i64 k ∧ k ≤ t.size ∧ Hid (a = (acc : Int) ∧ (k = 0 → acc = 0) ∧ (k = 1 → acc < 16) ∧ acc < 256 ∧ puG 0 bs = puG acc (bs.drop k)))
    (fun _ _ vi => t.size - (intOf vi).toNat)
  case atStart => exact ⟨0, 0, 0, rfl, rfl, rfl, by omega, rfl, fun _ => rfl, fun h => by omega, by omega, rfl⟩
  case round =>
    obtain ⟨k, acc, a, rfl, rfl, rfl, hk, hh⟩ := hrel
    obtain ⟨ha, hk0, hk1, hacc, hdec⟩ := hh.out
    clear hh
    by_cases hkn : k < t.size
    · have hc := hB k hkn
      have hdrop : bs.drop k = bs[k]'(by omega) :: bs.drop (k + 1) := List.drop_eq_getElem_cons (by omega)
      have hget : bs.getD k 0 = bs[k]'(by omega) := by simp [List.getD, List.getElem?_eq_getElem (show k < bs.length by omega)]
      rw [hdrop] at hdec
      rw [hget] at hc
      generalize bs[k]'(by omega) = c at hc hdec
      have hc256 : c.toNat < 256 := c.toNat_lt
      have hacc16 : acc < 16 := by
        rcases Nat.lt_or_ge 0 k with h | h
        · exact hk1 (by omega)
        · rw [hk0 (by omega)]; decide
      clear hB hdrop hget
      by_cases hdig : 48 ≤ c.toNat ∧ c.toNat ≤ 57
      · have hF : puG acc (c :: bs.drop (k + 1)) = puG (16 * acc + (c.toNat - 48)) (bs.drop (k + 1)) := by
          simp only [puG, puD, if_pos hdig]
        obtain ⟨hd0, hd1⟩ := hdig
        have HN : Hid (a * 16 + ((c.toNat : Int) - 48) = ((16 * acc + (c.toNat - 48) : Nat) : Int) ∧ (k + 1 = 0 → 16 * acc + (c.toNat - 48) = 0) ∧ (k + 1 = 1 → 16 * acc + (c.toNat - 48) < 16) ∧ 16 * acc + (c.toNat - 48) < 256 ∧ puG 0 bs = puG (16 * acc + (c.toNat - 48)) (bs.drop (k + 1))) := ⟨by omega, fun h => by omega, fun h => by have := hk0 (by omega); omega, by omega, hdec.trans hF⟩
        have a0 : 0 ≤ a := by omega
        have a1 : a < 16 := by omega
        clear hF hdec ha hk0 hk1 hacc hacc16
        go_wp2
        refine ⟨⟨k + 1, 16 * acc + (c.toNat - 48), a * 16 + ((c.toNat : Int) - 48), rfl, (by first | rfl | (congr 1; omega)), (by first | rfl | (congr 1; omega)), by omega, HN⟩, by simp [intOf]; omega⟩
      · have ho := or32_lt ⟨c.toNat, hc256⟩
        simp only at ho
        by_cases hlet : 97 ≤ (c.toNat ||| 32) ∧ (c.toNat ||| 32) ≤ 102
        · have hF : puG acc (c :: bs.drop (k + 1)) = puG (16 * acc + ((c.toNat ||| 32) - 87)) (bs.drop (k + 1)) := by
            simp only [puG, puD, if_neg hdig, if_pos hlet]
          have HL : Hid (∀ w : World, Calls Tryd.prog 81 #[.int .u8 (c.toNat : Int)] w fun e w' => e = .returned (.int .u8 ((c.toNat ||| 32 : Nat) : Int)) ∧ w' = w) := fun w => lower_any c.toNat w hc256
          generalize (c.toNat ||| 32) = m at *
          obtain ⟨hm0, hm1⟩ := hlet
          have HN : Hid (a * 16 + ((m : Int) - 87) = ((16 * acc + (m - 87) : Nat) : Int) ∧ (k + 1 = 0 → 16 * acc + (m - 87) = 0) ∧ (k + 1 = 1 → 16 * acc + (m - 87) < 16) ∧ 16 * acc + (m - 87) < 256 ∧ puG 0 bs = puG (16 * acc + (m - 87)) (bs.drop (k + 1))) := ⟨by omega, fun h => by omega, fun h => by have := hk0 (by omega); omega, by omega, hdec.trans hF⟩
          have a0 : 0 ≤ a := by omega
          have a1 : a < 16 := by omega
          have n95 : ((c.toNat : Int) == 95) = false ∨ ((c.toNat : Int) == 95) = true := by cases ((c.toNat : Int) == 95) <;> simp
          have nd : (decide ((48 : Int) ≤ c.toNat) = false) ∨ (decide ((48 : Int) ≤ c.toNat) = true ∧ decide ((c.toNat : Int) ≤ 57) = false) := by
            by_cases h48 : 48 ≤ c.toNat
            · exact .inr ⟨by simp; omega, by simp; omega⟩
            · exact .inl (by simp; omega)
          have d1 : decide ((97 : Int) ≤ m) = true := by simp; omega
          have d2 : decide ((m : Int) ≤ 122) = true := by simp; omega
          clear hF hdec ha hk0 hk1 hacc hacc16 hdig
          rcases nd with nd | ⟨nd, nd2⟩
          all_goals
            rcases n95 with n95 | n95
            all_goals
              go_wp2_with (go_at_call 81; refine (HL.out _).mono ?_; rintro e w' ⟨rfl, rfl⟩)
              refine ⟨⟨k + 1, 16 * acc + (m - 87), a * 16 + ((m : Int) - 87), rfl, (by first | rfl | (congr 1; omega)), (by first | rfl | (congr 1; omega)), by omega, HN⟩, by simp [intOf]; omega⟩
        · have hF : puG acc (c :: bs.drop (k + 1)) = none := by
            simp only [puG, puD, if_neg hdig, if_neg hlet]
          have HD : Hid (puG 0 bs = none) := hdec.trans hF
          have HL : Hid (∀ w : World, Calls Tryd.prog 81 #[.int .u8 (c.toNat : Int)] w fun e w' => e = .returned (.int .u8 ((c.toNat ||| 32 : Nat) : Int)) ∧ w' = w) := fun w => lower_any c.toNat w hc256
          generalize (c.toNat ||| 32) = m at *
          have n95 : ((c.toNat : Int) == 95) = false ∨ ((c.toNat : Int) == 95) = true := by cases ((c.toNat : Int) == 95) <;> simp
          have nd : (decide ((48 : Int) ≤ c.toNat) = false) ∨ (decide ((48 : Int) ≤ c.toNat) = true ∧ decide ((c.toNat : Int) ≤ 57) = false) := by
            by_cases h48 : 48 ≤ c.toNat
            · exact .inr ⟨by simp; omega, by simp; omega⟩
            · exact .inl (by simp; omega)
          have nm : (decide ((97 : Int) ≤ m) = false) ∨ (decide ((97 : Int) ≤ m) = true ∧ decide ((m : Int) ≤ 122) = false) ∨ (decide ((97 : Int) ≤ m) = true ∧ decide ((m : Int) ≤ 122) = true ∧ 103 ≤ m ∧ m ≤ 122) := by
            by_cases h97 : 97 ≤ m
            · by_cases h122 : m ≤ 122
              · exact .inr (.inr ⟨by simp; omega, by simp; omega, by omega, h122⟩)
              · exact .inr (.inl ⟨by simp; omega, by simp; omega⟩)
            · exact .inl (by simp; omega)
          clear hF hdec ha hk0 hk1 hacc hacc16 hdig hlet
          rcases nd with nd | ⟨nd, nd2⟩
          all_goals
            rcases n95 with n95 | n95
            all_goals
              rcases nm with nm | ⟨nm, nm2⟩ | ⟨nm, nm2, nm3, nm4⟩
              all_goals
                go_wp2_with (go_at_call 81; refine (HL.out _).mono ?_; rintro e w' ⟨rfl, rfl⟩)
                go_ret2
                exact ⟨by rw [HD.out]; rfl, HW.out⟩
    · have hkk : k = t.size := by omega
      subst hkk
      have hF : puG acc (bs.drop t.size) = some acc := by rw [List.drop_eq_nil_of_le (by omega)]; rfl
      rw [hF] at hdec
      have HD : Hid (puG 0 bs = some acc) := hdec
      subst ha
      clear hacc hF hk0 hk1 hdec hB
      go_wp2
      go_ret2
      exact ⟨by rw [HD.out]; rfl, HW.out⟩
end Go.Proofs.YtdendpckihckeaaDoor
/- The reference's tail and First: walks. -/
namespace Go.Proofs.YtdendpckihckeaaDoor
open Go.RowKit Go.Lib

/-- A byte by its number; 0 beyond the end. -/
def gN (s : ByteArray) (i : Nat) : Nat := (s.get! i).toNat
theorem gN_lt (s : ByteArray) (i : Nat) : gN s i < 256 := (s.get! i).toNat_lt
theorem gN_of (s : ByteArray) (i : Nat) (h : i < s.size) : (s[i]'h).toNat = gN s i := by
  cases s with
  | mk d =>
    show (d[i]'h).toNat = (d[i]!).toNat
    rw [getElem!_pos d i h]
def tl (s : ByteArray) (i : Nat) : Bool := decide (i < s.size ∧ 128 ≤ gN s i ∧ gN s i < 192)

/-- The rune at the front and its width; (0, 0): there is none. -/
def fst (s : ByteArray) : Nat × Nat := if s.size = 0 ∨ ((Utf8.decode s 0).1 = 65533 ∧ (Utf8.decode s 0).2 = 1) then (0, 0) else Utf8.decode s 0
theorem fst_none {s : ByteArray} {x0 x1 x2 x3 : Nat} (h : decodeN s.size x0 x1 x2 x3 = (65533, 1)) (e0 : gN s 0 = x0) (e1 : gN s 1 = x1) (e2 : gN s 2 = x2) (e3 : gN s 3 = x3) : fst s = (0, 0) := by
  subst e0 e1 e2 e3
  have e : Utf8.decode s 0 = (65533, 1) := by rw [decode_at]; exact h
  unfold fst
  rw [e]
  simp
theorem fst_some {s : ByteArray} {x0 x1 x2 x3 c k : Nat} (h : decodeN s.size x0 x1 x2 x3 = (c, k)) (hn : s.size ≠ 0) (hk : c = 65533 → k ≠ 1) (e0 : gN s 0 = x0) (e1 : gN s 1 = x1) (e2 : gN s 2 = x2) (e3 : gN s 3 = x3) : fst s = (c, k) := by
  subst e0 e1 e2 e3
  have e : Utf8.decode s 0 = (c, k) := by rw [decode_at]; exact h
  unfold fst
  rw [e, if_neg]
  intro h
  rcases h with h | ⟨h1, h2⟩
  · exact hn h
  · exact hk h1 h2
theorem below_dN {B : Nat} {a w : World} (h : Below B a w) : ∀ q, Below B a (w.drewN q)
  | 0 => h
  | q + 1 => (below_dN h q).drew
def FsPost (s : ByteArray) (w : World) (e : Ending) (w' : World) : Prop :=
  e = .returned (.agg #[.int .i64 (fst s).1, .int .i64 (fst s).2]) ∧ Below w.heap.size w w'

end Go.Proofs.YtdendpckihckeaaDoor
