/- Small laws of our own, over whatever program: an append of one element onto a row that the call owns; a row that is owned, read as cells. -/
import Derived.Test.YtmfeoiblhjfpjaaGreatDoorRows
import Derived.WalkKit
import Derived.WalkSpells
import Derived.WalkLawsBesides
import Derived.Deep.RegionWith
import Derived.Lib.OthersKept
import Derived.Lib.FrozenHead2
import Derived.Lib.ValidLaws
import Derived.Lib.RuneCount
import Derived.Laws.Cover4
namespace Go.Proofs.YtmfeoiblhjfpjaaGreatDoor
open Go.RowKit

theorem ret_int {k : IntKind} {a b : Int} (h : a = b) : Ending.returned (.int k a) = .returned (.int k b) := by rw [h]
theorem ret_str {xs ys : List Int} (h : xs = ys) : Ending.returned (.string (strOfNums xs)) = .returned (.string (strOfNums ys)) := by rw [h]

theorem wpl_app {P : Program} (wr : World) {ops : Array Oper} {rest : List Oper} {o : Oper} {a : Act} {Q : Exit → Act → World → Prop} (hgd : o.guard = none) (s x : Operand) (t e : TypeId)
    (ho : o.op = .call { callee := .builtin .append, args := #[s, x], argTypes := #[t, t] })
    (i : TypeInfo) (z : Value) (bytes : Nat) (ht : P.underlying t = some (.slice e)) (hi : P.info? e = some i) (hz : i.zero = some z)
    (hsize : i.size = 1) (hby : i.bytes = bytes) (hzs : z.cells.size = 1)
    (base : Nat) (v : Value) (n : Nat) (xs : List Value) (hs : a.eval s = v) (hown : wr.ownsRow base e 1 v n xs)
    (el : Value) (hx : a.eval x = .slice (some ⟨wr.heap.size, 0, none⟩) 1 1) (h1 : el.oneCell' = true)
    (hbytes : (n + 1) * bytes ≤ 140737488355328) (h63 : n + 1 ≤ maxLen) (hbase : base ≤ wr.heap.size)
    (h : ∀ v' w', w'.ownsRow base e 1 v' (n + 1) (xs ++ [el]) → Below base wr w' → v' ≠ .slice none 0 0 → wpList P ops Q rest (a.put o.dst v') w') :
    wpList P ops Q (o :: rest) a (wr.alloc (.cells #[el] e)) := by
  refine wpList_append_own _ hgd s x t ho base e i z 1 bytes ht hi hz hsize hby hzs (by omega) v n xs hs (hown.alloc _) ⟨wr.heap.size, 0, none⟩ 1 1 [el] hx rfl ?_ ?_ h63 hbytes ?_ ?_
  · intro j u hj
    match j, hj with
    | 0, hj => simp at hj; subst hj; simp [Addr.add]
  · intro u hu; simp at hu; subst hu; exact h1
  · simp; omega
  · intro v' w' h2 h3 h4
    refine h v' w' h2 ?_ (fun e => by have := (h4.1 e).2; omega)
    exact ((Below.refl _ _).alloc hbase _).grown h3 (by simp; omega) (fun k hk => (hown.lt k hk).1)

/-- An owned row of bytes that is not empty, laid open. -/
theorem own_open {w : World} {base : Nat} {e : TypeId} {v : Value} {n : Nat} {xs : List Value} (h : w.ownsRow base e 1 v n xs) (hn : 0 < n) :
    ∃ g cap, v = .slice (some ⟨g, 0, none⟩) n cap ∧ base ≤ g ∧ n ≤ cap ∧ cap ≤ maxLen ∧ xs.length = n ∧ (∀ j u, xs[j]? = some u → w.cell? ⟨g, j, none⟩ = some u) ∧ (∀ j, w.frozen? ⟨g, j, none⟩ = false) := by
  obtain ⟨h1, h2⟩ := h
  rcases h2 with ⟨_, h0⟩ | ⟨g, cap, cur, rfl, hb, hg, hc, hm, hs, ht⟩
  · omega
  · refine ⟨g, cap, rfl, hb, hc, hm, by omega, ?_, ?_⟩
    · intro j u hu
      rw [cell_of_row w g j cur e (0, 0) hg]
      rw [← ht, List.getElem?_take] at hu
      split at hu
      · simpa using hu
      · cases hu
    · intro j
      simp [World.frozen?, hg]

end Go.Proofs.YtmfeoiblhjfpjaaGreatDoor
/- Small laws of our own, over whatever program, more of them. -/
namespace Go.Proofs.YtmfeoiblhjfpjaaGreatDoor
open Go.RowKit
theorem bcell {B : Nat} {W w1 : World} (hb : Below B W w1) : (∀ b o, b < B → w1.cell? ⟨b, o, none⟩ = W.cell? ⟨b, o, none⟩) ∧ (∀ b o, b < B → w1.frozen? ⟨b, o, none⟩ = W.frozen? ⟨b, o, none⟩) :=
  ⟨fun b o h => hb.cell (p := ⟨b, o, none⟩) h, fun b o h => hb.frozen (p := ⟨b, o, none⟩) h⟩

/-- A block that was laid before a call that keeps what was there: it holds what it held. -/
theorem part_cells {w w1 : World} {C : Array Value} {t : TypeId} (hb : Below (w.alloc (.cells C t)).drew.heap.size (w.alloc (.cells C t)).drew w1) :
    (∀ j, w1.cell? ⟨w.heap.size, j, none⟩ = C[j]?) ∧ (∀ j, w1.frozen? ⟨w.heap.size, j, none⟩ = false) ∧ Below w.heap.size w w1 ∧ w.heap.size < w1.heap.size := by
  have hs := hb.size
  simp at hs
  refine ⟨fun j => ?_, fun j => ?_, ?_, by omega⟩
  · rw [hb.cell (p := ⟨w.heap.size, j, none⟩) (by simp)]
    simp
  · rw [hb.frozen (p := ⟨w.heap.size, j, none⟩) (by simp)]
    simp
  · exact ((Below.refl _ _).alloc (Nat.le_refl _) _).drew.trans (hb.mono (by simp))

theorem part_cells0 {w w1 : World} {C : Array Value} {t : TypeId} (hb : Below (w.alloc (.cells C t)).heap.size (w.alloc (.cells C t)) w1) :
    (∀ j, w1.cell? ⟨w.heap.size, j, none⟩ = C[j]?) ∧ (∀ j, w1.frozen? ⟨w.heap.size, j, none⟩ = false) ∧ Below w.heap.size w w1 ∧ w.heap.size < w1.heap.size := by
  have hs := hb.size
  simp at hs
  refine ⟨fun j => ?_, fun j => ?_, ?_, by omega⟩
  · rw [hb.cell (p := ⟨w.heap.size, j, none⟩) (by simp)]
    simp
  · rw [hb.frozen (p := ⟨w.heap.size, j, none⟩) (by simp)]
    simp
  · exact ((Below.refl _ _).alloc (Nat.le_refl _) _).trans (hb.mono (by simp))

end Go.Proofs.YtmfeoiblhjfpjaaGreatDoor
/- A strings.Builder that the call itself has made: copyCheck, WriteByte, WriteString, WriteRune at this program, with the frame that reaches above it. -/
namespace Go.Proofs.YtmfeoiblhjfpjaaGreatDoor
open Go.RowKit

theorem info_u8 : (Tryz.prog.info? 5).map (fun i => (i.zero, i.size, i.bytes)) = some (some (.int .u8 0), 1, 1) := by kernel_rfl
theorem bSize : (Tryz.prog.info? 65).map (·.size) = some 2 := by kernel_rfl
theorem bLies : liesAt Tryz.prog Tryz.prog.depth 65 (2 / Tryz.prog.cellsOf 65) 0 65 1 = true := by kernel_rfl

set_option maxRecDepth 100000 in
set_option maxHeartbeats 1000000 in
theorem copyCheck_used (b : Nat) (w : World) (h0 : w.cell? ⟨b, 0, none⟩ = some (.pointer (some ⟨b, 0, none⟩))) :
    Calls Tryz.prog 43 #[.pointer (some ⟨b, 0, none⟩)] w fun e w' => e = .returned (.tuple #[]) ∧ w' = w := by
  obtain ⟨j, hj, _⟩ := Option.map_eq_some_iff.1 bSize
  go_enter Tryz.func43, Tryz.ntmps43
  go_wp2
  rw [Lib.run_neq_ptr_same w _ Tryz.underlying62 hj]
  go_wp2
  go_end0
  exact ⟨rfl, rfl⟩

set_option maxRecDepth 100000 in
set_option maxHeartbeats 1000000 in
theorem copyCheck_fresh (b : Nat) (w : World) (h0 : w.cell? ⟨b, 0, none⟩ = some (.pointer none)) (hsh : w.shape? b = some (65, 2)) (hfz : w.frozen? ⟨b, 0, none⟩ = false) :
    Calls Tryz.prog 43 #[.pointer (some ⟨b, 0, none⟩)] w fun e w' => e = .returned (.tuple #[]) ∧ w' = w.setCell ⟨b, 0, none⟩ (.pointer (some ⟨b, 0, none⟩)) := by
  obtain ⟨j, hj, hjs⟩ := Option.map_eq_some_iff.1 bSize
  go_enter Tryz.func43, Tryz.ntmps43
  go_wp2
  rw [Lib.run_to_unsafe w ⟨b, 0, none⟩ Tryz.underlying62 Tryz.underlying94 hj (by rw [hjs]; decide) hsh (Nat.zero_lt_succ 1)]
  simp only [Result.andThen]
  rw [Oper.upon_value]
  go_wp2
  rw [run_callFunc_extern Tryz.func63 (by kernel_rfl) (by kernel_rfl) (by kernel_rfl) (e := Extern.AbiNoEscape.same) (by kernel_rfl)]
  rw [Lib.run_noEscape]
  simp only [Result.andThen]
  rw [Oper.upon_value]
  go_wp2
  rw [Lib.run_from_unsafe w ⟨b, 0, none⟩ Tryz.underlying94 Tryz.underlying62 hj hsh bLies]
  simp only [Result.andThen]
  rw [Oper.upon_value]
  go_wp2
  go_end0
  exact ⟨rfl, rfl⟩

theorem rowF_cells {w : World} {base : Nat} {e : TypeId} {sz : Nat} {v : Value} {n : Nat} {xs : List Value} (h : w.ownsRowF base e sz v n xs) (g : Nat) (hg : v.ownBlock = some g) : ∃ c fz, w.heap[g]? = some (.cells c e fz) := by
  rcases h.2 with ⟨hv, _⟩ | ⟨g', cap, cur, fz, hv, _, hgg, _⟩
  · rw [hv] at hg; cases hg
  · rw [hv] at hg
    cases hg
    exact ⟨_, _, hgg⟩
abbrev IsB (B b : Nat) (bs : List Value) (w : World) : Prop := Lib.IsBuilderF 65 5 B b bs w

theorem copyCheck_any (B b : Nat) (bs : List Value) (w : World) (h : IsB B b bs w) :
    Calls Tryz.prog 43 #[.pointer (some ⟨b, 0, none⟩)] w fun e w' => e = .returned (.tuple #[]) ∧ Lib.BuilderAtF 65 5 B b (.pointer (some ⟨b, 0, none⟩)) bs w' ∧ Below B w w' ∧ Lib.OthersKept 5 (some b) w w' := by
  rcases h with h | h
  · refine (copyCheck_fresh b w h.cell0 h.shape h.frozen0).mono ?_
    rintro e w' ⟨rfl, rfl⟩
    exact ⟨rfl, h.used _, (Below.refl B w).setCell (p := ⟨b, 0, none⟩) h.1 _, Lib.OthersKept.setCell (b := b) (Lib.OthersKept.refl _ _ _) ⟨b, 0, none⟩ rfl _⟩
  · refine (copyCheck_used b w h.cell0).mono ?_
    rintro e w' ⟨rfl, rfl⟩
    exact ⟨rfl, h, Below.refl B _, Lib.OthersKept.refl _ _ _⟩

set_option maxRecDepth 100000 in
set_option maxHeartbeats 1000000 in
theorem writeByte_k (B b : Nat) (bs : List Value) (c : Int) (w : World) (h : IsB B b bs w) (hlen : bs.length + 1 ≤ 140737488355328) (hBw : B ≤ w.heap.size) :
    Calls Tryz.prog 61 #[.pointer (some ⟨b, 0, none⟩), .int .u8 c] w fun e w' => e = .returned .nilIface ∧ IsB B b (bs ++ [.int .u8 c]) w' ∧ Below B w w' ∧ Lib.OthersKept 5 (some b) w w' := by
  obtain ⟨i0, hi, hz0, hz1, hz2⟩ := info_parts info_u8
  go_enter Tryz.func61, Tryz.ntmps61
  go_wp2_with (go_at_call 43; refine (copyCheck_any B b bs _ h).mono ?_)
  rintro e w1 ⟨rfl, h1, hb1, ok1⟩
  obtain ⟨hB, v, hbk, hown, hne⟩ := h1
  have c0 : w1.cell? ⟨b, 0, none⟩ = some (.pointer (some ⟨b, 0, none⟩)) := by rw [Lib.cell_of_heap hbk]; rfl
  have c1 : w1.cell? ⟨b, 1, none⟩ = some v := by rw [Lib.cell_of_heap hbk]; rfl
  go_wp2_with (at_builtin; refine wpList_append_ownF _ rfl _ _ 63 rfl B 5 i0 (.int .u8 0) 1 1 Tryz.underlying63 hi hz0 hz1 hz2 rfl (by decide) _ _ _ rfl (hown.alloc _) ⟨w1.heap.size, 0, none⟩ 1 1 [.int .u8 c] rfl rfl ?c1 ?c2 ?c3 ?c4 ?c5 ?_)
  case c1 =>
    intro j u hj
    match j, hj with
    | 0, hj => simp at hj; subst hj; simp [Addr.add]
  case c2 => intro u hu; simp at hu; subst hu; rfl
  case c3 => unfold maxLen; omega
  case c4 => omega
  case c5 => have := hb1.size; simp; omega
  intro v' w2 hown' hgrow _
  have hlt : b < w1.heap.size := (Array.getElem?_eq_some_iff.1 hbk).1
  have hb2 : w2.heap[b]? = some (.cells #[.pointer (some ⟨b, 0, none⟩), v] 65 (0, 0)) := by
    rw [hgrow.block b (by simp; omega) (fun e => hne e.symm), Lib.alloc_old w1 _ b hlt]
    exact hbk
  have d0 : w2.cell? ⟨b, 0, none⟩ = some (.pointer (some ⟨b, 0, none⟩)) := by rw [Lib.cell_of_heap hb2]; rfl
  have d1 : w2.cell? ⟨b, 1, none⟩ = some v := by rw [Lib.cell_of_heap hb2]; rfl
  have f1 : w2.frozen? ⟨b, 1, none⟩ = false := Lib.frozen_of_heap hb2 1
  obtain ⟨g, cap, rfl⟩ : ∃ g cap, v' = .slice (some ⟨g, 0, none⟩) (bs.length + 1) cap := by
    rcases hown'.2 with ⟨_, h0⟩ | ⟨g, cap, cur, fz, hv, _⟩
    · omega
    · exact ⟨g, cap, hv⟩
  go_wp2
  go_ret
  refine ⟨rfl, .inr ?_, ?_, ?_⟩
  · exact Lib.BuilderAtF.put (T := 65) (e := 5) hB hb2 (bs' := bs ++ [.int .u8 c]) (by simpa using hown') (by decide)
  · exact ((hb1.alloc (by have := hb1.size; omega) _).grown hgrow (by have := hb1.size; simp; omega) (fun k hk => (hown.lt k hk).1)).setCell (p := ⟨b, 1, none⟩) hB _
  · exact ((ok1.alloc _).grown hgrow (fun g hg => by obtain ⟨c, fz, h⟩ := rowF_cells hown g hg; exact ⟨c, fz, by rw [Lib.alloc_old w1 _ g (Array.getElem?_eq_some_iff.1 h).1]; exact h⟩)).setCell _ rfl _

set_option maxRecDepth 100000 in
set_option maxHeartbeats 1000000 in
theorem writeString_k (B b : Nat) (bs : List Value) (s : ByteArray) (w : World) (h : IsB B b bs w) (hlen : bs.length + s.size ≤ 140737488355328) (hBw : B ≤ w.heap.size) :
    Calls Tryz.prog 26 #[.pointer (some ⟨b, 0, none⟩), .string s] w fun e w' => e = .returned (.tuple #[.int .i64 s.size, .nilIface]) ∧ IsB B b (bs ++ Lib.strCells s) w' ∧ Below B w w' ∧ Lib.OthersKept 5 (some b) w w' := by
  obtain ⟨i0, hi, hz0, hz1, hz2⟩ := info_parts info_u8
  go_enter Tryz.func26, Tryz.ntmps26
  go_wp2_with (go_at_call 43; refine (copyCheck_any B b bs _ h).mono ?_)
  rintro e w1 ⟨rfl, h1, hb1, ok1⟩
  obtain ⟨hB, v, hbk, hown, hne⟩ := h1
  have c0 : w1.cell? ⟨b, 0, none⟩ = some (.pointer (some ⟨b, 0, none⟩)) := by rw [Lib.cell_of_heap hbk]; rfl
  have c1 : w1.cell? ⟨b, 1, none⟩ = some v := by rw [Lib.cell_of_heap hbk]; rfl
  go_wp2_with (at_builtin; refine Lib.wpList_append_own_stringF _ rfl _ _ 63 9 rfl B 5 i0 Tryz.underlying63 Tryz.underlying9 hi hz0 hz1 hz2 _ _ _ rfl hown s rfl ?c3 ?c4 ?c5 ?_)
  case c3 => unfold maxLen; omega
  case c4 => omega
  case c5 => have := hb1.size; omega
  intro v' w2 hown' hgrow _
  have hlt : b < w1.heap.size := (Array.getElem?_eq_some_iff.1 hbk).1
  have hb2 : w2.heap[b]? = some (.cells #[.pointer (some ⟨b, 0, none⟩), v] 65 (0, 0)) := by
    rw [hgrow.block b hlt (fun e => hne e.symm)]
    exact hbk
  have d0 : w2.cell? ⟨b, 0, none⟩ = some (.pointer (some ⟨b, 0, none⟩)) := by rw [Lib.cell_of_heap hb2]; rfl
  have d1 : w2.cell? ⟨b, 1, none⟩ = some v := by rw [Lib.cell_of_heap hb2]; rfl
  have f1 : w2.frozen? ⟨b, 1, none⟩ = false := Lib.frozen_of_heap hb2 1
  obtain ⟨ao, n', cap, rfl⟩ : ∃ ao n' cap, v' = .slice ao n' cap := by
    rcases hown'.2 with ⟨hv, _⟩ | ⟨g, cap, cur, fz, hv, _⟩
    · exact ⟨_, _, _, hv⟩
    · exact ⟨_, _, _, hv⟩
  go_wp2
  go_ret2
  refine ⟨rfl, .inr ?_, ?_, ?_⟩
  · exact Lib.BuilderAtF.put (T := 65) (e := 5) hB hb2 (bs' := bs ++ Lib.strCells s) (by simpa [Lib.strCells_length] using hown') (by decide)
  · exact (hb1.grown hgrow (by have := hb1.size; omega) (fun k hk => (hown.lt k hk).1)).setCell (p := ⟨b, 1, none⟩) hB _
  · exact (ok1.grown hgrow (fun g hg => rowF_cells hown g hg)).setCell _ rfl _

/-- What AppendRune leaves. -/
def ArPost (B : Nat) (xs : List Value) (w : World) (e : Ending) (w' : World) : Prop :=
  ∃ v, e = .returned v ∧ w'.ownsRowF B 5 1 v xs.length xs ∧ Below B w w' ∧ Lib.OthersKept 5 none w w'
set_option maxRecDepth 100000 in
set_option maxHeartbeats 1000000 in
theorem appendRune_ascii (B : Nat) (v : Value) (n : Nat) (xs : List Value) (r : Nat) (w : World) (hr : r < 128) (hown : w.ownsRowF B 5 1 v n xs) (hlen : n + 1 ≤ 140737488355328) (hBw : B ≤ w.heap.size) :
    Calls Tryz.prog 70 #[v, .int .i32 (r : Int)] w fun e w' => ArPost B (xs ++ [.int .u8 (r : Int)]) w e w' := by
  obtain ⟨i0, hi, hz0, hz1, hz2⟩ := info_parts info_u8
  have hxl : xs.length = n := by have := hown.1; omega
  go_enter Tryz.func70, Tryz.ntmps70
  go_wp2_with (at_builtin; refine wpList_append_ownF _ rfl _ _ 63 rfl B 5 i0 (.int .u8 0) 1 1 Tryz.underlying63 hi hz0 hz1 hz2 rfl (by decide) _ _ _ rfl (hown.alloc _) ⟨w.heap.size, 0, none⟩ 1 1 [.int .u8 (r : Int)] rfl rfl ?c1 ?c2 ?c3 ?c4 ?c5 ?_)
  case c1 =>
    intro j u hj
    match j, hj with
    | 0, hj => simp at hj; subst hj; simp [Addr.add]
  case c2 => intro u hu; simp at hu; subst hu; rfl
  case c3 => unfold maxLen; omega
  case c4 => omega
  case c5 => simp; omega
  intro v' w2 hown' hgrow _
  have HR : Hid (ArPost B (xs ++ [.int .u8 (r : Int)]) w (.returned v') w2) := by
    refine ⟨v', rfl, ?_, ((Below.refl _ _).alloc hBw _).grown hgrow (by simp; omega) (fun k hk => (hown.lt k hk).1), ((Lib.OthersKept.refl _ _ _).alloc _).grown hgrow (fun g hg => by obtain ⟨c, fz, h⟩ := rowF_cells hown g hg; exact ⟨c, fz, by rw [Lib.alloc_old w _ g (Array.getElem?_eq_some_iff.1 h).1]; exact h⟩)⟩
    rw [List.length_append, hxl]
    exact hown'
  clear hgrow hown' hown
  go_wp2
  go_ret
  exact HR.out
set_option maxRecDepth 100000 in
set_option maxHeartbeats 1000000 in
theorem writeRune_ascii (B b : Nat) (bs : List Value) (r : Nat) (w : World) (hr : r < 128) (h : IsB B b bs w) (hlen : bs.length + 1 ≤ 140737488355328) (hBw : B ≤ w.heap.size) :
    Calls Tryz.prog 50 #[.pointer (some ⟨b, 0, none⟩), .int .i32 (r : Int)] w fun e w' => e = .returned (.tuple #[.int .i64 1, .nilIface]) ∧ IsB B b (bs ++ [.int .u8 (r : Int)]) w' ∧ Below B w w' ∧ Lib.OthersKept 5 (some b) w w' := by
  go_enter Tryz.func50, Tryz.ntmps50
  go_wp2_with (go_at_call 43; refine (copyCheck_any B b bs _ h).mono ?_)
  rintro e w1 ⟨rfl, h1, hb1, ok1⟩
  obtain ⟨hB, v, hbk, hown, hne⟩ := h1
  have c0 : w1.cell? ⟨b, 0, none⟩ = some (.pointer (some ⟨b, 0, none⟩)) := by rw [Lib.cell_of_heap hbk]; rfl
  have c1 : w1.cell? ⟨b, 1, none⟩ = some v := by rw [Lib.cell_of_heap hbk]; rfl
  obtain ⟨ao, cap, rfl⟩ : ∃ ao cap, v = .slice ao bs.length cap := by
    rcases hown.2 with ⟨hv, h0⟩ | ⟨g, cap, cur, fz, hv, _⟩
    · exact ⟨none, 0, by rw [h0]; exact hv⟩
    · exact ⟨_, _, hv⟩
  have hs1 := hb1.size
  go_wp2_with fail
  refine (appendRune_ascii B _ bs.length bs r _ hr hown hlen (by omega)).mono ?_
  rintro e w2 ⟨v', rfl, hown', hb2, ok2⟩
  have hb2k : w2.heap[b]? = some (.cells #[.pointer (some ⟨b, 0, none⟩), .slice ao bs.length cap] 65 (0, 0)) := ok2 b _ hbk (by simp) (fun c fz e => by cases e)
  have d0 : w2.cell? ⟨b, 0, none⟩ = some (.pointer (some ⟨b, 0, none⟩)) := by rw [Lib.cell_of_heap hb2k]; rfl
  have d1 : w2.cell? ⟨b, 1, none⟩ = some (.slice ao bs.length cap) := by rw [Lib.cell_of_heap hb2k]; rfl
  have f1 : w2.frozen? ⟨b, 1, none⟩ = false := Lib.frozen_of_heap hb2k 1
  obtain ⟨g, cap', rfl⟩ : ∃ g cap', v' = .slice (some ⟨g, 0, none⟩) (bs ++ [Value.int .u8 (r : Int)]).length cap' := by
    rcases hown'.2 with ⟨_, h0⟩ | ⟨g, cap, cur, fz, hv, _⟩
    · simp at h0
    · exact ⟨g, cap, hv⟩
  have HR : Hid (IsB B b (bs ++ [.int .u8 (r : Int)]) (w2.setCell ⟨b, 1, none⟩ (.slice (some ⟨g, 0, none⟩) (bs ++ [Value.int .u8 (r : Int)]).length cap')) ∧ Below B w (w2.setCell ⟨b, 1, none⟩ (.slice (some ⟨g, 0, none⟩) (bs ++ [Value.int .u8 (r : Int)]).length cap')) ∧ Lib.OthersKept 5 (some b) w (w2.setCell ⟨b, 1, none⟩ (.slice (some ⟨g, 0, none⟩) (bs ++ [Value.int .u8 (r : Int)]).length cap'))) := by
    refine ⟨.inr (Lib.BuilderAtF.put (T := 65) (e := 5) hB hb2k hown' (by decide)), (hb1.trans hb2).setCell (p := ⟨b, 1, none⟩) hB _, Lib.OthersKept.setCell (b := b) (ok1.trans (fun k o hk _ ho => ok2 k o hk (by simp) ho)) ⟨b, 1, none⟩ rfl _⟩
  rw [List.length_append, List.length_singleton] at HR ⊢
  clear hown' hown hb2 ok2 hbk hne
  go_wp2
  go_ret2
  refine ⟨by simp; omega, HR.out.1, HR.out.2.1, HR.out.2.2⟩
end Go.Proofs.YtmfeoiblhjfpjaaGreatDoor
/- strconv.FormatInt at base 16 of small numbers: walks. -/
namespace Go.Proofs.YtmfeoiblhjfpjaaGreatDoor
open Go.RowKit

/-- The one cell of math/bits' table that base 16 reads. -/
def T16 (w : World) : Prop := w.cell? ⟨5, 15, none⟩ = some (.int .u8 4)
theorem T16_below {w w' : World} (h : T16 w) (hb : Below w.heap.size w w') : T16 w' :=
  (hb.cell (p := ⟨5, 15, none⟩) (World.block_lt_of_cell? _ _ h)).trans h

theorem pow2_16 (w : World) : Calls Tryz.prog 99 #[.int .i64 16] w fun e w' => e = .returned (.bool true) ∧ w' = w := by
  go_enter Tryz.func99, Tryz.ntmps99
  go_wp2
  go_ret
  exact ⟨rfl, rfl⟩
theorem tzkey_16 : IntKind.u64.wrap (bits BinOp.and IntKind.u64 16 (IntKind.u64.wrap (-16)) * 285870213051353865) / 288230376151711744 = 15 := by decide +kernel
theorem tz64_16 (w : World) (h : T16 w) : Calls Tryz.prog 106 #[.int .u64 16] w fun e w' => e = .returned (.int .i64 4) ∧ w' = w := by
  unfold T16 at h
  have k := tzkey_16
  go_enter Tryz.func106, Tryz.ntmps106
  go_wp2
  go_ret
  exact ⟨rfl, rfl⟩
theorem tz_16 (w : World) (h : T16 w) : Calls Tryz.prog 100 #[.int .u64 16] w fun e w' => e = .returned (.int .i64 4) ∧ w' = w := by
  go_enter Tryz.func100, Tryz.ntmps100
  go_wp2_with (go_at_call 106; refine (tz64_16 _ h).mono ?_; rintro e w' ⟨rfl, rfl⟩)
  go_ret
  exact ⟨rfl, rfl⟩

abbrev Z65 : Obj := .cells #[.int .u8 0, .int .u8 0, .int .u8 0, .int .u8 0, .int .u8 0, .int .u8 0, .int .u8 0, .int .u8 0, .int .u8 0, .int .u8 0, .int .u8 0, .int .u8 0, .int .u8 0, .int .u8 0, .int .u8 0, .int .u8 0, .int .u8 0, .int .u8 0, .int .u8 0, .int .u8 0, .int .u8 0, .int .u8 0, .int .u8 0, .int .u8 0, .int .u8 0, .int .u8 0, .int .u8 0, .int .u8 0, .int .u8 0, .int .u8 0, .int .u8 0, .int .u8 0, .int .u8 0, .int .u8 0, .int .u8 0, .int .u8 0, .int .u8 0, .int .u8 0, .int .u8 0, .int .u8 0, .int .u8 0, .int .u8 0, .int .u8 0, .int .u8 0, .int .u8 0, .int .u8 0, .int .u8 0, .int .u8 0, .int .u8 0, .int .u8 0, .int .u8 0, .int .u8 0, .int .u8 0, .int .u8 0, .int .u8 0, .int .u8 0, .int .u8 0, .int .u8 0, .int .u8 0, .int .u8 0, .int .u8 0, .int .u8 0, .int .u8 0, .int .u8 0, .int .u8 0] 124
abbrev DG : ByteArray := ⟨#[48, 49, 50, 51, 52, 53, 54, 55, 56, 57, 97, 98, 99, 100, 101, 102, 103, 104, 105, 106, 107, 108, 109, 110, 111, 112, 113, 114, 115, 116, 117, 118, 119, 120, 121, 122]⟩
/-- A digit of 0 to 9, a to z. -/
def dg (n : Nat) : UInt8 := DG.data.toList.getD n 0
theorem dg_at (n : Nat) (h : n < DG.size) : DG[n] = dg n := by
  unfold dg
  have e : n < DG.data.toList.length := h
  rw [List.getD_eq_getElem?_getD, List.getElem?_eq_getElem e]
  rfl
abbrev Z65x (x : Int) : Obj := .cells #[.int .u8 0, .int .u8 0, .int .u8 0, .int .u8 0, .int .u8 0, .int .u8 0, .int .u8 0, .int .u8 0, .int .u8 0, .int .u8 0, .int .u8 0, .int .u8 0, .int .u8 0, .int .u8 0, .int .u8 0, .int .u8 0, .int .u8 0, .int .u8 0, .int .u8 0, .int .u8 0, .int .u8 0, .int .u8 0, .int .u8 0, .int .u8 0, .int .u8 0, .int .u8 0, .int .u8 0, .int .u8 0, .int .u8 0, .int .u8 0, .int .u8 0, .int .u8 0, .int .u8 0, .int .u8 0, .int .u8 0, .int .u8 0, .int .u8 0, .int .u8 0, .int .u8 0, .int .u8 0, .int .u8 0, .int .u8 0, .int .u8 0, .int .u8 0, .int .u8 0, .int .u8 0, .int .u8 0, .int .u8 0, .int .u8 0, .int .u8 0, .int .u8 0, .int .u8 0, .int .u8 0, .int .u8 0, .int .u8 0, .int .u8 0, .int .u8 0, .int .u8 0, .int .u8 0, .int .u8 0, .int .u8 0, .int .u8 0, .int .u8 0, .int .u8 0, .int .u8 x] 124
theorem conv_last (w : World) (x : Int) : (convert 63 9 (.slice (some ⟨w.heap.size, 64, none⟩) 1 1)).run Tryz.prog (w.alloc (Z65x x)) = .ok (.string (strOfNums [x])) (w.alloc (Z65x x)) :=
  run_convert_bytes_arg (P := Tryz.prog) _ 63 5 Tryz.underlying63 Tryz.underlying5 w.heap.size 64 1 1 [x] rfl (fun i hi => by
    match i, hi with
    | 0, _ => simp) 9 Tryz.underlying9
set_option maxRecDepth 100000 in
set_option maxHeartbeats 2000000 in
theorem formatBits_small (n : Nat) (w : World) (hn : n < 16) (h : T16 w) :
    Calls Tryz.prog 90 #[.slice none 0 0, .int .u64 (n : Int), .int .i64 16, .bool false, .bool false] w fun e w' => e = .returned (.tuple #[.slice none 0 0, .string (strOfNums [((dg n).toNat : Int)])]) ∧ Below w.heap.size w w' := by
  have hT := T16_below h ((Below.refl _ _).alloc (Nat.le_refl _) Z65)
  go_enter Tryz.func90, Tryz.ntmps90
  go_wp2_with (first | (go_at_call 99; refine (pow2_16 _).mono ?_; rintro e w' ⟨rfl, rfl⟩) | (go_at_call 100; refine (tz_16 _ ?_).mono ?_; exact hT; rintro e w' ⟨rfl, rfl⟩))
  go_loopw [1, 13] (fun u i wr => u = .int .u64 (n : Int) ∧ i = .int .i64 65 ∧ wr = w.alloc Z65) (fun _ _ _ => 0)
  case atStart => exact ⟨rfl, rfl, rfl⟩
  case round =>
    obtain ⟨rfl, rfl, rfl⟩ := hrel
    have hd : decide ((16 : Int) ≤ n) = false := by simp; omega
    have hix : n < DG.size := by have : DG.size = 36 := rfl; omega
    have HD : Hid (((DG[n]).toNat : Int) = ((dg n).toNat : Int)) := by show _ = _; rw [dg_at n hix]
    go_wp2
    rw [conv_last]
    go_wp2
    go_ret2
    exact ⟨by rw [← HD.out]; rfl, (Below.refl _ _).alloc (Nat.le_refl _) _⟩
end Go.Proofs.YtmfeoiblhjfpjaaGreatDoor
/- Runes of bytes; small letters; which runes are a name: plain, of no program. -/
namespace Go.Proofs.YtmfeoiblhjfpjaaGreatDoor
open Go.Lib
set_option maxRecDepth 100000

def rnGo : Nat → List UInt8 → List Nat
  | 0, _ => []
  | n + 1, l => if l = [] then [] else (decodeL l).1 :: rnGo n (l.drop (decodeL l).2)
/-- The runes of bytes, as a range hands them over. -/
def rns (l : List UInt8) : List Nat := rnGo l.length l
theorem rnGo_nil : ∀ n, rnGo n [] = []
  | 0 => rfl
  | _ + 1 => by simp [rnGo]
theorem rnGo_fuel : ∀ (n m : Nat) (l : List UInt8), l.length ≤ n → l.length ≤ m → rnGo n l = rnGo m l
  | 0, m, l, hn, _ => by
    have : l = [] := List.eq_nil_of_length_eq_zero (by omega)
    subst this
    rw [rnGo_nil, rnGo_nil]
  | n + 1, 0, l, _, hm => by
    have : l = [] := List.eq_nil_of_length_eq_zero (by omega)
    subst this
    rw [rnGo_nil, rnGo_nil]
  | n + 1, m + 1, l, hn, hm => by
    unfold rnGo
    by_cases hne : l = []
    · simp [hne]
    · have hw := decodeL_width l
      have hl : 0 < l.length := List.length_pos_iff.2 hne
      rw [if_neg hne, if_neg hne, rnGo_fuel n m (l.drop (decodeL l).2) (by rw [List.length_drop]; omega) (by rw [List.length_drop]; omega)]
theorem rns_nil : rns [] = [] := rfl
theorem rns_step (l : List UInt8) (hne : l ≠ []) : rns l = (decodeL l).1 :: rns (l.drop (decodeL l).2) := by
  have hl : 0 < l.length := List.length_pos_iff.2 hne
  have hw := decodeL_width l
  obtain ⟨n, hn⟩ : ∃ n, l.length = n + 1 := ⟨l.length - 1, by omega⟩
  unfold rns
  rw [hn]
  show (if l = [] then [] else _) = _
  rw [if_neg hne, rnGo_fuel n (l.drop (decodeL l).2).length _ (by rw [List.length_drop]; omega) (Nat.le_refl _)]
/-- From a place of a text on. -/
theorem rns_at (s : ByteArray) (pos : Nat) (h : pos < s.size) : rns (s.data.toList.drop pos) = (Utf8.decode s pos).1 :: rns (s.data.toList.drop (pos + (Utf8.decode s pos).2)) := by
  have hne : s.data.toList.drop pos ≠ [] := by
    intro e
    have := congrArg List.length e
    rw [List.length_drop] at this
    have e2 : s.data.toList.length = s.size := Array.length_toList
    simp at this
    omega
  rw [rns_step _ hne, decodeL_drop, List.drop_drop]
theorem rns_end (s : ByteArray) (pos : Nat) (h : ¬ pos < s.size) : rns (s.data.toList.drop pos) = [] := by
  have e2 : s.data.toList.length = s.size := Array.length_toList
  rw [List.drop_of_length_le (by omega)]
  rfl
theorem rns_len_le : ∀ (n : Nat) (l : List UInt8), (rnGo n l).length ≤ n
  | 0, _ => by simp [rnGo]
  | n + 1, l => by
    unfold rnGo
    split
    · simp
    · have := rns_len_le n (l.drop (decodeL l).2)
      simp; omega
theorem runeCount_rns (s : ByteArray) : runeCount s = (rns s.data.toList).length := by
  have key : ∀ (f pos : Nat), s.size ≤ pos + f → runeCountFrom s f pos = (rns (s.data.toList.drop pos)).length := by
    intro f
    induction f with
    | zero => intro pos h; rw [rns_end s pos (by omega)]; rfl
    | succ f ih =>
      intro pos h
      unfold runeCountFrom
      by_cases hp : pos < s.size
      · have hw := width_pos s pos
        rw [if_pos hp, rns_at s pos hp, ih _ (by omega), List.length_cons]; omega
      · rw [if_neg hp, rns_end s pos hp]; rfl
  have := key s.size 0 (by omega)
  simpa [runeCount] using this

/-- A rune that UTF-8 has. -/
def scal (c : Nat) : Prop := c < 55296 ∨ (57344 ≤ c ∧ c ≤ 1114111)
theorem decodeN_scal (n b0 b1 b2 b3 : Nat) (h0 : b0 < 256) : scal (decodeN n b0 b1 b2 b3).1 := by
  unfold decodeN scal
  repeat' split
  all_goals (simp only; omega)
theorem decodeL_scal (l : List UInt8) : scal (decodeL l).1 := by rw [decodeL_N]; exact decodeN_scal _ _ _ _ _ (UInt8.toNat_lt _)
theorem rnGo_scal : ∀ (n : Nat) (l : List UInt8), ∀ c ∈ rnGo n l, scal c
  | 0, _ => by simp [rnGo]
  | n + 1, l => by
    unfold rnGo
    split
    · simp
    · intro c hc
      rcases List.mem_cons.1 hc with rfl | hc
      · exact decodeL_scal l
      · exact rnGo_scal n _ c hc
theorem rns_scal (l : List UInt8) : ∀ c ∈ rns l, scal c := rnGo_scal _ l

/-- The bytes of a rune. -/
def enc (c : Nat) : List UInt8 := (Utf8.encode c).data.toList
theorem enc1 {c : Nat} (h : c < 128) : enc c = [UInt8.ofNat c] := by
  have hv : Utf8.valid (c : Int) = true := by simp [Utf8.valid]; omega
  simp [enc, Utf8.encode, hv, h]
theorem enc2 {c : Nat} (h : 128 ≤ c) (h2 : c < 2048) : enc c = [UInt8.ofNat (192 + c / 64), UInt8.ofNat (128 + c % 64)] := by
  have hv : Utf8.valid (c : Int) = true := by simp [Utf8.valid]; omega
  have a : ¬ c < 128 := by omega
  simp [enc, Utf8.encode, hv, a, h2]
theorem enc3 {c : Nat} (h : 2048 ≤ c) (h2 : c < 65536) (hs : scal c) : enc c = [UInt8.ofNat (224 + c / 4096), UInt8.ofNat (128 + c / 64 % 64), UInt8.ofNat (128 + c % 64)] := by
  unfold scal at hs
  have hv : Utf8.valid (c : Int) = true := by simp [Utf8.valid]; omega
  have a : ¬ c < 128 := by omega
  have b : ¬ c < 2048 := by omega
  simp [enc, Utf8.encode, hv, a, b, h2]
theorem enc4 {c : Nat} (h : 65536 ≤ c) (hs : scal c) : enc c = [UInt8.ofNat (240 + c / 262144), UInt8.ofNat (128 + c / 4096 % 64), UInt8.ofNat (128 + c / 64 % 64), UInt8.ofNat (128 + c % 64)] := by
  unfold scal at hs
  have hv : Utf8.valid (c : Int) = true := by simp [Utf8.valid]; omega
  have a : ¬ c < 128 := by omega
  have b : ¬ c < 2048 := by omega
  have d : ¬ c < 65536 := by omega
  simp [enc, Utf8.encode, hv, a, b, d]
theorem toNat_of {n : Nat} (h : n < 256) : (UInt8.ofNat n).toNat = n := by simp; omega

set_option maxHeartbeats 1000000 in
/-- What is encoded is decoded, whatever stands behind it. -/
theorem dec_enc (c : Nat) (t : List UInt8) (hs : scal c) : decodeL (enc c ++ t) = (c, (enc c).length) := by
  rw [decodeL_N]
  by_cases h1 : c < 128
  · rw [enc1 h1]
    simp only [List.cons_append, List.nil_append, List.getD_cons_zero, List.length_cons, List.length_nil, toNat_of (show c < 256 by omega)]
    unfold decodeN
    rw [if_pos h1]
  by_cases h2 : c < 2048
  · rw [enc2 (by omega) h2]
    simp only [List.cons_append, List.nil_append, List.getD_cons_zero, List.getD_cons_succ, List.length_cons, List.length_nil, toNat_of (show 192 + c / 64 < 256 by omega), toNat_of (show 128 + c % 64 < 256 by omega)]
    unfold decodeN
    rw [if_neg (by omega), if_pos (by omega), if_pos (by omega)]
    apply Prod.ext <;> simp only <;> omega
  by_cases h3 : c < 65536
  · rw [enc3 (by omega) h3 hs]
    simp only [List.cons_append, List.nil_append, List.getD_cons_zero, List.getD_cons_succ, List.length_cons, List.length_nil, toNat_of (show 224 + c / 4096 < 256 by omega), toNat_of (show 128 + c / 64 % 64 < 256 by omega), toNat_of (show 128 + c % 64 < 256 by omega)]
    unfold scal at hs
    unfold decodeN
    rw [if_neg (by omega), if_neg (by omega), if_pos (by omega), if_pos (by omega)]
    apply Prod.ext <;> simp only <;> omega
  · rw [enc4 (by omega) hs]
    unfold scal at hs
    simp only [List.cons_append, List.nil_append, List.getD_cons_zero, List.getD_cons_succ, List.length_cons, List.length_nil, toNat_of (show 240 + c / 262144 < 256 by omega), toNat_of (show 128 + c / 4096 % 64 < 256 by omega), toNat_of (show 128 + c / 64 % 64 < 256 by omega), toNat_of (show 128 + c % 64 < 256 by omega)]
    unfold decodeN
    rw [if_neg (by omega), if_neg (by omega), if_neg (by omega), if_pos (by omega), if_pos (by omega)]
    apply Prod.ext <;> simp only <;> omega
theorem enc_len (c : Nat) : 1 ≤ (enc c).length := by
  unfold enc Utf8.encode
  simp only
  repeat' split
  all_goals simp
theorem enc_len4 (c : Nat) : (enc c).length ≤ 4 := by
  unfold enc Utf8.encode
  simp only
  repeat' split
  all_goals simp
theorem enc_err (c : Nat) (h : c = 65533) : (enc c).length = 3 := by subst h; decide +kernel

theorem rns_enc : ∀ cs : List Nat, (∀ c ∈ cs, scal c) → rns (cs.flatMap enc) = cs ∧ validD (cs.flatMap enc) = true
  | [], _ => ⟨rfl, rfl⟩
  | c :: cs, h => by
    obtain ⟨i1, i2⟩ := rns_enc cs (fun x hx => h x (List.mem_cons_of_mem _ hx))
    have hl := enc_len c
    have hne : enc c ++ cs.flatMap enc ≠ [] := by
      intro e
      have := congrArg List.length e
      simp at this
      rw [this.1] at hl
      simp at hl
    have hd := dec_enc c (cs.flatMap enc) (h c (by simp))
    rw [List.flatMap_cons]
    constructor
    · rw [rns_step _ hne, hd]
      simp [i1]
    · rw [validD_step _ hne, hd, if_neg]
      · simp [i2]
      · rintro ⟨e1, e2⟩
        have := enc_err c e1
        simp at e2
        omega
theorem enc_rns : ∀ (n : Nat) (l : List UInt8), l.length ≤ n → validD l = true → (rns l).flatMap enc = l
  | 0, l, hn, _ => by
    have : l = [] := List.eq_nil_of_length_eq_zero (by omega)
    subst this
    rfl
  | n + 1, l, hn, hv => by
    by_cases hne : l = []
    · subst hne; rfl
    have hl : 0 < l.length := List.length_pos_iff.2 hne
    have hw := decodeL_width l
    rw [validD_step l hne] at hv
    split at hv
    · cases hv
    · rename_i hc
      rw [rns_step l hne, List.flatMap_cons, enc_rns n _ (by rw [List.length_drop]; omega) hv]
      have he := encode_decode l hne hc
      have e3 : enc (decodeL l).1 = l.take (decodeL l).2 := by
        rw [← he]
        have hs := decodeL_scal l
        generalize (decodeL l).1 = c at hs
        by_cases h1 : c < 128
        · rw [enc1 h1, encodeRune, encodeRuneZ_one (by omega) (by omega)]; simp
        by_cases h2 : c < 2048
        · rw [enc2 (by omega) h2, encodeRune, encodeRuneZ_two (by omega) (by omega)]
          simp only [List.map_cons, List.map_nil]
          congr 1
        by_cases h3 : c < 65536
        · rw [enc3 (by omega) h3 hs, encodeRune, encodeRuneZ_three (by unfold scal at hs; omega)]
          simp only [List.map_cons, List.map_nil]
          congr 1
        · rw [enc4 (by omega) hs, encodeRune, encodeRuneZ_four (by omega) (by unfold scal at hs; omega)]
          simp only [List.map_cons, List.map_nil]
          congr 1
      rw [e3, List.take_append_drop]

/-! ### letters -/
def letterN (c : Nat) : Bool := decide ((65 ≤ c ∧ c ≤ 90) ∨ (97 ≤ c ∧ c ≤ 122) ∨ (192 ≤ c ∧ c ≤ 591 ∧ c ≠ 215 ∧ c ≠ 247) ∨ (913 ≤ c ∧ c ≤ 937 ∧ c ≠ 930) ∨ (945 ≤ c ∧ c ≤ 969) ∨ (1040 ≤ c ∧ c ≤ 1103) ∨ (19968 ≤ c ∧ c ≤ 40959))
def bigN (c : Nat) : Bool := decide ((65 ≤ c ∧ c ≤ 90) ∨ (192 ≤ c ∧ c ≤ 222 ∧ c ≠ 215) ∨ (913 ≤ c ∧ c ≤ 937 ∧ c ≠ 930) ∨ (1040 ≤ c ∧ c ≤ 1071))
def smallN (c : Nat) : Nat := if bigN c then c + 32 else c
theorem smallN_scal {c : Nat} (h : scal c) : scal (smallN c) := by
  unfold smallN
  split
  · rename_i hb
    simp only [bigN, decide_eq_true_eq] at hb
    unfold scal
    omega
  · exact h
theorem smallN_idem (c : Nat) : smallN (smallN c) = smallN c := by
  by_cases hb : bigN c = true
  · have hb2 : bigN (c + 32) = false := by
      simp only [bigN, decide_eq_true_eq] at hb
      simp only [bigN, decide_eq_false_iff_not]
      omega
    simp [smallN, hb, hb2]
  · simp [smallN, hb]
def beginsN (c : Nat) : Bool := c == 95 || letterN c
theorem beginsN_small (c : Nat) : beginsN (smallN c) = beginsN c := by
  by_cases hb : bigN c = true
  · simp only [smallN, hb, if_true]
    simp only [bigN, decide_eq_true_eq] at hb
    have h1 : letterN c = true := by simp only [letterN, decide_eq_true_eq]; omega
    have h2 : letterN (c + 32) = true := by simp only [letterN, decide_eq_true_eq]; omega
    simp [beginsN, h1, h2]
  · simp [smallN, hb]

/-- What Check answers, from some parts and runes on. -/
def chk : Nat → Nat → Bool → List Nat → Int
  | p, r, f, [] => if f then 3 else if 5 < p ∨ 40 < r then 2 else 0
  | p, r, f, c :: cs => if beginsN c then chk p (r + 1) false cs else if f then 3 else if c = 46 then chk (p + 1) (r + 1) true cs else if c ≠ 45 ∧ ¬ (48 ≤ c ∧ c ≤ 57) then 3 else chk p (r + 1) f cs
def checkL (l : List UInt8) : Int := chk 1 0 true (rns l)
theorem chk_small : ∀ (cs : List Nat) (p r : Nat) (f : Bool), chk p r f (cs.map smallN) = chk p r f cs
  | [], _, _, _ => rfl
  | c :: cs, p, r, f => by
    simp only [List.map_cons, chk, beginsN_small, chk_small cs]
    by_cases hb : beginsN c = true
    · simp [hb]
    · have hn : smallN c = c := by
        by_cases h : bigN c = true
        · exfalso
          apply hb
          simp only [bigN, decide_eq_true_eq] at h
          have h1 : letterN c = true := by simp only [letterN, decide_eq_true_eq]; omega
          simp [beginsN, h1]
        · simp [smallN, h]
      rw [hn]

/-- What Fold answers. -/
def foldL (l : List UInt8) : List UInt8 := if validD l = true then ((rns l).map smallN).flatMap enc else l
theorem foldL_valid (l : List UInt8) : validD (foldL l) = validD l := by
  unfold foldL
  by_cases h : validD l = true
  · rw [if_pos h, h]
    exact (rns_enc _ (by intro c hc; obtain ⟨x, hx, rfl⟩ := List.mem_map.1 hc; exact smallN_scal (rns_scal l x hx))).2
  · rw [if_neg h]
theorem foldL_rns {l : List UInt8} (h : validD l = true) : rns (foldL l) = (rns l).map smallN := by
  unfold foldL
  rw [if_pos h]
  exact (rns_enc _ (by intro c hc; obtain ⟨x, hx, rfl⟩ := List.mem_map.1 hc; exact smallN_scal (rns_scal l x hx))).1
theorem foldL_idem (l : List UInt8) : foldL (foldL l) = foldL l := by
  by_cases h : validD l = true
  · have hv := foldL_valid l
    rw [h] at hv
    have e : foldL (foldL l) = ((rns (foldL l)).map smallN).flatMap enc := by rw [foldL, if_pos hv]
    rw [e, foldL_rns h, List.map_map]
    have e2 : (smallN ∘ smallN) = smallN := funext smallN_idem
    rw [e2, foldL, if_pos h]
  · have e : foldL l = l := if_neg h
    rw [e, e]
theorem foldL_check (l : List UInt8) : checkL (foldL l) = checkL l := by
  by_cases h : validD l = true
  · unfold checkL
    rw [foldL_rns h, chk_small]
  · rw [show foldL l = l from if_neg h]
theorem foldL_count (l : List UInt8) : (rns (foldL l)).length = (rns l).length := by
  by_cases h : validD l = true
  · rw [foldL_rns h, List.length_map]
  · rw [show foldL l = l from if_neg h]
theorem flat_len : ∀ cs : List Nat, (cs.flatMap enc).length ≤ 4 * cs.length
  | [] => by simp
  | c :: cs => by
    have := flat_len cs
    have := enc_len4 c
    simp only [List.flatMap_cons, List.length_append, List.length_cons]
    omega
theorem foldL_len (l : List UInt8) : (foldL l).length ≤ 4 * l.length := by
  unfold foldL
  split
  · have h1 := flat_len ((rns l).map smallN)
    have h2 := rns_len_le l.length l
    rw [List.length_map] at h1
    have : (rns l).length ≤ l.length := h2
    omega
  · omega

/-- FNV-1a. -/
def hashL (l : List UInt8) : Nat := l.foldl (fun h b => ((h ^^^ b.toNat) * 1099511628211) % 18446744073709551616) 14695981039346656037
end Go.Proofs.YtmfeoiblhjfpjaaGreatDoor
/- strconv.FormatInt of a digit at base 16, value.showRune: walks. -/
namespace Go.Proofs.YtmfeoiblhjfpjaaGreatDoor
open Go.RowKit

theorem formatInt_i (n : Nat) (w : World) (hn : n < 16) (h : T16 w) :
    Calls Tryz.prog 78 #[.int .i64 (n : Int), .int .i64 16] w fun e w' => e = .returned (.string (strOfNums [((dg n).toNat : Int)])) ∧ Below w.heap.size w w' := by
  have hd : decide ((n : Int) < 0) = false := by simp
  go_enter Tryz.func78, Tryz.ntmps78
  go_wp2_with fail
  refine (formatBits_small n _ hn h).mono ?_
  rintro e w1 ⟨rfl, hb1⟩
  go_wp2
  go_ret
  exact ⟨rfl, hb1⟩
theorem formatInt_16 (n : Nat) (w : World) (hn : n < 16) (h : T16 w) :
    Calls Tryz.prog 79 #[.int .i64 (n : Int), .int .i64 16] w fun e w' => e = .returned (.string (strOfNums [((dg n).toNat : Int)])) ∧ Below w.heap.size w w' := by
  go_enter Tryz.func79, Tryz.ntmps79
  go_wp2_with fail
  refine (formatInt_i n _ hn h).mono ?_
  rintro e w1 ⟨rfl, hb1⟩
  go_wp2
  go_ret
  exact ⟨rfl, hb1⟩

/-- Bytes as a text. -/
def str (l : List UInt8) : ByteArray := ⟨l.toArray⟩
theorem str_data (l : List UInt8) : (str l).data.toList = l := by simp [str]
theorem str_of (s : ByteArray) : str s.data.toList = s := by cases s; simp [str]
theorem str_size (l : List UInt8) : (str l).size = l.length := by simp [str, ByteArray.size]
theorem ba_eq {a b : ByteArray} (h : a.data.toList = b.data.toList) : a = b := by
  cases a; cases b
  simp only [Array.toList_inj] at h
  rw [h]
theorem ba_append (a b : ByteArray) : (a ++ b).data.toList = a.data.toList ++ b.data.toList := by
  rw [ByteArray.data_append, Array.toList_append]

/-- How a rune is shown (those of 16 to 31 and 127 are left out here). -/
def showR (c : Nat) : List UInt8 :=
  if c = 34 then [92, 34] else if c = 92 then [92, 92] else if c = 10 then [92, 110] else if c = 9 then [92, 116] else if c = 13 then [92, 114]
  else if c < 16 then [92, 117, 123, dg c, 125] else enc c
set_option maxRecDepth 100000 in
theorem enc_str (c : Nat) : Utf8.encode (c : Int) = str (enc c) := (str_of (Utf8.encode (c : Int))).symm
theorem num1 (x : UInt8) : strOfNums [(x.toNat : Int)] = str [x] := by
  unfold strOfNums str
  simp
theorem brace (x : UInt8) : ((⟨#[92, 117, 123]⟩ : ByteArray) ++ str [x]) ++ (⟨#[125]⟩ : ByteArray) = str [92, 117, 123, x, 125] := ba_eq (by
  rw [ba_append, ba_append, str_data, str_data]
  rfl)

set_option maxRecDepth 100000 in
set_option maxHeartbeats 2000000 in
theorem showRune_any (c : Nat) (w : World) (hs : scal c) (ho : c < 16 ∨ (32 ≤ c ∧ c ≠ 127)) (hT : T16 w) :
    Calls Tryz.prog 62 #[.int .i32 (c : Int)] w fun e w' => e = .returned (.string (str (showR c))) ∧ Below w.heap.size w w' := by
  have hc : c ≤ 1114111 := by unfold scal at hs; omega
  by_cases h1 : c = 34
  · subst h1
    go_enter Tryz.func62, Tryz.ntmps62
    go_wp2
    go_ret
    exact ⟨rfl, Below.refl _ _⟩
  by_cases h2 : c = 92
  · subst h2
    go_enter Tryz.func62, Tryz.ntmps62
    go_wp2
    go_ret
    exact ⟨rfl, Below.refl _ _⟩
  by_cases h3 : c = 10
  · subst h3
    go_enter Tryz.func62, Tryz.ntmps62
    go_wp2
    go_ret
    exact ⟨rfl, Below.refl _ _⟩
  by_cases h4 : c = 9
  · subst h4
    go_enter Tryz.func62, Tryz.ntmps62
    go_wp2
    go_ret
    exact ⟨rfl, Below.refl _ _⟩
  by_cases h5 : c = 13
  · subst h5
    go_enter Tryz.func62, Tryz.ntmps62
    go_wp2
    go_ret
    exact ⟨rfl, Below.refl _ _⟩
  have k1 : ((c : Int) == 34) = false := by rw [beq_eq_false_iff_ne]; omega
  have k2 : ((c : Int) == 92) = false := by rw [beq_eq_false_iff_ne]; omega
  have k3 : ((c : Int) == 10) = false := by rw [beq_eq_false_iff_ne]; omega
  have k4 : ((c : Int) == 9) = false := by rw [beq_eq_false_iff_ne]; omega
  have k5 : ((c : Int) == 13) = false := by rw [beq_eq_false_iff_ne]; omega
  by_cases h6 : c < 16
  · have k6 : decide ((c : Int) < 32) = true := by simp; omega
    have HR : Hid (str (showR c) = str [92, 117, 123, dg c, 125]) := by show _ = _; rw [showR, if_neg h1, if_neg h2, if_neg h3, if_neg h4, if_neg h5, if_pos h6]
    have HB : Hid (((⟨#[92, 117, 123]⟩ : ByteArray) ++ str [dg c]) ++ (⟨#[125]⟩ : ByteArray) = str [92, 117, 123, dg c, 125]) := brace _
    have hz : (str [dg c]).size = 1 := rfl
    rw [HR.out]
    clear HR h1 h2 h3 h4 h5 ho
    go_enter Tryz.func62, Tryz.ntmps62
    go_wp2_with fail
    refine (formatInt_16 c _ h6 hT).mono ?_
    rintro e w1 ⟨rfl, hb1⟩
    rw [num1]
    generalize str [dg c] = x at *
    go_wp2
    go_ret
    exact ⟨by rw [← HB.out]; rfl, hb1⟩
  · have k6 : decide ((c : Int) < 32) = false := by simp; omega
    have k7 : ((c : Int) == 127) = false := by rw [beq_eq_false_iff_ne]; omega
    have HR : Hid (Utf8.encode (c : Int) = str (showR c)) := by show _ = _; rw [showR, if_neg h1, if_neg h2, if_neg h3, if_neg h4, if_neg h5, if_neg h6, enc_str]
    clear h1 h2 h3 h4 h5 ho
    go_enter Tryz.func62, Tryz.ntmps62
    go_wp2
    go_ret
    exact ⟨by rw [← HR.out]; rfl, Below.refl _ _⟩
end Go.Proofs.YtmfeoiblhjfpjaaGreatDoor
