/- The reference's Runes: its walk (as with names). -/
import Derived.Test.YthkboelloejejaaGreatDoorVS
import Derived.Test.YthkboelloejejaaGreatDoorU3
import Derived.Lib.RuneCountTail
namespace Go.Proofs.YthkboelloejejaaGreatDoor
open Go.RowKit Go.Lib

theorem wpl_apps {P : Program} (wr : World) {ops : Array Oper} {rest : List Oper} {o : Oper} {a : Act} {Q : Exit → Act → World → Prop} (hgd : o.guard = none) (s x : Operand) (t e : TypeId)
    (ho : o.op = .call { callee := .builtin .append, args := #[s, x], argTypes := #[t, t] })
    (i : TypeInfo) (z : Value) (bytes : Nat) (ht : P.underlying t = some (.slice e)) (hi : P.info? e = some i) (hz : i.zero = some z)
    (hsize : i.size = 1) (hby : i.bytes = bytes) (hzs : z.cells.size = 1)
    (base : Nat) (v : Value) (n : Nat) (xs : List Value) (hs : a.eval s = v) (hown : wr.ownsRow base e 1 v n xs)
    (el : Value) (N : Nat) (hN : N = wr.heap.size) (hx : a.eval x = .slice (some ⟨N, 0, none⟩) 1 1) (h1 : el.oneCell' = true)
    (hbytes : (n + 1) * bytes ≤ 140737488355328) (h63 : n + 1 ≤ maxLen) (hbase : base ≤ wr.heap.size)
    (h : ∀ v' w', w'.ownsRow base e 1 v' (n + 1) (xs ++ [el]) → Below base wr w' → (∀ b, b < wr.heap.size → v.ownBlock ≠ some b → w'.heap[b]? = wr.heap[b]?) → wpList P ops Q rest (a.put o.dst v') w') :
    wpList P ops Q (o :: rest) a (wr.alloc (.cells #[el] e)) := by
  subst hN
  refine wpList_append_own _ hgd s x t ho base e i z 1 bytes ht hi hz hsize hby hzs (by omega) v n xs hs (hown.alloc _) ⟨wr.heap.size, 0, none⟩ 1 1 [el] hx rfl ?_ ?_ h63 hbytes ?_ ?_
  · intro j u hj
    match j, hj with
    | 0, hj => simp at hj; subst hj; simp [Addr.add]
  · intro u hu; simp at hu; subst hu; exact h1
  · simp; omega
  · intro v' w' h2 h3 h4
    refine h v' w' h2 ?_ ?_
    · exact ((Below.refl _ _).alloc hbase _).grown h3 (by simp; omega) (fun k hk => (hown.lt k hk).1)
    · intro b hb hne
      rw [h3.block b (by simp; omega) (fun e => hne e.symm)]
      exact Below.heap_alloc _ _ _ hb

theorem owns_below' {w w1 : World} {base : Nat} {e : TypeId} {sz : Nat} {v : Value} {n : Nat} {xs : List Value} (h : w.ownsRow base e sz v n xs) (hb : Below w.heap.size w w1) : w1.ownsRow base e sz v n xs :=
  h.kept (row := none) ⟨hb.os, hb.tape, hb.output, hb.size, fun k hk _ => hb.block k hk⟩ (by cases hv : v.ownBlock <;> simp)
def icells (l : List Nat) : List Value := l.map fun (c : Nat) => Value.int .i64 (c : Int)
theorem info_int : (Tryz.prog.info? 3).map (fun i => (i.zero, i.size, i.bytes)) = some (some (.int .i64 0), 1, 8) := by kernel_rfl
/-- What Runes leaves. -/
def RnPost (l : List Nat) (w : World) (e : Ending) (w' : World) : Prop :=
  ∃ v, e = .returned v ∧ IsRow w' 1 v l.length (icells l) ∧ Below w.heap.size w w'
def RnRel (s : ByteArray) (w : World) (t i : Value) (wr : World) : Prop :=
  ∃ (pos : Nat) (acc : List Nat), pos ≤ s.size ∧ i = .int .i64 pos ∧ wr.ownsRow w.heap.size 3 1 t acc.length (icells acc) ∧ Below w.heap.size w wr ∧ acc ++ rns (s.data.toList.drop pos) = rns s.data.toList ∧ validD (s.data.toList.drop pos) = true ∧ acc.length ≤ pos

set_option maxRecDepth 100000 in
set_option maxHeartbeats 2000000 in
theorem refRunes_any (s : ByteArray) (w : World) (hs : s.size ≤ 1000000) (hvs : validD s.data.toList = true) :
    Calls Tryz.prog 29 #[.string s] w fun e w' => RnPost (rns s.data.toList) w e w' := by
  obtain ⟨i0, hi0, hz0, hz1, hz2⟩ := info_parts info_int
  go_enter Tryz.func29, Tryz.ntmps29
  go_wp2
  go_loopw [3, 4] (fun t i wr => RnRel s w t i wr) (fun _ i _ => s.size - (RowKit.intOf i).toNat)
  case atStart => exact ⟨0, [], Nat.zero_le _, rfl, World.ownsRow_nil _ _ _ _, Below.refl _ _, rfl, hvs, Nat.le_refl _⟩
  case round =>
    obtain ⟨pos, acc, hp, rfl, hown, hb, hck, hv, hal⟩ := hrel
    have HC : Hid (acc ++ rns (s.data.toList.drop pos) = rns s.data.toList) := hck
    have HV : Hid (validD (s.data.toList.drop pos) = true) := hv
    clear hck hv
    by_cases hlt : pos < s.size
    · have hi : (pos : Int) < s.size := by omega
      have hsl := slice_ok s pos
      have hwl := width_le s pos hlt
      have hw1 := Lib.decode_width_pos s pos hlt
      have hfa := fst_at s pos hlt
      have hbs := hb.size
      have hbad : ¬ ((Utf8.decode s pos).1 = 65533 ∧ (Utf8.decode s pos).2 = 1) := by
        intro h
        have := HV.out
        rw [valid_at s pos hlt, if_pos h] at this
        cases this
      have HV2 : Hid (validD (s.data.toList.drop (pos + (Utf8.decode s pos).2)) = true) := by
        have := HV.out
        rw [valid_at s pos hlt, if_neg hbad] at this
        exact this
      have HC2 : Hid ((acc ++ [(Utf8.decode s pos).1]) ++ rns (s.data.toList.drop (pos + (Utf8.decode s pos).2)) = rns s.data.toList) := by
        show _ = _
        rw [← HC.out, rns_at s pos hlt]
        simp
      rw [if_neg hbad] at hfa
      clear hbad HC HV
      generalize (Utf8.decode s pos) = dc at *
      obtain ⟨c, d⟩ := dc
      simp only at hwl hw1 HC2 HV2
      have hd0 : ((d : Int) == 0) = false := by rw [beq_eq_false_iff_ne]; omega
      have HX : Hid (icells acc ++ [Value.int .i64 (c : Nat)] = icells (acc ++ [c])) := by show _ = _; simp [icells]
      go_wp2_with fail
      refine (first_any _ _ (by omega)).mono ?_
      rintro e w1 ⟨rfl, hb1⟩
      rw [show (fst (s.extract pos s.size)).1 = c by rw [hfa], show (fst (s.extract pos s.size)).2 = d by rw [hfa]]
      have hb2 := hb.trans (hb1.mono hb.size)
      have hs1 := hb1.size
      have hown1 := owns_below' hown hb1
      clear hb1 hfa hown
      have hne : u3.ownBlock ≠ some w1.heap.size := fun e => by have := (hown1.lt _ e).2; omega
      have hownA := hown1.alloc (.cells #[Value.int .i64 c, .int .i64 d] 80)
      go_wp2_with (at_builtin; refine wpl_apps _ rfl (.tmp 18) (.tmp 21) 46 3 rfl i0 _ 8 Tryz.underlying46 hi0 hz0 hz1 hz2 rfl _ _ _ _ rfl hownA (.int .i64 (c : Nat)) (w1.heap.size + 1) (by simp) rfl rfl (by omega) (by unfold maxLen; omega) (by simp; omega) ?_; intro v3 w3 hown3 hb3 hst3; have hc3 : w3.cell? ⟨w1.heap.size, 1, none⟩ = some (.int .i64 d) := (World.cell?_of_block (a := ⟨w1.heap.size, 1, none⟩) (hst3 w1.heap.size (by simp) hne)).trans (by simp))
      have HO : Hid (w3.ownsRow w.heap.size 3 1 v3 (acc ++ [c]).length (icells (acc ++ [c]))) := by
        show World.ownsRow _ _ _ _ _ _ _
        rw [← HX.out, List.length_append]
        exact hown3
      have HB : Hid (Below w.heap.size w w3) := (hb2.alloc (by omega) _).trans hb3
      clear hst3 hown3 hb3 hown1 hownA hb2
      go_wp2
      go_roundw
      case rel => exact ⟨pos + d, acc ++ [c], hwl, by go_num, HO.out, HB.out, HC2.out, HV2.out, by simp; omega⟩
      case measure => simp [RowKit.intOf]; omega
    · have HC2 : Hid (acc = rns s.data.toList) := by show _ = _; rw [← HC.out, rns_end s pos hlt]; simp
      have HO : Hid (IsRow wr 1 u3 acc.length (icells acc)) := IsRow.own hown
      have hp' : pos = s.size := by omega
      clear HC hown HV
      subst hp'
      go_wp2
      go_ret
      refine ⟨_, rfl, ?_, hb⟩
      rw [← HC2.out]
      exact HO.out
end Go.Proofs.YthkboelloejejaaGreatDoor
