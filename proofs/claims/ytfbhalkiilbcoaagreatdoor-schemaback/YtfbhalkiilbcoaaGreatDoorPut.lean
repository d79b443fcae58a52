/- quic.Put: its walk. -/
import Derived.Test.YtfbhalkiilbcoaaGreatDoorB2
import Derived.Test.YtfbhalkiilbcoaaGreatDoorShelf
namespace Go.Proofs.YtfbhalkiilbcoaaGreatDoor.Q
open Go.RowKit

def mayIt (x : It) : Bool := mayB x.k x.n x.s
theorem all_take {l : List It} {k : Nat} (h : k < l.length) (h1 : (l.take k).all mayIt = true) (h2 : mayIt (l[k]'h) = true) : (l.take (k + 1)).all mayIt = true := by
  rw [List.take_succ_eq_append_getElem h, List.all_append, h1]
  simp [h2]
theorem all_not {l : List It} {k : Nat} (h : k < l.length) (h1 : mayIt (l[k]'h) = false) : l.all mayIt = false := by
  rw [Bool.eq_false_iff]
  intro e
  have := List.all_eq_true.1 e _ (List.getElem_mem h)
  rw [h1] at this
  cases this

set_option maxHeartbeats 1000000 in
theorem put_long (a : Option Addr) (n cap : Nat) (w : World) (hl : 4096 < n) (hn : n ≤ 140737488355328) :
    Calls Tryz.prog 32 #[.slice a n cap] w fun e w' => e = .returned (.tuple #[.string ⟨#[]⟩, .int .i64 2]) ∧ Below w.heap.size w w' := by
  have hl' : (4096 : Int) < n := by omega
  go_enter Tryz.func32, Tryz.ntmps32
  go_wp2
  go_ret2
  exact ⟨rfl, Below.refl _ _⟩

set_option maxHeartbeats 1000000 in
theorem put_bad (v : Value) (l : List It) (w : World) (h : IsRow w 3 v l.length (itCells l)) (hl : l.length ≤ 4096) (hs : ∀ x ∈ l, x.s.size ≤ 140737488355328) (hbad : l.all mayIt = false) :
    Calls Tryz.prog 32 #[v] w fun e w' => e = .returned (.tuple #[.string ⟨#[]⟩, .int .i64 1]) ∧ Below w.heap.size w w' := by
  obtain ⟨a0, cap0, rfl⟩ := h.form
  have hl' : ¬ (4096 : Int) < l.length := by omega
  have HB : Hid (l.all mayIt = false) := hbad
  clear hbad
  go_enter Tryz.func32, Tryz.ntmps32
  go_wp2
  go_loopw [14] (fun i wr => ∃ k : Nat, k ≤ l.length ∧ i = .int .i64 k ∧ (l.take k).all mayIt = true ∧ Below w.heap.size w wr) (fun i _ => l.length - (intOf i).toNat)
  case atStart => exact ⟨0, Nat.zero_le _, rfl, rfl, Below.refl _ _⟩
  case round =>
    obtain ⟨k, hk, rfl, hall, hb⟩ := hrel
    have HA : Hid ((l.take k).all mayIt = true) := hall
    clear hall
    by_cases hlt : k < l.length
    · obtain ⟨b, off, rfl, hbl, c0, c1, c2⟩ := items_at (h.below hb) k hlt
      have hi : (k : Int) < l.length := by omega
      have hxs := hs _ (List.getElem_mem hlt)
      go_wp2_with fail
      refine (mayBe_any _ _ _ _ hxs).mono ?_
      rintro e w1 ⟨rfl, hb1⟩
      have hbb : Hid (Below w.heap.size w w1) := (hb.alloc hb.size _).trans (hb1.mono (by have := hb.size; simp; omega))
      clear c0 c1 c2 hb1
      cases hmm : mayB l[k].k l[k].n l[k].s
      · clear hmm
        go_wp2
        go_ret2
        exact ⟨rfl, hbb.out⟩
      · have HM : Hid (mayIt l[k] = true) := hmm
        clear hmm
        go_wp2
        go_roundw
        case rel => exact ⟨k + 1, by omega, by go_num, all_take hlt HA.out HM.out, hbb.out⟩
        case measure => simp [intOf]; omega
    · exfalso
      have e : l.take k = l := List.take_of_length_le (by omega)
      have h1 := HA.out
      rw [e, HB.out] at h1
      cases h1

theorem flat_len (l : List It) (h : l.all mayIt = true) : (l.flatMap itB).length ≤ l.length * 65544 := by
  induction l with
  | nil => simp
  | cons x l ih =>
    simp only [List.all_cons, Bool.and_eq_true] at h
    have h1 := itB_len x h.1
    have h2 := ih h.2
    simp only [List.flatMap_cons, List.length_append, List.length_cons]
    omega
theorem all_take' (l : List It) (k : Nat) (h : l.all mayIt = true) : (l.take k).all mayIt = true := by
  rw [List.all_eq_true] at h ⊢
  exact fun x hx => h x (List.mem_of_mem_take hx)

set_option maxHeartbeats 2000000 in
theorem put_ok (v : Value) (l : List It) (w : World) (h : IsRow w 3 v l.length (itCells l)) (hT : Tab w) (hl : l.length ≤ 4096) (hs : ∀ x ∈ l, x.s.size ≤ 140737488355328) (hok : l.all mayIt = true) :
    Calls Tryz.prog 32 #[v] w fun e w' => e = .returned (.tuple #[.string ⟨(l.flatMap itB).toArray⟩, .int .i64 0]) ∧ Below w.heap.size w w' := by
  obtain ⟨a0, cap0, rfl⟩ := h.form
  have hl' : ¬ (4096 : Int) < l.length := by omega
  have HB : Hid (l.all mayIt = true) := hok
  clear hok
  have hw1 := hT.size
  go_enter Tryz.func32, Tryz.ntmps32
  go_wp2
  go_loopw [14] (fun i wr => ∃ k : Nat, k ≤ l.length ∧ i = .int .i64 k ∧ Below w.heap.size w wr) (fun i _ => l.length - (intOf i).toNat)
  case atStart => exact ⟨0, Nat.zero_le _, rfl, Below.refl _ _⟩
  case round =>
    obtain ⟨k, hk, rfl, hb⟩ := hrel
    by_cases hlt : k < l.length
    · obtain ⟨b, off, rfl, hbl, c0, c1, c2⟩ := items_at (h.below hb) k hlt
      have hi : (k : Int) < l.length := by omega
      have hxs := hs _ (List.getElem_mem hlt)
      have HM : Hid (mayB l[k].k l[k].n l[k].s = true) := List.all_eq_true.1 HB.out _ (List.getElem_mem hlt)
      go_wp2_with fail
      refine (mayBe_any _ _ _ _ hxs).mono ?_
      rintro e w1 ⟨rfl, hb1⟩
      have hbb : Hid (Below w.heap.size w w1) := (hb.alloc hb.size _).trans (hb1.mono (by have := hb.size; simp; omega))
      clear c0 c1 c2 hb1
      rw [HM.out]
      go_wp2
      go_roundw
      case rel => exact ⟨k + 1, by omega, by go_num, hbb.out⟩
      case measure => simp [intOf]; omega
    · have hk' : k = l.length := by omega
      subst hk'
      obtain ⟨W1, rfl⟩ : ∃ W1, W1 = wr := ⟨_, rfl⟩
      have hT1 := hT.below hb hw1
      have hr1 := h.below hb
      have hs1 := hb.size
      go_wp2_with fail
      go_loopw [24] (fun i wx => ∃ k : Nat, k ≤ l.length ∧ i = .int .i64 k ∧ IsB W1.heap.size W1.heap.size (Lib.byteCells ((l.take k).flatMap itB)) wx ∧ Below W1.heap.size W1 wx) (fun i _ => l.length - (intOf i).toNat)
      case atStart => exact ⟨0, Nat.zero_le _, rfl, Lib.IsBuilderF.of (Lib.fresh_isBuilder _ _ W1), (Below.refl _ _).alloc (Nat.le_refl _) _⟩
      case round =>
        obtain ⟨k, hk, rfl, hI, hbx⟩ := hrel
        have hsx := hbx.size
        by_cases hlt : k < l.length
        · obtain ⟨b, off, rfl, hbl, c0, c1, c2⟩ := items_at (hr1.below hbx) k hlt
          have hi : (k : Int) < l.length := by omega
          have HM : Hid (mayB l[k].k l[k].n l[k].s = true) := List.all_eq_true.1 HB.out _ (List.getElem_mem hlt)
          have hfl := flat_len (l.take k) (all_take' l k HB.out)
          have hlk : (l.take k).length ≤ 4096 := by simp; omega
          have HF : Hid ((l.take k).flatMap itB ++ itB l[k] = (l.take (k + 1)).flatMap itB) := by show _ = _; rw [List.take_succ_eq_append_getElem hlt, List.flatMap_append]; simp
          have hTx := hT1.below hbx hT1.size
          go_wp2_with fail
          refine (putItem_any W1.heap.size W1.heap.size _ _ _ _ _ (IsB_alloc hI _) (Tab_alloc hTx _) HM.out (by omega) (by simp; omega)).mono ?_
          rintro e w2 ⟨rfl, h2, hb2⟩
          have H2 : Hid (IsB W1.heap.size W1.heap.size (Lib.byteCells ((l.take (k + 1)).flatMap itB)) w2) := by rw [← HF.out]; exact h2
          have hbb : Hid (Below W1.heap.size W1 w2) := (hbx.alloc hsx _).trans hb2
          clear c0 c1 c2 h2 hb2 hI hTx hfl
          go_wp2
          go_roundw
          case rel => exact ⟨k + 1, by omega, by go_num, H2.out, hbb.out⟩
          case measure => simp [intOf]; omega
        · have hk' : k = l.length := by omega
          subst hk'
          have e : l.take l.length = l := List.take_of_length_le (Nat.le_refl _)
          rw [e] at hI
          have hbf : Hid (Below w.heap.size w wr) := hb.trans (hbx.mono hs1)
          go_wp2_with fail
          refine (Tryz.Builder_String_any_k W1.heap.size W1.heap.size (l.flatMap itB) _ hI (by omega)).mono ?_
          rintro e w3 ⟨rfl, h3, hb3, _⟩
          have hfin : Hid (Below w.heap.size w w3) := hbf.out.trans (hb3.mono hs1)
          clear h3 hb3 hI hbf
          go_wp2
          go_ret2
          exact ⟨rfl, hfin.out⟩
end Go.Proofs.YtfbhalkiilbcoaaGreatDoor.Q
