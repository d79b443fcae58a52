/- opOf, ownWord: walks. -/
import Derived.Test.YtjamkfkbajhefaaGreatDoorZk2
import Derived.Deep.RegionHeld3
import Derived.Test.YtjamkfkbajhefaaGreatDoorZk0
import Derived.Lib.SplitLaws
import Derived.Lib.Strings
import Derived.Test.YtjamkfkbajhefaaGreatDoorZk1
import Derived.RegionTactic
import Derived.Deep.QuietTactic
import Derived.BigQuiet
namespace Go.Proofs.YtjamkfkbajhefaaGreatDoor.F
open Go.RowKit

theorem opF_at {s : ByteArray} {k : Nat} (h2 : 2 ≤ k) (h8 : k ≤ 8) (hk : ((opW (k : Int)).data.toList == s.data.toList) = true) (hj : ∀ j : Nat, 2 ≤ j → j < k → ((opW (j : Int)).data.toList == s.data.toList) = false) : opF s = (k : Int) := by
  unfold opF
  rcases (by omega : k = 2 ∨ k = 3 ∨ k = 4 ∨ k = 5 ∨ k = 6 ∨ k = 7 ∨ k = 8) with rfl | rfl | rfl | rfl | rfl | rfl | rfl
  · rw [if_pos (show ((opW 2).data.toList == s.data.toList) = true from hk)]
    rfl
  · rw [if_neg (by rw [show ((opW 2).data.toList == s.data.toList) = false from hj 2 (by omega) (by omega)]; decide), if_pos (show ((opW 3).data.toList == s.data.toList) = true from hk)]
    rfl
  · rw [if_neg (by rw [show ((opW 2).data.toList == s.data.toList) = false from hj 2 (by omega) (by omega)]; decide), if_neg (by rw [show ((opW 3).data.toList == s.data.toList) = false from hj 3 (by omega) (by omega)]; decide), if_pos (show ((opW 4).data.toList == s.data.toList) = true from hk)]
    rfl
  · rw [if_neg (by rw [show ((opW 2).data.toList == s.data.toList) = false from hj 2 (by omega) (by omega)]; decide), if_neg (by rw [show ((opW 3).data.toList == s.data.toList) = false from hj 3 (by omega) (by omega)]; decide), if_neg (by rw [show ((opW 4).data.toList == s.data.toList) = false from hj 4 (by omega) (by omega)]; decide), if_pos (show ((opW 5).data.toList == s.data.toList) = true from hk)]
    rfl
  · rw [if_neg (by rw [show ((opW 2).data.toList == s.data.toList) = false from hj 2 (by omega) (by omega)]; decide), if_neg (by rw [show ((opW 3).data.toList == s.data.toList) = false from hj 3 (by omega) (by omega)]; decide), if_neg (by rw [show ((opW 4).data.toList == s.data.toList) = false from hj 4 (by omega) (by omega)]; decide), if_neg (by rw [show ((opW 5).data.toList == s.data.toList) = false from hj 5 (by omega) (by omega)]; decide), if_pos (show ((opW 6).data.toList == s.data.toList) = true from hk)]
    rfl
  · rw [if_neg (by rw [show ((opW 2).data.toList == s.data.toList) = false from hj 2 (by omega) (by omega)]; decide), if_neg (by rw [show ((opW 3).data.toList == s.data.toList) = false from hj 3 (by omega) (by omega)]; decide), if_neg (by rw [show ((opW 4).data.toList == s.data.toList) = false from hj 4 (by omega) (by omega)]; decide), if_neg (by rw [show ((opW 5).data.toList == s.data.toList) = false from hj 5 (by omega) (by omega)]; decide), if_neg (by rw [show ((opW 6).data.toList == s.data.toList) = false from hj 6 (by omega) (by omega)]; decide), if_pos (show ((opW 7).data.toList == s.data.toList) = true from hk)]
    rfl
  · rw [if_neg (by rw [show ((opW 2).data.toList == s.data.toList) = false from hj 2 (by omega) (by omega)]; decide), if_neg (by rw [show ((opW 3).data.toList == s.data.toList) = false from hj 3 (by omega) (by omega)]; decide), if_neg (by rw [show ((opW 4).data.toList == s.data.toList) = false from hj 4 (by omega) (by omega)]; decide), if_neg (by rw [show ((opW 5).data.toList == s.data.toList) = false from hj 5 (by omega) (by omega)]; decide), if_neg (by rw [show ((opW 6).data.toList == s.data.toList) = false from hj 6 (by omega) (by omega)]; decide), if_neg (by rw [show ((opW 7).data.toList == s.data.toList) = false from hj 7 (by omega) (by omega)]; decide), if_pos (show ((opW 8).data.toList == s.data.toList) = true from hk)]
    rfl
theorem opF_no {s : ByteArray} (hj : ∀ j : Nat, 2 ≤ j → j < 9 → ((opW (j : Int)).data.toList == s.data.toList) = false) : opF s = 0 := by
  unfold opF
  rw [if_neg (by rw [show ((opW 2).data.toList == s.data.toList) = false from hj 2 (by omega) (by omega)]; decide), if_neg (by rw [show ((opW 3).data.toList == s.data.toList) = false from hj 3 (by omega) (by omega)]; decide), if_neg (by rw [show ((opW 4).data.toList == s.data.toList) = false from hj 4 (by omega) (by omega)]; decide), if_neg (by rw [show ((opW 5).data.toList == s.data.toList) = false from hj 5 (by omega) (by omega)]; decide), if_neg (by rw [show ((opW 6).data.toList == s.data.toList) = false from hj 6 (by omega) (by omega)]; decide), if_neg (by rw [show ((opW 7).data.toList == s.data.toList) = false from hj 7 (by omega) (by omega)]; decide), if_neg (by rw [show ((opW 8).data.toList == s.data.toList) = false from hj 8 (by omega) (by omega)]; decide)]
set_option maxRecDepth 100000 in
set_option maxHeartbeats 1000000 in
theorem opOf_any (s : ByteArray) (w : World) : Calls Tryz.prog 126 #[.string s] w fun e w' => e = .returned (.int .i64 (opF s)) ∧ w' = w := by
  have HA : Hid (∀ k : Nat, 2 ≤ k → k ≤ 8 → ((opW (k : Int)).data.toList == s.data.toList) = true → (∀ j : Nat, 2 ≤ j → j < k → ((opW (j : Int)).data.toList == s.data.toList) = false) → opF s = (k : Int)) := fun k h2 h8 hk hj => opF_at h2 h8 hk hj
  have HN : Hid ((∀ j : Nat, 2 ≤ j → j < 9 → ((opW (j : Int)).data.toList == s.data.toList) = false) → opF s = 0) := opF_no
  generalize opF s = Z at *
  go_enter Tryz.func126, Tryz.ntmps126
  go_wp2_with fail
  go_loopw [3] (fun i wr => wr = w ∧ ∃ k : Nat, 2 ≤ k ∧ k ≤ 9 ∧ i = .int .i64 (k : Int) ∧ Hid (∀ j : Nat, 2 ≤ j → j < k → ((opW (j : Int)).data.toList == s.data.toList) = false)) (fun i _ => 9 - (intOf i).toNat)
  case atStart => exact ⟨rfl, 2, by omega, by omega, rfl, fun j h1 h2 => absurd h1 (by omega)⟩
  case round =>
    obtain ⟨rfl, k, h2, h9, rfl, HF⟩ := hrel
    by_cases h8 : k ≤ 8
    · have d8 : decide ((k : Int) ≤ 8) = true := by simp; omega
      have HO : Hid (Calls Tryz.prog 111 #[.int .i64 (k : Int)] wr fun e w' => e = .returned (.string (opW (k : Int))) ∧ w' = wr) := opWord_any (k : Int) wr
      obtain ⟨U, HU⟩ : ∃ U, Hid (opW (k : Int) = U) := ⟨_, rfl⟩
      rw [HU.out] at HO
      have hX : ∃ X, (U.toList == s.toList) = X := ⟨_, rfl⟩
      obtain ⟨X, hX⟩ := hX
      have HX : Hid ((U.data.toList == s.data.toList) = X) := by show _ = _; rw [← hX, ByteArray.toList_eq, ByteArray.toList_eq]
      go_wp2_with fail
      refine HO.out.mono ?_
      rintro e w2 ⟨rfl, hw2⟩
      obtain rfl := hw2.symm
      clear HO
      cases X
      · go_wp2
        go_roundw
        case rel => exact ⟨trivial, k + 1, by omega, by omega, by simp, fun j h1 h2 => by
          by_cases e : j = k
          · subst e; rw [HU.out]; exact HX.out
          · exact HF.out j h1 (by omega)⟩
        case measure => simp [intOf]; omega
      · have HZ : Hid (Z = (k : Int)) := HA.out k h2 h8 (by rw [HU.out]; exact HX.out) HF.out
        go_wp2
        go_ret
        exact ⟨by rw [HZ.out]; rfl, rfl⟩
    · have d8 : decide ((k : Int) ≤ 8) = false := by simp; omega
      have HZ : Hid (Z = 0) := HN.out fun j h1 h2 => HF.out j h1 (by omega)
      go_wp2
      go_ret
      exact ⟨by rw [HZ.out]; rfl, rfl⟩
/-- Is a text one of the five words? -/
def ownW (s : ByteArray) : Bool := sameL s.data.toList (⟨#[97, 110, 100]⟩ : ByteArray).data.toList || (sameL s.data.toList (⟨#[105, 110]⟩ : ByteArray).data.toList || (sameL s.data.toList (⟨#[104, 97, 115]⟩ : ByteArray).data.toList || (sameL s.data.toList (⟨#[112, 114, 101, 102, 105, 120]⟩ : ByteArray).data.toList || (sameL s.data.toList (⟨#[97, 110, 121]⟩ : ByteArray).data.toList))))
set_option maxRecDepth 100000 in
set_option maxHeartbeats 1000000 in
theorem ownWord_any (s : ByteArray) (w : World) (hs : s.size ≤ 1000000) (hT : UT w) : Calls Tryz.prog 87 #[.string s] w fun e w' => e = .returned (.bool (ownW s)) ∧ Below w.heap.size w w' := by
  have HS : Hid (∀ u : ByteArray, u.size ≤ 1000000 → ∀ W, Below w.heap.size w W → Calls Tryz.prog 29 #[.string s, .string u] W fun e w' => e = .returned (.bool (sameL s.data.toList u.data.toList)) ∧ Below W.heap.size W w') := fun u hu W hb => same_any s u W hs hu (Utf8Tabs_below hT hb)
  unfold ownW
  have HS0 : Hid (∀ W, Below w.heap.size w W → Calls Tryz.prog 29 #[.string s, .string ⟨#[97, 110, 100]⟩] W fun e w' => e = .returned (.bool (sameL s.data.toList (⟨#[97, 110, 100]⟩ : ByteArray).data.toList)) ∧ Below W.heap.size W w') := fun W hb => HS.out _ (by decide) W hb
  have HS1 : Hid (∀ W, Below w.heap.size w W → Calls Tryz.prog 29 #[.string s, .string ⟨#[105, 110]⟩] W fun e w' => e = .returned (.bool (sameL s.data.toList (⟨#[105, 110]⟩ : ByteArray).data.toList)) ∧ Below W.heap.size W w') := fun W hb => HS.out _ (by decide) W hb
  have HS2 : Hid (∀ W, Below w.heap.size w W → Calls Tryz.prog 29 #[.string s, .string ⟨#[104, 97, 115]⟩] W fun e w' => e = .returned (.bool (sameL s.data.toList (⟨#[104, 97, 115]⟩ : ByteArray).data.toList)) ∧ Below W.heap.size W w') := fun W hb => HS.out _ (by decide) W hb
  have HS3 : Hid (∀ W, Below w.heap.size w W → Calls Tryz.prog 29 #[.string s, .string ⟨#[112, 114, 101, 102, 105, 120]⟩] W fun e w' => e = .returned (.bool (sameL s.data.toList (⟨#[112, 114, 101, 102, 105, 120]⟩ : ByteArray).data.toList)) ∧ Below W.heap.size W w') := fun W hb => HS.out _ (by decide) W hb
  have HS4 : Hid (∀ W, Below w.heap.size w W → Calls Tryz.prog 29 #[.string s, .string ⟨#[97, 110, 121]⟩] W fun e w' => e = .returned (.bool (sameL s.data.toList (⟨#[97, 110, 121]⟩ : ByteArray).data.toList)) ∧ Below W.heap.size W w') := fun W hb => HS.out _ (by decide) W hb
  clear HS
  generalize sameL s.data.toList (⟨#[97, 110, 100]⟩ : ByteArray).data.toList = X0 at *
  generalize sameL s.data.toList (⟨#[105, 110]⟩ : ByteArray).data.toList = X1 at *
  generalize sameL s.data.toList (⟨#[104, 97, 115]⟩ : ByteArray).data.toList = X2 at *
  generalize sameL s.data.toList (⟨#[112, 114, 101, 102, 105, 120]⟩ : ByteArray).data.toList = X3 at *
  generalize sameL s.data.toList (⟨#[97, 110, 121]⟩ : ByteArray).data.toList = X4 at *
  have B0 : Hid (Below w.heap.size w w) := Below.refl _ _
  go_enter Tryz.func87, Tryz.ntmps87
  go_wp2_with fail
  refine (HS0.out w B0.out).mono ?_
  rintro e w1 ⟨rfl, hb⟩
  have B1 : Hid (Below w.heap.size w w1) := B0.out.trans (hb.mono B0.out.size)
  clear hb
  cases X0
  rotate_left 1
  · go_wp2
    go_ret
    exact ⟨by first | rfl | simp, B1.out⟩
  · go_wp2_with fail
    refine (HS1.out w1 B1.out).mono ?_
    rintro e w2 ⟨rfl, hb⟩
    have B2 : Hid (Below w.heap.size w w2) := B1.out.trans (hb.mono B1.out.size)
    clear hb
    cases X1
    rotate_left 1
    · go_wp2
      go_ret
      exact ⟨by first | rfl | simp, B2.out⟩
    · go_wp2_with fail
      refine (HS2.out w2 B2.out).mono ?_
      rintro e w3 ⟨rfl, hb⟩
      have B3 : Hid (Below w.heap.size w w3) := B2.out.trans (hb.mono B2.out.size)
      clear hb
      cases X2
      rotate_left 1
      · go_wp2
        go_ret
        exact ⟨by first | rfl | simp, B3.out⟩
      · go_wp2_with fail
        refine (HS3.out w3 B3.out).mono ?_
        rintro e w4 ⟨rfl, hb⟩
        have B4 : Hid (Below w.heap.size w w4) := B3.out.trans (hb.mono B3.out.size)
        clear hb
        cases X3
        rotate_left 1
        · go_wp2
          go_ret
          exact ⟨by first | rfl | simp, B4.out⟩
        · go_wp2_with fail
          refine (HS4.out w4 B4.out).mono ?_
          rintro e w5 ⟨rfl, hb⟩
          have B5 : Hid (Below w.heap.size w w5) := B4.out.trans (hb.mono B4.out.size)
          clear hb
          go_wp2
          go_ret
          exact ⟨by first | rfl | simp, B5.out⟩
end Go.Proofs.YtjamkfkbajhefaaGreatDoor.F
/- Bytes and runes cut at points; what a name's parts are: plain, of no program. -/
namespace Go.Proofs.YtjamkfkbajhefaaGreatDoor
open Go.Lib
set_option maxRecDepth 100000

/-- Put a sign ahead of the first piece. -/
def onto {α : Type} (b : α) : List (List α) → List (List α)
  | [] => [[b]]
  | p :: ps => (b :: p) :: ps
def cutB : List UInt8 → List (List UInt8)
  | [] => [[]]
  | b :: l => if b = 46 then [] :: cutB l else onto b (cutB l)
def cutR : List Nat → List (List Nat)
  | [] => [[]]
  | c :: l => if c = 46 then [] :: cutR l else onto c (cutR l)
theorem cutR_ne : ∀ l, cutR l ≠ []
  | [] => by simp [cutR]
  | b :: l => by
    unfold cutR
    split
    · simp
    · cases cutR l <;> simp [onto]

theorem split_cut : ∀ l : List UInt8, splitK [46] 0 (count l [46]) l = cutB l
  | [] => by rw [count_one]; rfl
  | b :: l => by
    have ih := split_cut l
    by_cases h : b = 46
    · subst h
      rw [count_cons_eq, Nat.add_comm, splitK, show index (46 :: l) [46] = 0 by rw [index]; simp [List.isPrefixOf]]
      simp [cutB, ih]
    · rw [count_cons_ne b 46 l h]
      have hp : ([46] : List UInt8).isPrefixOf (b :: l) = false := by simp [List.isPrefixOf, Ne.symm h]
      have hix : index (b :: l) [46] = if index l [46] == -1 then -1 else index l [46] + 1 := by rw [index, hp]; simp
      rw [show cutB (b :: l) = onto b (cutB l) by rw [cutB, if_neg h], ← ih]
      generalize count l [46] = k
      cases k with
      | zero => rfl
      | succ k =>
        unfold splitK
        by_cases hm : index l [46] = -1
        · rw [hix, if_pos (beq_iff_eq.2 hm)]
          simp [hm, onto]
        · have hge := index_ge l [46]
          obtain ⟨j, hj⟩ : ∃ j : Nat, index l [46] = j := ⟨(index l [46]).toNat, by omega⟩
          have hne : ¬ (index l [46] == -1) = true := fun e => hm (beq_iff_eq.1 e)
          have hne2 : ¬ (((j : Int) + 1) == -1) = true := fun e => by have := beq_iff_eq.1 e; omega
          have hne3 : ¬ ((j : Int) == -1) = true := fun e => by have := beq_iff_eq.1 e; omega
          rw [hix, if_neg hne, hj, if_neg hne2, if_neg hne3]
          have e1 : ((j : Int) + 1).toNat = j + 1 := by omega
          rw [e1]
          simp [onto]

/-! ### parts -/
def okp : Bool → List Nat → Bool
  | f, [] => !f
  | f, c :: q => if beginsN c then okp false q else if f then false else if c ≠ 45 ∧ ¬ (48 ≤ c ∧ c ≤ 57) then false else okp f q
end Go.Proofs.YtjamkfkbajhefaaGreatDoor
/- A name's parts and beginnings: plain, of no program. -/
namespace Go.Proofs.YtjamkfkbajhefaaGreatDoor
open Go.Lib
set_option maxRecDepth 100000

def joinR : List (List Nat) → List Nat
  | [] => []
  | [q] => q
  | q :: r :: qs => q ++ 46 :: joinR (r :: qs)
theorem cut_no : ∀ cs, ∀ q ∈ cutR cs, 46 ∉ q
  | [] => by simp [cutR]
  | c :: cs => by
    have ih := cut_no cs
    rw [cutR]
    split
    · intro q hq
      rcases List.mem_cons.1 hq with rfl | hq
      · simp
      · exact ih q hq
    · rename_i h
      cases hc : cutR cs with
      | nil => exact absurd hc (cutR_ne cs)
      | cons p ps =>
        rw [hc] at ih
        intro q hq
        rcases List.mem_cons.1 hq with rfl | hq
        · intro m
          rcases List.mem_cons.1 m with e | m
          · exact h e.symm
          · exact ih p (by simp) m
        · exact ih q (by simp [hq])
/-- The bytes of parts with points between. -/
def bytesOf (qs : List (List Nat)) : List UInt8 := (joinR qs).flatMap enc
/-- What a name's parts are. -/
structure Parts (l : List UInt8) (qs : List (List Nat)) : Prop where
  ne : qs ≠ []
  cut : cutB l = qs.map (·.flatMap enc)
  bytes : bytesOf qs = l
  no : ∀ q ∈ qs, 46 ∉ q
  ok : ∀ q ∈ qs, okp true q = true
  few : qs.length ≤ 5
  short : (joinR qs).length ≤ 40
  scals : ∀ c ∈ joinR qs, scal c
end Go.Proofs.YtjamkfkbajhefaaGreatDoor
/- name.Parts and name.Under: walks. -/
namespace Go.Proofs.YtjamkfkbajhefaaGreatDoor
open Go.RowKit

/-- The library's own variable holds some number. -/
def ML (w : World) : Prop := ∃ m, w.cell? ⟨2, 0, none⟩ = some (.int .i64 m)
theorem ML_below {w w' : World} (h : ML w) (hb : Below w.heap.size w w') : ML w' := by
  obtain ⟨m, hm⟩ := h
  exact ⟨m, (hb.cell (p := ⟨2, 0, none⟩) (World.block_lt_of_cell? _ _ hm)).trans hm⟩
def svals (l : List (List UInt8)) : List Value := l.map fun p => Value.string (str p)
theorem split_eq (s : ByteArray) : Lib.splitB ⟨#[46]⟩ 0 (Lib.countB s ⟨#[46]⟩) s = (cutB s.data.toList).map str := by
  have h := Lib.splitB_data ⟨#[46]⟩ 0 (Lib.countB s ⟨#[46]⟩) s
  have h2 : Lib.splitK (⟨#[46]⟩ : ByteArray).data.toList 0 (Lib.countB s ⟨#[46]⟩) s.data.toList = cutB s.data.toList := split_cut s.data.toList
  rw [h2] at h
  rw [← h, List.map_map]
  have e : (str ∘ fun (x : ByteArray) => x.data.toList) = id := funext str_of
  rw [e, List.map_id]
theorem split_len (s : ByteArray) : Lib.countB s ⟨#[46]⟩ + 1 = (cutB s.data.toList).length := by
  have h := Lib.splitB_all ⟨#[46]⟩ (by decide) 0 _ s rfl
  rw [split_eq, List.length_map] at h
  exact h.symm

/-- What Parts leaves. -/
def PaPost (l : List (List UInt8)) (w : World) (e : Ending) (w' : World) : Prop :=
  ∃ v, e = .returned v ∧ IsRow w' 1 v l.length (svals l) ∧ Below w.heap.size w w'
set_option maxHeartbeats 1000000 in
theorem parts_ok (s : ByteArray) (w : World) (hs : s.size ≤ 1000000) (hM : ML w) (hc : checkL s.data.toList = 0) :
    Calls Tryz.prog 88 #[.string s] w fun e w' => PaPost (cutB s.data.toList) w e w' := by
  go_enter Tryz.func88, Tryz.ntmps88
  go_wp2_with fail
  refine (check_any s _ (by omega)).mono ?_
  rintro e w1 ⟨rfl, hb1⟩
  rw [hc]
  obtain ⟨m, hm⟩ := ML_below hM hb1
  have hs1 := hb1.size
  go_wp2_with fail
  refine (Tryz.strings_Split s _ m _ (by omega) hm (by decide)).mono ?_
  rintro e w2 ⟨rfl, rfl⟩
  rw [split_eq, split_len]
  go_wp2
  go_ret
  refine ⟨_, rfl, ⟨by simp [svals], .inr ⟨w1.heap.size, 0, (cutB s.data.toList).length, rfl, by simp, Nat.le_refl _, ?_, ?_⟩⟩, hb1.alloc hs1 _⟩
  · have h1 := split_len s
    have h2 := Lib.countB_le ⟨#[46]⟩ (by decide) s.size s (Nat.le_refl _)
    unfold maxLen
    omega
  · intro j u hu
    simpa [svals, Function.comp] using hu
set_option maxHeartbeats 1000000 in
theorem parts_no (s : ByteArray) (w : World) (hs : s.size ≤ 1000000) (hc : checkL s.data.toList ≠ 0) :
    Calls Tryz.prog 88 #[.string s] w fun e w' => e = .returned (.slice none 0 0) ∧ Below w.heap.size w w' := by
  have hc' : (checkL s.data.toList != 0) = true := by rw [bne_iff_ne]; exact hc
  go_enter Tryz.func88, Tryz.ntmps88
  go_wp2_with fail
  refine (check_any s _ (by omega)).mono ?_
  rintro e w1 ⟨rfl, hb1⟩
  go_wp2
  go_ret
  exact ⟨rfl, hb1⟩

end Go.Proofs.YtjamkfkbajhefaaGreatDoor
/- Fields and attributes, plainly; schema.onePart, mayBe, byName: walks. -/
namespace Go.Proofs.YtjamkfkbajhefaaGreatDoor
open Go.RowKit

/-- A field. -/
structure Fd where
  n : ByteArray
  k : Int
  m : Bool
/-- An attribute. -/
structure At where
  n : ByteArray
  k : Int
  v : Int
  s : ByteArray
def enF (x : Fd) : List Value := [.string x.n, .int .i64 x.k, .bool x.m]
abbrev fV (x : Fd) : Value := .agg #[.string x.n, .int .i64 x.k, .bool x.m]
def enA (x : At) : List Value := [.string x.n, .int .i64 x.k, .int .i64 x.v, .string x.s]
abbrev aV (x : At) : Value := .agg #[.string x.n, .int .i64 x.k, .int .i64 x.v, .string x.s]
/-- Is a text a name of one part? -/
def oneP (s : ByteArray) : Bool := decide (checkL s.data.toList = 0) && decide ((cutB s.data.toList).length = 1)
def mayF (x : Fd) : Bool := decide (1 ≤ x.k) && (decide (x.k < 5) && oneP x.n)
set_option maxRecDepth 100000 in
theorem onePart_any (s : ByteArray) (w : World) (hs : s.size ≤ 1000000) (hM : ML w) :
    Calls Tryz.prog 57 #[.string s] w fun e w' => e = .returned (.bool (oneP s)) ∧ Below w.heap.size w w' := by
  by_cases hc : checkL s.data.toList = 0
  · have e0 : oneP s = decide ((cutB s.data.toList).length = 1) := by unfold oneP; rw [decide_eq_true hc, Bool.true_and]
    rw [e0]
    have HP : Hid (Calls Tryz.prog 88 #[.string s] w fun e w' => PaPost (cutB s.data.toList) w e w') := parts_ok s w hs hM hc
    clear e0
    generalize cutB s.data.toList = L at *
    go_enter Tryz.func57, Tryz.ntmps57
    go_wp2_with fail
    refine HP.out.mono ?_
    rintro e w1 ⟨v, rfl, hr, hb⟩
    obtain ⟨a, cap, rfl⟩ := hr.form
    have HB : Hid (Below w.heap.size w w1) := hb
    have HE : Hid (((L.length : Int) == 1) = decide (L.length = 1)) := by show _ = _; rw [Bool.eq_iff_iff]; simp; omega
    clear hr hb
    go_wp2
    go_ret
    exact ⟨by rw [← HE.out]; rfl, HB.out⟩
  · have e0 : oneP s = false := by unfold oneP; rw [decide_eq_false hc, Bool.false_and]
    rw [e0]
    go_enter Tryz.func57, Tryz.ntmps57
    go_wp2_with fail
    refine (parts_no s _ hs hc).mono ?_
    rintro e w1 ⟨rfl, hb⟩
    have HB : Hid (Below w.heap.size w w1) := hb
    clear hb
    go_wp2
    go_ret
    exact ⟨rfl, HB.out⟩
theorem al_b (w : World) (o : Obj) : Below w.heap.size w (w.alloc o) := (Below.refl _ _).alloc (Nat.le_refl _) o
set_option maxRecDepth 100000 in
theorem mayBe_any (x : Fd) (w : World) (hs : x.n.size ≤ 1000000) (hM : ML w) :
    Calls Tryz.prog 53 #[fV x] w fun e w' => e = .returned (.bool (mayF x)) ∧ Below w.heap.size w w' := by
  obtain ⟨s, k, m⟩ := x
  have hA := al_b w (.cells #[.string s, .int .i64 k, .bool m] 48)
  have HP := onePart_any s (w.alloc (.cells #[.string s, .int .i64 k, .bool m] 48)) hs (ML_below hM hA)
  have HPh : Hid (Calls Tryz.prog 57 #[.string s] (w.alloc (.cells #[.string s, .int .i64 k, .bool m] 48)) fun e w' => e = .returned (.bool (oneP s)) ∧ Below (w.alloc (.cells #[.string s, .int .i64 k, .bool m] 48)).heap.size (w.alloc (.cells #[.string s, .int .i64 k, .bool m] 48)) w') := HP
  have HA : Hid (Below w.heap.size w (w.alloc (.cells #[.string s, .int .i64 k, .bool m] 48))) := hA
  clear HP hA
  show Calls _ _ _ _ fun e w' => e = .returned (.bool (decide (1 ≤ k) && (decide (k < 5) && oneP s))) ∧ _
  by_cases h1 : 1 ≤ k
  · by_cases h5 : k < 5
    · rw [decide_eq_true h1, decide_eq_true h5, Bool.true_and, Bool.true_and]
      go_enter Tryz.func53, Tryz.ntmps53
      go_wp2_with fail
      refine HPh.out.mono ?_
      rintro e w1 ⟨rfl, hb⟩
      have HB : Hid (Below w.heap.size w w1) := HA.out.trans (hb.mono HA.out.size)
      clear hb
      go_wp2
      go_ret
      exact ⟨rfl, HB.out⟩
    · rw [decide_eq_true h1, decide_eq_false h5, Bool.true_and, Bool.false_and]
      go_enter Tryz.func53, Tryz.ntmps53
      go_wp2
      go_ret
      exact ⟨rfl, HA.out⟩
  · rw [decide_eq_false h1, Bool.false_and]
    go_enter Tryz.func53, Tryz.ntmps53
    go_wp2
    go_ret
    exact ⟨rfl, HA.out⟩
set_option maxRecDepth 100000 in
theorem byName_any (x y : Fd) (w : World) (hx : x.n.size ≤ 1000000) (hy : y.n.size ≤ 1000000) (hT : UT w) :
    Calls Tryz.prog 54 #[fV x, fV y] w fun e w' => e = .returned (.int .i64 (cmpL x.n.data.toList y.n.data.toList)) ∧ Below w.heap.size w w' := by
  obtain ⟨s, k, m⟩ := x
  obtain ⟨s', k', m'⟩ := y
  have hA := (al_b w (.cells #[.string s, .int .i64 k, .bool m] 48)).trans ((al_b (w.alloc (.cells #[.string s, .int .i64 k, .bool m] 48)) (.cells #[.string s', .int .i64 k', .bool m'] 48)).mono (al_b w _).size)
  have HC : Hid (Calls Tryz.prog 21 #[.string s, .string s'] ((w.alloc (.cells #[.string s, .int .i64 k, .bool m] 48)).alloc (.cells #[.string s', .int .i64 k', .bool m'] 48)) fun e w' => e = .returned (.int .i64 (cmpL s.data.toList s'.data.toList)) ∧ Below ((w.alloc (.cells #[.string s, .int .i64 k, .bool m] 48)).alloc (.cells #[.string s', .int .i64 k', .bool m'] 48)).heap.size ((w.alloc (.cells #[.string s, .int .i64 k, .bool m] 48)).alloc (.cells #[.string s', .int .i64 k', .bool m'] 48)) w') :=
    compare_any s s' _ hx hy (Utf8Tabs_below hT hA)
  have HA : Hid (Below w.heap.size w ((w.alloc (.cells #[.string s, .int .i64 k, .bool m] 48)).alloc (.cells #[.string s', .int .i64 k', .bool m'] 48))) := hA
  clear hA
  show Calls _ _ _ _ fun e w' => e = .returned (.int .i64 (cmpL s.data.toList s'.data.toList)) ∧ _
  generalize cmpL s.data.toList s'.data.toList = c at *
  go_enter Tryz.func54, Tryz.ntmps54
  go_wp2_with fail
  refine HC.out.mono ?_
  rintro e w1 ⟨rfl, hb⟩
  have HB : Hid (Below w.heap.size w w1) := HA.out.trans (hb.mono HA.out.size)
  clear hb
  go_wp2
  go_ret
  exact ⟨rfl, HB.out⟩
end Go.Proofs.YtjamkfkbajhefaaGreatDoor
/- value.Check: its walk, beside the names (VH over again). -/
namespace Go.Proofs.YtjamkfkbajhefaaGreatDoor
open Go.RowKit

/-- A value, as the model has it. -/
abbrev vv (k n : Int) (s : ByteArray) : Value := .agg #[.int .i64 k, .int .i64 n, .string s]
/-- May it be? -/
def chkV (k n : Int) (s : ByteArray) : Bool :=
  if k = 1 then decide (s.size = 0) && decide (-9007199254740991 ≤ n ∧ n ≤ 9007199254740991)
  else if k = 2 then decide (n = 0) && (decide (s.size ≤ 200) && Lib.validD s.data.toList)
  else if k = 3 then decide (s.size = 0) && decide (n = 0 ∨ n = 1)
  else if k = 4 then decide (n = 0) && decide (s.size ≤ 200)
  else false
set_option maxRecDepth 100000 in
set_option maxHeartbeats 2000000 in
theorem vcheck_any (k n : Int) (s : ByteArray) (w : World) (hs : s.size ≤ 140737488355328) (hT : UT w) :
    Calls Tryz.prog 58 #[vv k n s] w fun e w' => e = .returned (.bool (chkV k n s)) ∧ Below w.heap.size w w' := by
  obtain ⟨C, HC⟩ : ∃ C, Hid (chkV k n s = C) := ⟨_, rfl⟩
  rw [HC.out]
  have hb1 : Below w.heap.size w (w.alloc (.cells #[.int .i64 k, .int .i64 n, .string s] 52)) := (Below.refl _ _).alloc (Nat.le_refl _) _
  by_cases e1 : k = 1
  · subst e1
    have hc := HC.out
    simp only [chkV, if_true] at hc
    by_cases h0 : s.size = 0
    · have he := empty_is s h0
      by_cases ha : -9007199254740991 ≤ n
      · have ha' : decide (-9007199254740991 ≤ n) = true := by simpa using ha
        have HR : Hid (decide (n ≤ 9007199254740991) = C) := by show _ = _; rw [← hc, h0]; simp [ha]
        clear hc HC
        go_enter Tryz.func58, Tryz.ntmps58
        go_wp2
        go_ret
        exact ⟨by rw [← HR.out]; rfl, hb1⟩
      · have ha' : decide (-9007199254740991 ≤ n) = false := by simpa using ha
        have HR : Hid (false = C) := by show _ = _; rw [← hc, h0]; simp [ha]
        clear hc HC
        go_enter Tryz.func58, Tryz.ntmps58
        go_wp2
        go_ret
        exact ⟨by rw [← HR.out]; rfl, hb1⟩
    · have he := empty_not s h0
      have HR : Hid (false = C) := by show _ = _; rw [← hc]; simp [h0]
      clear hc HC
      go_enter Tryz.func58, Tryz.ntmps58
      go_wp2
      go_ret
      exact ⟨by rw [← HR.out]; rfl, hb1⟩
  have f1 : (k == 1) = false := by rw [beq_eq_false_iff_ne]; exact e1
  by_cases e2 : k = 2
  · subst e2
    have hc := HC.out
    simp only [chkV, e1, if_false, if_true] at hc
    by_cases h0 : n = 0
    · subst h0
      by_cases h2 : s.size ≤ 200
      · have h2' : decide ((s.size : Int) ≤ 200) = true := by simp; omega
        have HR : Hid (Lib.validD s.data.toList = C) := by show _ = _; rw [← hc]; simp [h2]
        clear hc HC e1
        go_enter Tryz.func58, Tryz.ntmps58
        go_wp2_with fail
        refine (Tryz.utf8_ValidString s _ (by omega) (Utf8Tabs_below hT hb1)).mono ?_
        rintro e w1 ⟨rfl, hb2⟩
        rw [HR.out]
        have hb3 : Hid (Below w.heap.size w w1) := hb1.trans (hb2.mono hb1.size)
        clear hb1 hb2
        go_wp2
        go_ret
        exact ⟨rfl, hb3.out⟩
      · have h2' : decide ((s.size : Int) ≤ 200) = false := by simp; omega
        have HR : Hid (false = C) := by show _ = _; rw [← hc]; simp [h2]
        clear hc HC e1
        go_enter Tryz.func58, Tryz.ntmps58
        go_wp2
        go_ret
        exact ⟨by rw [← HR.out]; rfl, hb1⟩
    · have h0' : (n == 0) = false := by rw [beq_eq_false_iff_ne]; exact h0
      have HR : Hid (false = C) := by show _ = _; rw [← hc]; simp [h0]
      clear hc HC e1
      go_enter Tryz.func58, Tryz.ntmps58
      go_wp2
      go_ret
      exact ⟨by rw [← HR.out]; rfl, hb1⟩
  have f2 : (k == 2) = false := by rw [beq_eq_false_iff_ne]; exact e2
  by_cases e3 : k = 3
  · subst e3
    have hc := HC.out
    simp only [chkV, e1, e2, if_false, if_true] at hc
    by_cases h0 : s.size = 0
    · have he := empty_is s h0
      by_cases hn : n = 0
      · subst hn
        have HR : Hid (true = C) := by show _ = _; rw [← hc, h0]; simp
        clear hc HC e1 e2
        go_enter Tryz.func58, Tryz.ntmps58
        go_wp2
        go_ret
        exact ⟨by rw [← HR.out]; rfl, hb1⟩
      · have hn' : (n == 0) = false := by rw [beq_eq_false_iff_ne]; exact hn
        have HR : Hid ((n == 1) = C) := by
          show _ = _
          rw [← hc, h0, Bool.eq_iff_iff]
          simp [hn]
        clear hc HC e1 e2
        go_enter Tryz.func58, Tryz.ntmps58
        go_wp2
        go_ret
        exact ⟨by rw [← HR.out]; rfl, hb1⟩
    · have he := empty_not s h0
      have HR : Hid (false = C) := by show _ = _; rw [← hc]; simp [h0]
      clear hc HC e1 e2
      go_enter Tryz.func58, Tryz.ntmps58
      go_wp2
      go_ret
      exact ⟨by rw [← HR.out]; rfl, hb1⟩
  have f3 : (k == 3) = false := by rw [beq_eq_false_iff_ne]; exact e3
  by_cases e4 : k = 4
  · subst e4
    have hc := HC.out
    simp only [chkV, e1, e2, e3, if_false, if_true] at hc
    by_cases h0 : n = 0
    · subst h0
      have HR : Hid (decide (s.size ≤ 200) = C) := by show _ = _; rw [← hc]; simp
      have HQ : Hid (decide ((s.size : Int) ≤ 200) = decide (s.size ≤ 200)) := by show _ = _; rw [Bool.eq_iff_iff]; simp; omega
      clear hc HC e1 e2 e3
      go_enter Tryz.func58, Tryz.ntmps58
      go_wp2
      go_ret
      exact ⟨by rw [← HR.out]; first | rfl | (rw [← HQ.out]; rfl), hb1⟩
    · have h0' : (n == 0) = false := by rw [beq_eq_false_iff_ne]; exact h0
      have HR : Hid (false = C) := by show _ = _; rw [← hc]; simp [h0]
      clear hc HC e1 e2 e3
      go_enter Tryz.func58, Tryz.ntmps58
      go_wp2
      go_ret
      exact ⟨by rw [← HR.out]; rfl, hb1⟩
  have f4 : (k == 4) = false := by rw [beq_eq_false_iff_ne]; exact e4
  have HR : Hid (false = C) := by show _ = _; rw [← HC.out, chkV, if_neg e1, if_neg e2, if_neg e3, if_neg e4]
  clear HC e1 e2 e3 e4
  go_enter Tryz.func58, Tryz.ntmps58
  go_wp2
  go_ret
  exact ⟨by rw [← HR.out]; rfl, hb1⟩
end Go.Proofs.YtjamkfkbajhefaaGreatDoor
