/- Parse of the page's three texts. -/
import Derived.Test.YtbekpemidpngaaaGreatDoorZk24
import Derived.Test.YtbekpemidpngaaaGreatDoorZk17
import Derived.Test.YtbekpemidpngaaaGreatDoorZk0
import Derived.Test.YtbekpemidpngaaaGreatDoorChecked
import Derived.ProofKit
import Derived.OpenShut
import Derived.ShutString
import Derived.ChangeOld
import Derived.Below
import Derived.Stop.Joined
import Derived.Deep.Slices
import Derived.Deep.Strs
import Derived.SizedLaws
import Derived.Lib.SmallJoins
import Derived.Test.YtbekpemidpngaaaGreatDoorZk7
import Derived.PinnedBridge
import Derived.Lay
import Derived.Lib.LaidU8T
import Derived.Lib.LaidTab
import Derived.LaidMore
import Derived.Stop.LaidErr
import Derived.Shelf.Vars
import Derived.Test.YtbekpemidpngaaaGreatDoorZk21
import Derived.Test.YtbekpemidpngaaaGreatDoorZk10
import Derived.Test.YtbekpemidpngaaaGreatDoorZk8
namespace Go.Proofs.YtbekpemidpngaaaGreatDoor
open Go.RowKit

abbrev tx1 : ByteArray := ⟨#[112, 114, 105, 99, 101, 32, 62, 61, 32, 49, 48, 32, 97, 110, 100, 32, 115, 121, 109, 32, 105, 110, 32, 123, 34, 98, 34, 44, 32, 34, 97, 34, 125, 32, 97, 110, 100, 32, 104, 97, 115, 32, 114, 97, 119]⟩
abbrev tk1 : List Ft := [⟨1, 0, ⟨#[112, 114, 105, 99, 101]⟩, 0, 0, ⟨#[]⟩⟩, ⟨3, 6, ⟨#[62, 61]⟩, 0, 0, ⟨#[]⟩⟩, ⟨2, 9, ⟨#[]⟩, 1, 10, ⟨#[]⟩⟩, ⟨1, 12, ⟨#[97, 110, 100]⟩, 0, 0, ⟨#[]⟩⟩, ⟨1, 16, ⟨#[115, 121, 109]⟩, 0, 0, ⟨#[]⟩⟩, ⟨1, 20, ⟨#[105, 110]⟩, 0, 0, ⟨#[]⟩⟩, ⟨3, 23, ⟨#[123]⟩, 0, 0, ⟨#[]⟩⟩, ⟨2, 24, ⟨#[]⟩, 2, 0, ⟨#[98]⟩⟩, ⟨3, 27, ⟨#[44]⟩, 0, 0, ⟨#[]⟩⟩, ⟨2, 29, ⟨#[]⟩, 2, 0, ⟨#[97]⟩⟩, ⟨3, 32, ⟨#[125]⟩, 0, 0, ⟨#[]⟩⟩, ⟨1, 34, ⟨#[97, 110, 100]⟩, 0, 0, ⟨#[]⟩⟩, ⟨1, 38, ⟨#[104, 97, 115]⟩, 0, 0, ⟨#[]⟩⟩, ⟨1, 42, ⟨#[114, 97, 119]⟩, 0, 0, ⟨#[]⟩⟩]
theorem lx1 : (V.lexL tx1.data.toList).e = 0 ∧ (V.lexL tx1.data.toList).a = 45 ∧ (V.lexL tx1.data.toList).l.map toFt = tk1 := by
  refine ⟨by kernel_rfl, by kernel_rfl, by kernel_rfl⟩
abbrev tx2 : ByteArray := ⟨#[97, 32, 112, 114, 101, 102, 105, 120, 32, 53]⟩
abbrev tk2 : List Ft := [⟨1, 0, ⟨#[97]⟩, 0, 0, ⟨#[]⟩⟩, ⟨1, 2, ⟨#[112, 114, 101, 102, 105, 120]⟩, 0, 0, ⟨#[]⟩⟩, ⟨2, 9, ⟨#[]⟩, 1, 5, ⟨#[]⟩⟩]
theorem lx2 : (V.lexL tx2.data.toList).e = 0 ∧ (V.lexL tx2.data.toList).a = 10 ∧ (V.lexL tx2.data.toList).l.map toFt = tk2 := by
  refine ⟨by kernel_rfl, by kernel_rfl, by kernel_rfl⟩
abbrev tx3 : ByteArray := ⟨#[97, 32, 61, 32, 49, 32, 111, 114, 32, 98]⟩
abbrev tk3 : List Ft := [⟨1, 0, ⟨#[97]⟩, 0, 0, ⟨#[]⟩⟩, ⟨3, 2, ⟨#[61]⟩, 0, 0, ⟨#[]⟩⟩, ⟨2, 4, ⟨#[]⟩, 1, 1, ⟨#[]⟩⟩, ⟨1, 6, ⟨#[111, 114]⟩, 0, 0, ⟨#[]⟩⟩, ⟨1, 9, ⟨#[98]⟩, 0, 0, ⟨#[]⟩⟩]
theorem lx3 : (V.lexL tx3.data.toList).e = 0 ∧ (V.lexL tx3.data.toList).a = 10 ∧ (V.lexL tx3.data.toList).l.map toFt = tk3 := by
  refine ⟨by kernel_rfl, by kernel_rfl, by kernel_rfl⟩
theorem cf_ab : cfV ⟨2, 0, ⟨#[97]⟩⟩ ⟨2, 0, ⟨#[98]⟩⟩ < 0 := by
  have e : cfV ⟨2, 0, ⟨#[97]⟩⟩ ⟨2, 0, ⟨#[98]⟩⟩ = -1 := by kernel_rfl
  rw [e]
  decide
abbrev d1 : List Pd := [⟨⟨#[112, 114, 105, 99, 101]⟩, 7, [⟨1, 10, ⟨#[]⟩⟩]⟩, ⟨⟨#[115, 121, 109]⟩, 9, [⟨2, 0, ⟨#[97]⟩⟩, ⟨2, 0, ⟨#[98]⟩⟩]⟩, ⟨⟨#[114, 97, 119]⟩, 1, []⟩]
def pc1 : Nat → Pc
  | 0 => .word 0 ⟨#[112, 114, 105, 99, 101]⟩
  | 1 => .word 16 ⟨#[115, 121, 109]⟩
  | _ => .word 38 ⟨#[104, 97, 115]⟩
def ls1 : Nat → List Ft
  | 0 => tk1.drop 1
  | 1 => tk1.drop 5
  | _ => tk1.drop 13
def ms1 : Nat → List Ft
  | 0 => tk1.drop 3
  | 1 => tk1.drop 11
  | _ => []
def D1 : Nat → Pd
  | 0 => ⟨⟨#[112, 114, 105, 99, 101]⟩, 7, [⟨1, 10, ⟨#[]⟩⟩]⟩
  | 1 => ⟨⟨#[115, 121, 109]⟩, 9, [⟨2, 0, ⟨#[97]⟩⟩, ⟨2, 0, ⟨#[98]⟩⟩]⟩
  | _ => ⟨⟨#[114, 97, 119]⟩, 1, []⟩
def at1 : Nat → Int
  | 2 => 42
  | _ => 0
theorem filter1 (w0 : World) (R : Nat) (h : Ws w0 R tk1 45) : Calls Tryz.prog 45 #[.pointer (some ⟨R, 0, none⟩)] w0 fun e w' => ∃ T, FlQ w0 R T 45 d1 0 0 w0 e w' := by
  obtain ⟨hR, hRd, hT⟩ := h
  have hP : ∀ j, j < 3 → ∀ W, Sr R w0 W → Rd w0 R (ls1 j) 45 W → Calls Tryz.prog 74 #[.pointer (some ⟨R, 0, none⟩), (pc1 j).v, .bool false] W fun e w' => PrQ w0 R (ms1 j) 45 (D1 j).n (D1 j).o ((D1 j).l, at1 j, 0) W e w' := by
    intro j hj W hs hr
    rcases (by omega : j = 0 ∨ j = 1 ∨ j = 2) with rfl | rfl | rfl
    · exact pred_ask w0 R (ls1 0) 45 W hs hr hR (pc1 0) ⟨#[112, 114, 105, 99, 101]⟩ 0 (by show ByteArray.size _ ≤ _; decide) (by kernel_rfl) (by kernel_rfl) (ms1 0) 7 ([⟨1, 10, ⟨#[]⟩⟩], 0, 0)
        (fun W a r => behind_mark w0 R (ls1 0) 45 7 W a r hR (by decide) 6 ⟨#[62, 61]⟩ rfl (by kernel_rfl) (by decide)) hT
    · exact pred_ask w0 R (ls1 1) 45 W hs hr hR (pc1 1) ⟨#[115, 121, 109]⟩ 16 (by show ByteArray.size _ ≤ _; decide) (by kernel_rfl) (by kernel_rfl) (ms1 1) 9 ([⟨2, 0, ⟨#[97]⟩⟩, ⟨2, 0, ⟨#[98]⟩⟩], 0, 0)
        (fun W a r => behind_in w0 R (ls1 1) 45 W a r hR (by decide) 20 ⟨#[105, 110]⟩ rfl (by decide) (by kernel_rfl) [⟨2, 0, ⟨#[97]⟩⟩, ⟨2, 0, ⟨#[98]⟩⟩] (ms1 1)
          (fun W a r => set_two w0 R (ls1 1).tail 45 23 24 2 0 27 29 0 32 ⟨#[98]⟩ ⟨#[97]⟩ W a r hR (by decide) rfl rfl rfl rfl rfl (by kernel_rfl) cf_ab) hT) hT
    · exact pred_has w0 R (ls1 2) 45 W hs hr hR (pc1 2) ⟨#[114, 97, 119]⟩ 42 (by show ByteArray.size _ ≤ _; decide) (by show ByteArray.size _ ≤ _; decide) (by kernel_rfl) (by kernel_rfl) (by decide) hT
  have := filter_ok w0 R tk1 45 w0 (Sr.refl _ _) hRd hR (by decide) hT 3 (by decide) (by decide) pc1 ls1 ms1 D1 at1 rfl rfl (by show ByteArray.size _ ≤ _; decide) (by kernel_rfl) hP
    (fun j hj => by rcases (by omega : j = 0 ∨ j = 1 ∨ j = 2) with rfl | rfl | rfl
                    · exact ⟨by decide, by show ByteArray.size _ ≤ _; decide⟩
                    · exact ⟨by decide, by show ByteArray.size _ ≤ _; decide⟩
                    · exact ⟨by decide, trivial⟩)
    (fun j hj => by rcases (by omega : j = 0 ∨ j = 1) with rfl | rfl
                    · exact ⟨by kernel_rfl, rfl, rfl⟩
                    · exact ⟨by kernel_rfl, rfl, rfl⟩) rfl
  exact this.mono fun e w' h => ⟨_, h⟩
theorem filter2 (w0 : World) (R : Nat) (h : Ws w0 R tk2 10) : Calls Tryz.prog 45 #[.pointer (some ⟨R, 0, none⟩)] w0 fun e w' => ∃ v, e = .returned (.tuple #[v, ftV 9 8]) ∧ Sr R w0 w' := by
  obtain ⟨hR, hRd, hT⟩ := h
  have := filter_err w0 R tk2 10 w0 (Sr.refl _ _) hRd hR (by decide) hT (.word 0 ⟨#[97]⟩) [] ⟨#[97]⟩ 8 [] 9 8 (by decide) rfl (by show ByteArray.size _ ≤ _; decide) (by kernel_rfl)
    (fun W hs hr => pred_ask w0 R (tk2.drop 1) 10 W hs hr hR (.word 0 ⟨#[97]⟩) ⟨#[97]⟩ 0 (by show ByteArray.size _ ≤ _; decide) (by kernel_rfl) (by kernel_rfl) [] 8 ([], 9, 8)
      (fun W a r => behind_word w0 R (tk2.drop 1) 10 8 W a r hR (by decide) 2 ⟨#[112, 114, 101, 102, 105, 120]⟩ rfl (by decide) (by kernel_rfl) (by kernel_rfl) (by decide) hT) hT)
  exact this.mono fun e w' h => ⟨_, h⟩
theorem filter3 (w0 : World) (R : Nat) (h : Ws w0 R tk3 10) : Calls Tryz.prog 45 #[.pointer (some ⟨R, 0, none⟩)] w0 fun e w' => ∃ v, e = .returned (.tuple #[v, ftV 6 3]) ∧ Sr R w0 w' := by
  obtain ⟨hR, hRd, hT⟩ := h
  have hP : ∀ j, j < 1 → ∀ W, Sr R w0 W → Rd w0 R (tk3.drop 1) 10 W → Calls Tryz.prog 74 #[.pointer (some ⟨R, 0, none⟩), (Pc.word 0 ⟨#[97]⟩).v, .bool false] W fun e w' => PrQ w0 R (tk3.drop 3) 10 ⟨#[97]⟩ 2 ([⟨1, 1, ⟨#[]⟩⟩], 0, 0) W e w' := fun j hj W hs hr =>
    pred_ask w0 R (tk3.drop 1) 10 W hs hr hR (.word 0 ⟨#[97]⟩) ⟨#[97]⟩ 0 (by show ByteArray.size _ ≤ _; decide) (by kernel_rfl) (by kernel_rfl) (tk3.drop 3) 2 ([⟨1, 1, ⟨#[]⟩⟩], 0, 0)
        (fun W a r => behind_mark w0 R (tk3.drop 1) 10 2 W a r hR (by decide) 2 ⟨#[61]⟩ rfl (by kernel_rfl) (by decide)) hT
  have := filter_ok w0 R tk3 10 w0 (Sr.refl _ _) hRd hR (by decide) hT 1 (by decide) (by decide) (fun _ => .word 0 ⟨#[97]⟩) (fun _ => tk3.drop 1) (fun _ => tk3.drop 3) (fun _ => ⟨⟨#[97]⟩, 2, [⟨1, 1, ⟨#[]⟩⟩]⟩) (fun _ => 0) rfl rfl (by show ByteArray.size _ ≤ _; decide) (by kernel_rfl) hP
    (fun j hj => ⟨by decide, by show ByteArray.size _ ≤ _; decide⟩) (fun j hj => absurd hj (by omega)) (by kernel_rfl)
  refine this.mono fun e w' h => ?_
  obtain ⟨a, c, F, h1, -, -, h2, -⟩ := h
  exact ⟨_, h1, h2⟩
theorem parse1 (w : World) (hV : V.VE w) (hp : V.P10 w) : Calls Tryz.prog 26 #[.string tx1] w fun e w' => PaQ d1 45 0 w e w' :=
  parse_ok tx1 w (by decide) hV hp tk1 45 lx1.1 lx1.2.1 lx1.2.2 d1 filter1
theorem parse2 (w : World) (hV : V.VE w) (hp : V.P10 w) : Calls Tryz.prog 26 #[.string tx2] w fun e w' => PaQ [] 9 8 w e w' :=
  parse_end tx2 w (by decide) hV hp tk2 10 lx2.1 lx2.2.1 lx2.2.2 9 8 (by decide) filter2
theorem parse3 (w : World) (hV : V.VE w) (hp : V.P10 w) : Calls Tryz.prog 26 #[.string tx3] w fun e w' => PaQ [] 6 3 w e w' :=
  parse_end tx3 w (by decide) hV hp tk3 10 lx3.1 lx3.2.1 lx3.2.2 6 3 (by decide) filter3
end Go.Proofs.YtbekpemidpngaaaGreatDoor
/- law08's awake: a walk. -/
namespace Go.Proofs.YtbekpemidpngaaaGreatDoor
open Go.RowKit

/-- What stands in the variables that filters read, all of them. -/
structure W8 (w : World) : Prop where
  v : V.VE w
  p : V.P10 w
theorem W8.below {w w' : World} (h : W8 w) (hb : Below w.heap.size w w') : W8 w' := ⟨h.v.below hb, V.P10_below h.p hb⟩
theorem W8.f {w : World} (h : W8 w) : FW w := ⟨h.v.u, h.v.t, h.p⟩
theorem W8.m {w : World} (h : W8 w) : ML w := h.v.m
abbrev sx1 : ByteArray := ⟨#[112, 114, 105, 99, 101, 32, 62, 61, 32, 49, 48, 32, 97, 110, 100, 32, 115, 121, 109, 32, 105, 110, 32, 123, 32, 34, 97, 34, 32, 44, 32, 34, 98, 34, 32, 125, 32, 97, 110, 100, 32, 104, 97, 115, 32, 114, 97, 119]⟩
theorem shown1 : showFl d1 = sx1 := by
  have e1 : chkFl d1 = true := by kernel_rfl
  have e2 : str (Lib.join (d1.map shP) [32, 97, 110, 100, 32]) = sx1 := by kernel_rfl
  unfold showFl
  rw [if_pos e1, if_neg (by decide), e2]
theorem zq1 : (V.shwV 1 10 ⟨#[]⟩).size = 2 := by kernel_rfl
theorem zq2 : (V.shwV 2 0 ⟨#[97]⟩).size = 3 := by kernel_rfl
theorem zq3 : (V.shwV 2 0 ⟨#[98]⟩).size = 3 := by kernel_rfl
theorem zq4 : (showV [⟨1, 10, ⟨#[]⟩⟩]).length = 2 := by kernel_rfl
theorem zq5 : (showV [⟨2, 0, ⟨#[97]⟩⟩, ⟨2, 0, ⟨#[98]⟩⟩]).length = 9 := by kernel_rfl
theorem zq6 : (showV []).length = 0 := by kernel_rfl
theorem j1 : (Lib.join (d1.map shP) [32, 97, 110, 100, 32]).length ≤ 1000000 := by
  have e : (Lib.join (d1.map shP) [32, 97, 110, 100, 32]).length = 48 := by kernel_rfl
  omega
theorem nm1 : ∀ y ∈ d1, NmP y := by
  intro y hy
  simp only [List.mem_cons, List.not_mem_nil, or_false] at hy
  rcases hy with rfl | rfl | rfl
  · exact ⟨by decide, by decide, fun x hx => by simp at hx; rw [hx]; decide⟩
  · exact ⟨by decide, by decide, fun x hx => by simp at hx; rcases hx with rfl | rfl <;> decide⟩
  · exact ⟨by decide, by decide, fun x hx => by simp at hx⟩
theorem sh1 : ∀ y ∈ d1, ShOk y := by
  intro y hy
  simp only [List.mem_cons, List.not_mem_nil, or_false] at hy
  rcases hy with rfl | rfl | rfl
  · refine ⟨by decide, by decide, fun x hx => ?_, by rw [zq4]; decide, fun _ _ => by simp⟩
    simp at hx
    subst hx
    exact ⟨by decide, by rw [zq1]; decide⟩
  · refine ⟨by decide, by decide, fun x hx => ?_, by rw [zq5]; decide, fun _ _ => by simp⟩
    simp at hx
    rcases hx with rfl | rfl
    · exact ⟨by decide, by rw [zq2]; decide⟩
    · exact ⟨by decide, by rw [zq3]; decide⟩
  · exact ⟨by decide, by decide, fun x hx => by simp at hx, by rw [zq6]; decide, fun h _ => absurd rfl h⟩
set_option maxRecDepth 100000 in
set_option maxHeartbeats 4000000 in
theorem awake8_any (w : World) (h : W8 w) : Calls Tryz.prog 9 #[] w fun e w' => e = .returned (.bool true) ∧ Below w.heap.size w w' := by
  have H1 : Hid (Calls Tryz.prog 26 #[.string tx1] w fun e w' => PaQ d1 45 0 w e w') := parse1 w h.v h.p
  have H2 : Hid (∀ W, Below w.heap.size w W → Calls Tryz.prog 26 #[.string tx2] W fun e w' => PaQ [] 9 8 W e w') := fun W hb => parse2 W (h.below hb).v (h.below hb).p
  have H3 : Hid (∀ W, Below w.heap.size w W → Calls Tryz.prog 26 #[.string tx3] W fun e w' => PaQ [] 6 3 W e w') := fun W hb => parse3 W (h.below hb).v (h.below hb).p
  have HS : Hid (∀ v F W, Below w.heap.size w W → IsFl W v F → F.map (·.y) = d1 → Calls Tryz.prog 27 #[v] W fun e w' => e = .returned (.string sx1) ∧ Below W.heap.size W w') := fun v F W hb hf hm => by
    have hl : F.length = 3 := by rw [← List.length_map (f := (·.y)), hm]; rfl
    have := showFl_any v F d1 W hf hm (by omega) nm1 (fun _ => sh1) (fun _ => j1) (h.below hb).f
    rw [shown1] at this
    exact this
  clear h
  go_enter Tryz.func9, Tryz.ntmps9
  go_wp2_with fail
  refine H1.out.mono ?_
  rintro e w1 ⟨a, c, F, rfl, hf, hm, hb⟩
  have B1 : Hid (Below w.heap.size w w1) := hb
  have HF : Hid (IsFl w1 (.slice a F.length c) F ∧ F.map (·.y) = d1) := ⟨hf, hm⟩
  have hl : F.length = 3 := by rw [← List.length_map (f := (·.y)), hm]; rfl
  clear hf hm hb
  rw [hl] at HF ⊢
  clear hl
  go_wp2_with fail
  refine (H2.out w1 B1.out).mono ?_
  rintro e w2 ⟨a2, c2, F2', rfl, -, -, hb⟩
  have B12 : Hid (Below w1.heap.size w1 w2) := hb
  have B2 : Hid (Below w.heap.size w w2) := B1.out.trans (hb.mono B1.out.size)
  clear hb
  go_wp2_with fail
  refine (H3.out w2 B2.out).mono ?_
  rintro e w3 ⟨a3, c3, F3, rfl, -, -, hb⟩
  have B13 : Hid (Below w1.heap.size w1 w3) := B12.out.trans (hb.mono B12.out.size)
  have B3 : Hid (Below w.heap.size w w3) := B2.out.trans (hb.mono B2.out.size)
  clear hb
  go_wp2_with fail
  refine (HS.out _ F w3 B3.out (HF.out.1.below B13.out) HF.out.2).mono ?_
  rintro e w4 ⟨rfl, hb⟩
  have B4 : Hid (Below w.heap.size w w4) := B3.out.trans (hb.mono B3.out.size)
  clear hb
  go_wp2
  go_ret
  exact ⟨rfl, B4.out⟩
end Go.Proofs.YtbekpemidpngaaaGreatDoor
/- Slices of structs that came in, as rows. -/
namespace Go.Proofs.YtbekpemidpngaaaGreatDoor
open Go.ChangeShapes Go.WideShapes Go.ChangeAt Go.WideMaps Go.WideElems Go.RowKit Go.Deep

theorem flatG_len {α : Type} (en : α → List Value) (sz : Nat) (hen : ∀ y, (en y).length = sz) (l : List α) : (l.flatMap en).length = l.length * sz := by
  induction l with
  | nil => simp
  | cons d D ih => rw [List.flatMap_cons, List.length_append, List.length_cons, ih, hen, Nat.succ_mul, Nat.add_comm]
theorem flatG_get {α : Type} (en : α → List Value) (sz : Nat) (hen : ∀ y, (en y).length = sz) : ∀ (l : List α) (k : Nat) (h : k < l.length) (i : Nat), i < sz → (l.flatMap en)[k * sz + i]? = (en l[k])[i]?
  | [], k, h, _, _ => absurd h (by simp)
  | d :: D, 0, _, i, hi => by
    rw [List.flatMap_cons, Nat.zero_mul, Nat.zero_add, List.getElem?_append_left (by rw [hen]; exact hi)]
    rfl
  | d :: D, k + 1, h, i, hi => by
    rw [List.flatMap_cons, List.getElem?_append_right (by rw [hen, Nat.succ_mul]; omega), hen, show (k + 1) * sz + i - sz = k * sz + i by rw [Nat.succ_mul]; omega, flatG_get en sz hen D k (by simpa using h) i hi]
    rfl
theorem addS_lit (b off j : Nat) : (⟨b, off, none⟩ : Addr).add j = ⟨b, off + j, none⟩ := by unfold Addr.add; split <;> simp_all
/-- A slice of structs of 'sz' cells each: read as a row. -/
theorem open_rows {α : Type} [Inhabited α] {H : Type} {enc : TypeId × Value → H} {w : World} {fuel : Nat} {v : Value} {x : DataW H × List MemPlace} (en : α → List Value) (sz bytes : Nat) {tS tE : TypeId}
    (hS : Tryz.prog.underlying tS = some (.slice tE)) (hC : Tryz.prog.cellsOf tE = sz) (hB : Tryz.prog.bytesOf tE = bytes) (hen : ∀ y, (en y).length = sz) (hsz : 0 < sz) (hby : 8 ≤ bytes)
    (op : ∀ (fuel : Nat) (cs : List Value) (y : DataW H × List MemPlace), DataW.trod enc Tryz.prog w 0 (fun _ => true) true fuel tE cs = some y → ∃ z : α, cs = en z)
    (h : DataW.trod enc Tryz.prog w 0 (fun _ => true) true fuel tS [v] = some x) (hz : ∀ n ∈ x.1.weights Tryz.prog tS, n ≤ reachBytes) :
    ∃ l : List α, IsRow w sz v l.length (l.flatMap en) ∧ l.length ≤ 140737488355328 := by
  rcases open_slice hS h with ⟨hv, _⟩ | ⟨a, len, cap, m, n, D, Pl, hv, hb, hl, hm, hmm, rfl, hx⟩
  · simp at hv
    subst hv
    exact ⟨[], ⟨by simp, .inl ⟨rfl, _, _, rfl⟩⟩, by simp⟩
  simp at hv
  subst hv
  simp at hmm
  subst hmm
  have key : ∀ i, i < len → ∃ y : α, w.cells? 0 (a.add (i * sz)) sz = some (en y) := by
    intro i hi
    obtain ⟨cs, hc, ht⟩ := hx i (by omega)
    rw [hC] at hc
    obtain ⟨y, rfl⟩ := op _ _ _ ht
    exact ⟨y, hc⟩
  obtain ⟨X, hX⟩ := choose_lt key
  have hlen : len * bytes ≤ reachBytes := by
    have := hz ((len + (m - len)) * bytes) (by simp only [DataW.weights, hS, hB]; simp)
    exact Nat.le_trans (Nat.mul_le_mul_right _ (by omega)) this
  have hlen8 : len * 8 ≤ reachBytes := Nat.le_trans (Nat.mul_le_mul_left _ hby) hlen
  refine ⟨(List.range len).map X, ⟨flatG_len en sz hen _, ?_⟩, ?_⟩
  · simp only [List.length_map, List.length_range]
    by_cases h0 : len = 0
    · subst h0
      exact .inl ⟨rfl, _, _, rfl⟩
    · right
      obtain ⟨b, off, spot⟩ := a
      have hspot : spot = none := by
        have := (World.cells?_some (hX 0 (by omega))).2.2 0 (by omega)
        obtain ⟨u, hu⟩ : ∃ u, (en (X 0))[0]? = some u := ⟨_, List.getElem?_eq_getElem (by rw [hen]; exact hsz)⟩
        rw [hu, Nat.zero_mul] at this
        simpa [Addr.add] using World.cell?_spot this
      subst hspot
      have hcell : ∀ i (hi : i < len) r, r < sz → w.cell? ⟨b, off + (i * sz + r), none⟩ = (en (X i))[r]? := by
        intro i hi r hr
        have := (World.cells?_some (hX i hi)).2.2 r hr
        rw [addS_lit, addS_lit] at this
        rw [← Nat.add_assoc]
        exact this
      refine ⟨b, off, m, rfl, ?_, hl, hm, ?_⟩
      · have := hcell 0 (by omega) 0 hsz
        obtain ⟨u, hu⟩ : ∃ u, (en (X 0))[0]? = some u := ⟨_, List.getElem?_eq_getElem (by rw [hen]; exact hsz)⟩
        rw [hu] at this
        exact block_lt_of_cell this
      · intro j u hu
        have hj : j < len * sz := by
          have := (List.getElem?_eq_some_iff.1 hu).1
          rw [flatG_len en sz hen] at this
          simpa using this
        have hq : j / sz < len := (Nat.div_lt_iff_lt_mul hsz).2 hj
        have hr : j % sz < sz := Nat.mod_lt _ hsz
        have hjj : j = j / sz * sz + j % sz := by rw [Nat.mul_comm]; exact (Nat.div_add_mod j sz).symm
        have hat := flatG_get en sz hen ((List.range len).map X) (j / sz) (by simpa using hq) (j % sz) hr
        simp only [List.getElem_map, List.getElem_range] at hat
        rw [← hjj] at hat
        rw [hat] at hu
        have := hcell (j / sz) hq (j % sz) hr
        rw [← hjj] at this
        rw [this]; exact hu
  · simp; unfold reachBytes at hlen8; omega
end Go.Proofs.YtbekpemidpngaaaGreatDoor
/- What the listed variables give; and a world that meets the condition. -/
namespace Go.Proofs.YtbekpemidpngaaaGreatDoor.V
open Go.ChangeShapes Go.WideShapes Go.ChangeAt Go.WideMaps Go.WideElems Go.RowKit

theorem own : ownKnob Tryz.prog.godebug = none := by kernel_rfl
theorem laidOut : laidOutB Tryz.prog = true := by kernel_rfl
def laidV : List (String × DataW Unit) := [("math/bits.deBruijn32tab", Rows.laid_math_bits_deBruijn32tab), ("math/bits.deBruijn64tab", Rows.laid_math_bits_deBruijn64tab), ("internal/strconv.uint64pow10", Rows.laid_internal_strconv_uint64pow10), ("unicode/utf8.acceptRanges", Rows.laid_unicode_utf8_acceptRanges), ("strconv.ErrRange", Rows.laid_strconv_ErrRange), ("strconv.ErrSyntax", Rows.laid_strconv_ErrSyntax), ("unicode/utf8.first", Rows.laid_unicode_utf8_first)]
theorem accept_eq : (Rows.laid_unicode_utf8_acceptRanges : DataW Unit) = Lib.acceptData := by kernel_rfl
theorem first_eq : Rows.laid_unicode_utf8_first = Lib.firstData := Pinned.utf8First_eq
def tab64 : List Int := [0, 1, 56, 2, 57, 49, 28, 3, 61, 58, 42, 50, 38, 29, 17, 4, 62, 47, 59, 36, 45, 43, 51, 22, 53, 39, 33, 30, 24, 18, 12, 5, 63, 55, 48, 27, 60, 41, 37, 16, 46, 35, 44, 21, 52, 32, 23, 11, 54, 26, 40, 15, 34, 20, 31, 10, 25, 14, 19, 9, 13, 8, 7, 6]
theorem g64 : Tryz.prog.globalNamed "math/bits.deBruijn64tab" = some 5 := by kernel_rfl
theorem t64 : (Tryz.prog.globals[5]?).map (·.type) = some 258 := by kernel_rfl
theorem ml_of {W : World} (h : W.ShapedOpen Tryz.prog) : ML W :=
  cell_of_shapedOpen_int (P := Tryz.prog) (g := 2) (t := 3) (zero := #[.int .i64 0]) (k := .i64) h (of_decide_eq_true (by kernel_rfl)) (by kernel_rfl) rfl (by kernel_rfl) (by kernel_rfl) Tryz.underlying3
theorem vt_of {W : World} (h : laidMetH Tryz.prog laidV W) (hsh : W.ShapedOpen Tryz.prog) : VT W := by
  rw [MakeChecks.laidMetH_plain _ _ _ (by kernel_rfl)] at h
  have h2 := laidMet.tail h
  have h3 : Lib.TabIs Tryz.prog W "math/bits.deBruijn64tab" .u8 tab64 := Lib.tabIs_of_head g64 t64 Tryz.underlying258 Tryz.underlying5 (by kernel_rfl) (by kernel_rfl) h2
  refine ⟨?_, h3.cell g64 15 (by decide), ml_of hsh⟩
  exact utf8Tabs_of_readsT (U8Types.of196 Tryz.lays196) ⟨by kernel_rfl, by kernel_rfl, by kernel_rfl, by kernel_rfl, by kernel_rfl, by kernel_rfl, by kernel_rfl⟩ (first_eq ▸ Lib.laidMet.reads h (.tail _ (.tail _ (.tail _ (.tail _ (.tail _ (.tail _ (.head _)))))))) (accept_eq ▸ Lib.laidMet.reads h (.tail _ (.tail _ (.tail _ (.head _)))))
theorem all_met (os : Os) (args : Array Value) : laidMetH Tryz.prog laidV ((World.laidAll Tryz.prog os laidV).forCall (fun _ _ => 0) ⟨#[], args, []⟩).memory := by
  rw [MakeChecks.laidMetH_plain _ _ _ (by kernel_rfl)]
  exact laidMet_laidAll _ (by kernel_rfl) (by kernel_rfl)
end Go.Proofs.YtbekpemidpngaaaGreatDoor.V
/- The frame of a law over values: the listed tables and the world's shape; a value opened and shut. -/
namespace Go.Proofs.YtbekpemidpngaaaGreatDoor.V
open Go.ChangeShapes Go.WideShapes Go.ChangeAt Go.WideMaps Go.WideElems Go.RowKit Go.Joins

theorem frame_shaped {H : Type} {enc : TypeId × Value → H} {a : Assume} {C : Checked} {os : Os} {f : FuncId} {fn : Func} {s : ChangeSpec} {conds : List PathCond} {apart fresh handsOn again : Bool} {X : World → Array Value → Prop}
    (hX : ∀ (w w' : World) (args : Array Value), w.heap = w'.heap → X w args → X w' args)
    (own : ownKnob C.prog.godebug = none) (started : os.Started) (noInit : C.prog.inits.idxOf? f = none) (hfn : C.prog.funcs[f]? = some fn)
    (witness : ∃ (w : World) (tape : Tape) (i : Input), w.os = os ∧ (w.forCall tape i).Shaped C.prog ∧ i.vars = [] ∧ Input.okWide C.prog (w.forCall tape i) .any w.heap.size f i ∧
      ((s.pre enc C.prog fn conds apart (w.forCall tape i).memory i.args ∧ X (w.forCall tape i).memory i.args) ∧ sizedMet enc C.prog fn (OpenSpec.ofChange s) apart (w.forCall tape i).memory i.args) ∧ a.holds C.prog (lone (Frame.enter C.prog f i.args .normal) [] (w.forCall tape i)))
    (contract : ∀ (W : World) (base : Nat) (args : Array Value) (ds gs : List (DataW H)) (before : List MemPlace),
      (∀ (j : Nat) t v, fn.params[j]? = some t → args[j]? = some v → Value.okWide C.prog W .any base t v) →
      DataW.Whole enc C.prog fn.params.toList s.vars apart W args.toList ds gs before →
      (DataW.weightsEach C.prog (fn.params.toList ++ s.plain.varTypes C.prog) (ds ++ gs)).all (· ≤ reachBytes) = true → X W args → W.ShapedOpen C.prog →
      Calls C.prog f args W fun e W' => ∃ v, e = .returned v ∧ s.post enc C.prog fn apart fresh handsOn again W args v W') :
    ReturnsInHanded a C os f .any (fun w args => (s.pre enc C.prog fn conds apart w args ∧ X w args) ∧ sizedMet enc C.prog fn (OpenSpec.ofChange s) apart w args) (s.post enc C.prog fn apart fresh handsOn again) := by
  refine returnsInHanded_of_calls own started noInit witness fun w tape i _ hsh _ hok hpre _ => ?_
  obtain ⟨⟨⟨ds, gs, before, hw, _⟩, hx⟩, hz⟩ := hpre
  obtain ⟨_, _, _, fn2, hfn2, _, _, _, _, hval⟩ := hok
  cases Option.some.inj (hfn2.symm.trans hfn)
  have hw2 := DataW.Whole.of_heap (w' := w.forCall tape i) (by rfl) hw
  refine (contract _ w.heap.size i.args ds gs before hval hw2 (hz.weights hw) (hX _ _ _ (by rfl) hx) hsh).mono fun e W' h => ?_
  obtain ⟨v, rfl, hp⟩ := h
  exact ChangeSpec.post_blind hp

end Go.Proofs.YtbekpemidpngaaaGreatDoor.V
/- What the listed variables give to the scanners, and to what shows and writes. -/
namespace Go.Proofs.YtbekpemidpngaaaGreatDoor.V
open Go.ChangeShapes Go.WideShapes Go.ChangeAt Go.WideMaps Go.WideElems Go.RowKit

theorem gES : Tryz.prog.globalNamed "strconv.ErrSyntax" = some 6 := by kernel_rfl
theorem tES : (Tryz.prog.globals[6]?).map (·.type) = some 129 := by kernel_rfl
theorem starES : ("*errors.errorString" : String) = "*" ++ "errors.errorString" := by decide +kernel
theorem rowES (u : TypeId) (h : Tryz.prog.typeName? 3 u = some "*errors.errorString") : u = 267 :=
  typeName_ptr_named (nm := "errors.errorString") (by rw [← starES]; kernel_rfl) (by kernel_rfl) (by decide) u (by rw [← starES]; exact h)
theorem es_of {W : World} (h : laidMetH Tryz.prog laidV W) : ES W := by
  rw [MakeChecks.laidMetH_plain _ _ _ (by kernel_rfl)] at h
  have h5 := laidMet.tail (laidMet.tail (laidMet.tail (laidMet.tail (laidMet.tail h))))
  obtain ⟨a, s, hv, -, -, -⟩ := laid_sentinel h5 gES tES Tryz.underlying129 rowES Tryz.underlying267 Tryz.underlying269 rfl rfl Tryz.underlying9 (by kernel_rfl) (by kernel_rfl)
  refine ⟨.iface 267 (.pointer (some a)), ?_, .inr ⟨_, _, rfl⟩⟩
  simpa using World.var?_cell gES hv 0
theorem ve_of {W : World} (h : laidMetH Tryz.prog laidV W) (hsh : W.ShapedOpen Tryz.prog) : VE W := by
  have hv := vt_of h hsh
  exact ⟨hv.u, hv.t, hv.m, es_of h⟩
theorem t10 : (Tryz.prog.globals[3]?).map (·.type) = some 242 := by kernel_rfl
theorem p10_of {W : World} (h : laidMetH Tryz.prog laidV W) : P10 W := by
  rw [MakeChecks.laidMetH_plain _ _ _ (by kernel_rfl)] at h
  exact Lib.tabIs_of_head g10 t10 Tryz.underlying242 Tryz.underlying184 (by kernel_rfl) (by kernel_rfl) (laidMet.tail (laidMet.tail h))
end Go.Proofs.YtbekpemidpngaaaGreatDoor.V
/- schema.Merge where it tells an error: its walk. -/
namespace Go.Proofs.YtbekpemidpngaaaGreatDoor
open Go.RowKit

end Go.Proofs.YtbekpemidpngaaaGreatDoor
/- The law's awake: its walk. -/
namespace Go.Proofs.YtbekpemidpngaaaGreatDoor
open Go.RowKit

end Go.Proofs.YtbekpemidpngaaaGreatDoor
/- The law's Few and FewAttrs: walks. -/
namespace Go.Proofs.YtbekpemidpngaaaGreatDoor
open Go.RowKit

def okW (l : List Fd) (k : Nat) (h : k < l.length) : Prop := k ≤ 40 ∧ l[k].n.size ≤ 200
instance (l : List Fd) (k : Nat) (h : k < l.length) : Decidable (okW l k h) := by unfold okW; exact inferInstance
def fewF (l : List Fd) : Bool := decide (∀ (k : Nat) (h : k < l.length), okW l k h)
theorem fewF_no {l : List Fd} {k : Nat} (h : k < l.length) (hn : ¬ okW l k h) : fewF l = false := decide_eq_false fun hh => hn (hh k h)
def okWA (l : List At) (k : Nat) (h : k < l.length) : Prop := k ≤ 40 ∧ l[k].n.size ≤ 200 ∧ l[k].s.size ≤ 500
instance (l : List At) (k : Nat) (h : k < l.length) : Decidable (okWA l k h) := by unfold okWA; exact inferInstance
set_option maxRecDepth 100000 in
set_option maxHeartbeats 2000000 in
theorem fewF_any (v : Value) (l : List Fd) (w : World) (hr : IsRow w 3 v l.length (fCells l)) (hl : l.length ≤ 140737488355328) :
    Calls Tryz.prog 8 #[v] w fun e w' => e = .returned (.bool (fewF l)) ∧ w' = w := by
  obtain ⟨a0, cap0, rfl⟩ := hr.form
  have HR : Hid (IsRow w 3 (.slice a0 l.length cap0) l.length (fCells l)) := hr
  clear hr
  go_enter Tryz.func8, Tryz.ntmps8
  go_wp2_with fail
  go_loopw [2, 3] (fun r i wr => r = .bool false ∧ ∃ k : Nat, k ≤ l.length ∧ k ≤ 41 ∧ i = .int .i64 (k : Int) ∧ Hid (∀ (j : Nat) (h : j < l.length), j < k → okW l j h) ∧ w = wr) (fun _ i _ => l.length - (intOf i).toNat)
  case atStart => exact ⟨rfl, 0, Nat.zero_le _, by omega, rfl, fun j h hj => absurd hj (Nat.not_lt_zero _), rfl⟩
  case round =>
    obtain ⟨rfl, k, hk, hk41, rfl, HO, rfl⟩ := hrel
    by_cases hlk : k < l.length
    · have dk : decide ((k : Int) < l.length) = true := by simp; omega
      obtain ⟨b, off, rfl, hlt, hcap, hc⟩ := f_at HR.out (by omega)
      obtain ⟨ck0, -, -⟩ := hc k hlk
      have HN : Hid (¬ okW l k hlk → fewF l = false) := fewF_no hlk
      by_cases h40 : k ≤ 40
      · have d40 : decide ((40 : Int) < (k : Int)) = false := by simp; omega
        by_cases h200 : l[k].n.size ≤ 200
        · have d200 : decide ((200 : Int) < (l[k].n.size : Int)) = false := by simp; omega
          have HO2 : Hid (∀ (j : Nat) (h : j < l.length), j < k + 1 → okW l j h) := fun j h hj => by
            by_cases e : j = k
            · subst e; exact ⟨h40, h200⟩
            · exact HO.out j h (by omega)
          generalize l[k].n = nm at *
          clear hc HO h200 HN
          go_wp2
          go_roundw
          case rel => exact ⟨rfl, k + 1, by omega, by omega, by simp, HO2, trivial⟩
          case measure => simp [intOf]; omega
        · have d200 : decide ((200 : Int) < (l[k].n.size : Int)) = true := by simp; omega
          have HNn : Hid (fewF l = false) := HN.out fun h => h200 h.2
          generalize l[k].n = nm at *
          clear hc HO h200 HN
          go_wp2
          go_ret
          exact ⟨by rw [HNn.out]; rfl, rfl⟩
      · have d40 : decide ((40 : Int) < (k : Int)) = true := by simp; omega
        have HNn : Hid (fewF l = false) := HN.out fun h => h40 h.1
        clear hc HO HN
        go_wp2
        go_ret
        exact ⟨by rw [HNn.out]; rfl, rfl⟩
    · have hk' : k = l.length := by omega
      subst hk'
      have dk : decide ((l.length : Int) < l.length) = false := by simp
      have HY : Hid (fewF l = true) := decide_eq_true fun j hj => HO.out j hj hj
      clear HO
      go_wp2
      go_ret
      exact ⟨by rw [HY.out]; rfl, rfl⟩
end Go.Proofs.YtbekpemidpngaaaGreatDoor
/- The frame of a law over filters: law03's seven listed variables; predicates, attributes that came in. -/
namespace Go.Proofs.YtbekpemidpngaaaGreatDoor
open Go.ChangeShapes Go.WideShapes Go.ChangeAt Go.WideMaps Go.WideElems Go.RowKit Go.Deep

theorem own : ownKnob Tryz.prog.godebug = none := by kernel_rfl
theorem laidOut : laidOutB Tryz.prog = true := by kernel_rfl
theorem cI : Tryz.prog.cellsOf 3 = 1 := by kernel_rfl
theorem cS : Tryz.prog.cellsOf 9 = 1 := by kernel_rfl
theorem listS3 {α : Type} {l : List α} (h : l.length = 3) : ∃ c0 c1 c2, l = [c0, c1, c2] := by
  match l, h with
  | [c0, c1, c2], _ => exact ⟨c0, c1, c2, rfl⟩
theorem wAll_mem {H : Type} {P : Program} {e : TypeId} : ∀ {l : List (DataW H)} {d : DataW H}, d ∈ l → ∀ n ∈ d.weights P e, n ∈ DataW.weightsAll P e l
  | d' :: r, d, hd, n, hn => by
    simp only [DataW.weightsAll, List.mem_append]
    rcases List.mem_cons.1 hd with rfl | h
    · exact Or.inl hn
    · exact Or.inr (wAll_mem h n hn)
/-- A slice of structs of 'sz' cells each: read as a row. -/
theorem open_rowsP {α : Type} [Inhabited α] {H : Type} {enc : TypeId × Value → H} {w : World} {fuel : Nat} {v : Value} {x : DataW H × List MemPlace} (en : α → List Value) (sz bytes : Nat) {tS tE : TypeId}
    (hS : Tryz.prog.underlying tS = some (.slice tE)) (hC : Tryz.prog.cellsOf tE = sz) (hB : Tryz.prog.bytesOf tE = bytes) (hen : ∀ y, (en y).length = sz) (hsz : 0 < sz) (hby : 8 ≤ bytes)
    (Pz : α → Prop)
    (op : ∀ (fuel : Nat) (cs : List Value) (y : DataW H × List MemPlace), DataW.trod enc Tryz.prog w 0 (fun _ => true) true fuel tE cs = some y → (∀ n ∈ y.1.weights Tryz.prog tE, n ≤ reachBytes) → ∃ z : α, cs = en z ∧ Pz z)
    (h : DataW.trod enc Tryz.prog w 0 (fun _ => true) true fuel tS [v] = some x) (hz : ∀ n ∈ x.1.weights Tryz.prog tS, n ≤ reachBytes) :
    ∃ l : List α, IsRow w sz v l.length (l.flatMap en) ∧ l.length ≤ 140737488355328 ∧ ∀ z ∈ l, Pz z := by
  rcases open_slice hS h with ⟨hv, _⟩ | ⟨a, len, cap, m, n, D, Pl, hv, hb, hl, hm, hmm, rfl, hx⟩
  · simp at hv
    subst hv
    exact ⟨[], ⟨by simp, .inl ⟨rfl, _, _, rfl⟩⟩, by simp, fun z hz => nomatch hz⟩
  simp at hv
  subst hv
  simp at hmm
  subst hmm
  have key : ∀ i, i < len → ∃ y : α, w.cells? 0 (a.add (i * sz)) sz = some (en y) ∧ Pz y := by
    intro i hi
    obtain ⟨cs, hc, ht⟩ := hx i (by omega)
    rw [hC] at hc
    obtain ⟨y, rfl, hP⟩ := op _ _ _ ht (fun n hn => hz n (by
      simp only [DataW.weights, hS, List.mem_cons, List.mem_append]
      exact .inr (.inl (wAll_mem (List.mem_map.2 ⟨i, List.mem_range.2 hi, rfl⟩) n hn))))
    exact ⟨y, hc, hP⟩
  obtain ⟨X, hXP⟩ := choose_lt key
  have hX : ∀ i, i < len → w.cells? 0 (a.add (i * sz)) sz = some (en (X i)) := fun i hi => (hXP i hi).1
  have hlen : len * bytes ≤ reachBytes := by
    have := hz ((len + (m - len)) * bytes) (by simp only [DataW.weights, hS, hB]; simp)
    exact Nat.le_trans (Nat.mul_le_mul_right _ (by omega)) this
  have hlen8 : len * 8 ≤ reachBytes := Nat.le_trans (Nat.mul_le_mul_left _ hby) hlen
  refine ⟨(List.range len).map X, ⟨flatG_len en sz hen _, ?_⟩, ?_, ?_⟩
  · simp only [List.length_map, List.length_range]
    by_cases h0 : len = 0
    · subst h0
      exact .inl ⟨rfl, _, _, rfl⟩
    · right
      obtain ⟨b, off, spot⟩ := a
      have hspot : spot = none := by
        have := (World.cells?_some (hX 0 (by omega))).2.2 0 (by omega)
        obtain ⟨u, hu⟩ : ∃ u, (en (X 0))[0]? = some u := ⟨_, List.getElem?_eq_getElem (by rw [hen]; exact hsz)⟩
        rw [hu, Nat.zero_mul] at this
        simpa [Addr.add] using World.cell?_spot this
      subst hspot
      have hcell : ∀ i (hi : i < len) r, r < sz → w.cell? ⟨b, off + (i * sz + r), none⟩ = (en (X i))[r]? := by
        intro i hi r hr
        have := (World.cells?_some (hX i hi)).2.2 r hr
        rw [addS_lit, addS_lit] at this
        rw [← Nat.add_assoc]
        exact this
      refine ⟨b, off, m, rfl, ?_, hl, hm, ?_⟩
      · have := hcell 0 (by omega) 0 hsz
        obtain ⟨u, hu⟩ : ∃ u, (en (X 0))[0]? = some u := ⟨_, List.getElem?_eq_getElem (by rw [hen]; exact hsz)⟩
        rw [hu] at this
        exact block_lt_of_cell this
      · intro j u hu
        have hj : j < len * sz := by
          have := (List.getElem?_eq_some_iff.1 hu).1
          rw [flatG_len en sz hen] at this
          simpa using this
        have hq : j / sz < len := (Nat.div_lt_iff_lt_mul hsz).2 hj
        have hr : j % sz < sz := Nat.mod_lt _ hsz
        have hjj : j = j / sz * sz + j % sz := by rw [Nat.mul_comm]; exact (Nat.div_add_mod j sz).symm
        have hat := flatG_get en sz hen ((List.range len).map X) (j / sz) (by simpa using hq) (j % sz) hr
        simp only [List.getElem_map, List.getElem_range] at hat
        rw [← hjj] at hat
        rw [hat] at hu
        have := hcell (j / sz) hq (j % sz) hr
        rw [← hjj] at this
        rw [this]; exact hu
  · simp; unfold reachBytes at hlen8; omega
  · intro z hz
    obtain ⟨i, hi, rfl⟩ := List.mem_map.1 hz
    exact (hXP i (List.mem_range.1 hi)).2
theorem cV : Tryz.prog.cellsOf 54 = 3 := by kernel_rfl
theorem open_vv {H : Type} {enc : TypeId × Value → H} {W : World} (fuel : Nat) (cs : List Value) (x : DataW H × List MemPlace) (h : DataW.trod enc Tryz.prog W 0 (fun _ => true) true fuel 54 cs = some x) : ∃ (k n : Int) (s : ByteArray), cs = [.int .i64 k, .int .i64 n, .string s] := by
  obtain ⟨xs, n, _, rfl, hl, hlen, hf⟩ := DataW.trod_struct Tryz.underlying54 h
  rw [cV] at hl
  obtain ⟨c0, c1, c2, rfl⟩ := listS3 hl
  obtain ⟨y0, y1, y2, rfl⟩ := listS3 (l := xs) hlen
  have i0 := hf 0 _ rfl
  have i1 := hf 1 _ rfl
  have i2 := hf 2 _ rfl
  simp [cI, cS] at i0 i1 i2
  obtain ⟨n0, e0, -, -⟩ := DataW.trod_int Tryz.underlying3 i0
  obtain ⟨n1, e1, -, -⟩ := DataW.trod_int Tryz.underlying3 i1
  obtain ⟨s, e2, -, -⟩ := DataW.trod_string Tryz.underlying9 i2
  simp at e0 e1 e2
  subst e0 e1 e2
  exact ⟨n0, n1, s, rfl⟩
instance : Inhabited At := ⟨⟨⟨#[]⟩, 0, 0, ⟨#[]⟩⟩⟩
theorem w8_of {W : World} (h : laidMetH Tryz.prog V.laidV W) (hsh : W.ShapedOpen Tryz.prog) : W8 W := ⟨V.ve_of h hsh, V.p10_of h⟩
theorem cPr : Tryz.prog.cellsOf 45 = 3 := by kernel_rfl
theorem cSlV : Tryz.prog.cellsOf 43 = 1 := by kernel_rfl
instance : Inhabited PR := ⟨⟨⟨⟨#[]⟩, 0, []⟩, none, 0⟩⟩
theorem open_it {H : Type} {enc : TypeId × Value → H} {W : World} (fuel : Nat) (cs : List Value) (x : DataW H × List MemPlace) (h : DataW.trod enc Tryz.prog W 0 (fun _ => true) true fuel 54 cs = some x) : ∃ z : It, cs = It.cells z := by
  obtain ⟨k, n, s, rfl⟩ := open_vv _ _ _ h
  exact ⟨⟨k, n, s⟩, rfl⟩
theorem open_its {H : Type} {enc : TypeId × Value → H} {w : World} {fuel : Nat} {v : Value} {x : DataW H × List MemPlace} (h : DataW.trod enc Tryz.prog w 0 (fun _ => true) true fuel 43 [v] = some x) (hz : ∀ n ∈ x.1.weights Tryz.prog 43, n ≤ reachBytes) :
    ∃ l : List It, IsRow w 3 v l.length (itCells l) ∧ l.length ≤ 140737488355328 :=
  open_rows It.cells 3 32 Tryz.underlying43 cV (by kernel_rfl) (fun _ => rfl) (by omega) (by omega) open_it h hz
theorem open_pred {H : Type} {enc : TypeId × Value → H} {W : World} (fuel : Nat) (cs : List Value) (x : DataW H × List MemPlace) (h : DataW.trod enc Tryz.prog W 0 (fun _ => true) true fuel 45 cs = some x) (hz : ∀ n ∈ x.1.weights Tryz.prog 45, n ≤ reachBytes) :
    ∃ z : PR, cs = enP z ∧ (IsRow W 3 z.v z.y.l.length (itCells z.y.l) ∧ z.y.l.length ≤ 140737488355328) := by
  obtain ⟨xs, n, _, rfl, hl, hlen, hf⟩ := DataW.trod_struct Tryz.underlying45 h
  rw [cPr] at hl
  obtain ⟨c0, c1, c2, rfl⟩ := listS3 hl
  obtain ⟨y0, y1, y2, rfl⟩ := listS3 (l := xs) hlen
  have i0 := hf 0 _ rfl
  have i1 := hf 1 _ rfl
  have i2 := hf 2 _ rfl
  simp [cI, cS, cSlV] at i0 i1 i2
  obtain ⟨s, e0, -, -⟩ := DataW.trod_string Tryz.underlying9 i0
  obtain ⟨n1, e1, -, -⟩ := DataW.trod_int Tryz.underlying3 i1
  simp at e0 e1
  subst e0 e1
  obtain ⟨l, hr, hb⟩ := open_its i2 (fun m hm => hz m (by
    simp only [DataW.weights, Tryz.underlying45, List.map_cons, List.map_nil, DataW.weightsEach, List.mem_append]
    exact .inr (.inr (.inl hm))))
  obtain ⟨a, c, rfl⟩ := hr.form
  exact ⟨⟨⟨s, n1, l⟩, a, c⟩, rfl, hr, hb⟩
set_option maxRecDepth 100000 in
theorem open_preds {H : Type} {enc : TypeId × Value → H} {w : World} {fuel : Nat} {v : Value} {x : DataW H × List MemPlace} (h : DataW.trod enc Tryz.prog w 0 (fun _ => true) true fuel 22 [v] = some x) (hz : ∀ n ∈ x.1.weights Tryz.prog 22, n ≤ reachBytes) :
    ∃ F : List PR, IsFl w v F ∧ F.length ≤ 140737488355328 ∧ ∀ z ∈ F, z.y.l.length ≤ 140737488355328 := by
  obtain ⟨l, h1, h2, h3⟩ := open_rowsP enP 3 48 Tryz.underlying22 cPr (by kernel_rfl) (fun _ => rfl) (by omega) (by omega) (fun z => IsRow w 3 z.v z.y.l.length (itCells z.y.l) ∧ z.y.l.length ≤ 140737488355328) open_pred h hz
  exact ⟨l, ⟨h1, fun z hz => (h3 z hz).1⟩, h2, fun z hz => (h3 z hz).2⟩
end Go.Proofs.YtbekpemidpngaaaGreatDoor
/- The law's Refs; the reference's Same of fields: walks. -/
namespace Go.Proofs.YtbekpemidpngaaaGreatDoor
open Go.RowKit

/-- A row of fields, handed back. -/
def RfPost (l : List Fd) (w : World) (e : Ending) (w' : World) : Prop := ∃ v, e = .returned v ∧ IsRow w' 3 v l.length (fCells l) ∧ Below w.heap.size w w'
theorem info_rf : (Tryz.prog.info? 72).map (fun i => (i.zero, i.size, i.bytes)) = some (some (.agg #[.string ⟨#[]⟩, .int .i64 0, .bool false]), 3, 32) := by kernel_rfl
theorem f_take (l : List Fd) (k : Nat) (hk : k < l.length) : fCells (l.take (k + 1)) = fCells (l.take k) ++ enF l[k] := by
  rw [List.take_succ_eq_append_getElem hk, fCells, List.flatMap_append]
  simp [fCells]
set_option maxRecDepth 100000 in
set_option maxHeartbeats 2000000 in
theorem refs_any (v : Value) (l : List Fd) (w : World) (hr : IsRow w 3 v l.length (fCells l)) (hl : l.length ≤ 1000000) :
    Calls Tryz.prog 15 #[v] w fun e w' => RfPost l w e w' := by
  obtain ⟨a0, cap0, rfl⟩ := hr.form
  have HR : Hid (IsRow w 3 (.slice a0 l.length cap0) l.length (fCells l)) := hr
  clear hr
  obtain ⟨i0, hi0, hz0, hz1, hz2⟩ := info_parts info_rf
  go_enter Tryz.func15, Tryz.ntmps15
  go_wp2_with fail
  go_loopw [3, 4] (fun r i wr => ∃ k : Nat, k ≤ l.length ∧ i = .int .i64 (k : Int) ∧ wr.ownsRow w.heap.size 72 3 r k (fCells (l.take k)) ∧ Below w.heap.size w wr) (fun _ i _ => l.length - (intOf i).toNat)
  case atStart => exact ⟨0, Nat.zero_le _, rfl, World.ownsRow_nil _ _ _ _, Below.refl _ _⟩
  case round =>
    obtain ⟨k, hk, rfl, hown, hB⟩ := hrel
    have hsz := hB.size
    by_cases hlk : k < l.length
    · have dk : decide ((k : Int) < l.length) = true := by simp; omega
      obtain ⟨b, off, rfl, hlt, hcap, hc⟩ := f_at (HR.out.below hB) (by omega)
      obtain ⟨ck0, ck1, ck2⟩ := hc k hlk
      have HTh : Hid (fCells (l.take (k + 1)) = fCells (l.take k) ++ enF l[k]) := f_take l k hlk
      have HO : Hid (wr.ownsRow w.heap.size 72 3 u3 k (fCells (l.take k))) := hown
      generalize l[k]'hlk = x at *
      obtain ⟨fn, fk, fm⟩ := x
      clear hc hown
      go_wp2_with (at_builtin; go_loud (refine wpl_appE wr rfl (.tmp 11) (.tmp 16) 33 72 rfl i0 _ 3 32 Tryz.underlying33 hi0 hz0 hz1 hz2 rfl (by decide) w.heap.size u3 k _ rfl HO.out [.string fn, .int .i64 fk, .bool fm] rfl _ rfl rfl (by intro u hu; simp at hu; rcases hu with rfl | rfl | rfl <;> rfl) (by omega) (by unfold maxLen; omega) (by omega) ?_); intro v4 w4 hown4 hb4)
      have HO4 : Hid (w4.ownsRow w.heap.size 72 3 v4 (k + 1) (fCells (l.take (k + 1)))) := by show World.ownsRow _ _ _ _ _ _ _; rw [HTh.out]; exact hown4
      have HB4 : Hid (Below w.heap.size w w4) := hB.trans hb4
      clear hown4 hb4 HTh HO hB
      go_wp2
      go_roundw
      case rel => exact ⟨k + 1, by omega, by simp, HO4.out, HB4.out⟩
      case measure => simp [intOf]; omega
    · have hk' : k = l.length := by omega
      subst hk'
      have dk : decide ((l.length : Int) < l.length) = false := by simp
      rw [List.take_of_length_le (Nat.le_refl _)] at hown
      have HX : Hid (IsRow wr 3 u3 l.length (fCells l) ∧ Below w.heap.size w wr) := ⟨IsRow.own hown, hB⟩
      clear hown hB
      go_wp2
      go_ret
      exact ⟨_, rfl, HX.out.1, HX.out.2⟩
end Go.Proofs.YtbekpemidpngaaaGreatDoor
