/- The reference's Hops: its walk. -/
import Derived.Test.YthbhgblgacoklaaHPt
namespace Go.Proofs.Ythbhgblgacoklaa
open Go.RowKit

/-- Has a hop packets that can be taken? -/
def hpB (L : List Pk) (A : List (Int × Int)) (a b : Int) : Bool := decide (0 < (plc L a b L.length).length) && !cutA A a b
/-- Of a node's hops those to nodes below b. -/
def hpRow (L : List Pk) (A : List (Int × Int)) (a : Nat) : Nat → List (Int × Int)
  | 0 => []
  | b + 1 => hpRow L A a b ++ if b = 0 then [] else if hpB L A a b = true then [((a : Int), (b : Int))] else []
/-- The hops of nodes below a. -/
def hpAll (L : List Pk) (A : List (Int × Int)) : Nat → List (Int × Int)
  | 0 => []
  | a + 1 => hpAll L A a ++ if a = 0 then [] else hpRow L A a 16
theorem hpRow_len (L : List Pk) (A : List (Int × Int)) (a : Nat) : ∀ b, (hpRow L A a b).length ≤ b
  | 0 => Nat.le_refl _
  | b + 1 => by
    have := hpRow_len L A a b
    unfold hpRow
    rw [List.length_append]
    split
    · simp; omega
    · split <;> simp <;> omega
theorem hpAll_len (L : List Pk) (A : List (Int × Int)) : ∀ a, (hpAll L A a).length ≤ a * 16
  | 0 => Nat.le_refl _
  | a + 1 => by
    have := hpAll_len L A a
    have h2 := hpRow_len L A a 16
    unfold hpAll
    rw [List.length_append]
    split
    · simp; omega
    · omega
theorem hpRow_one (L : List Pk) (A : List (Int × Int)) (a : Nat) : hpRow L A a 1 = [] := rfl
theorem hpAll_one (L : List Pk) (A : List (Int × Int)) : hpAll L A 1 = [] := rfl
theorem hpAll_next {L : List Pk} {A : List (Int × Int)} {a : Nat} (h : 1 ≤ a) : hpAll L A (a + 1) = hpAll L A a ++ hpRow L A a 16 := by
  show hpAll L A a ++ (if a = 0 then [] else hpRow L A a 16) = _
  rw [if_neg (by omega)]
theorem hpRow_yes {L : List Pk} {A : List (Int × Int)} {a b : Nat} (h : 1 ≤ b) (hb : hpB L A a b = true) : hpRow L A a (b + 1) = hpRow L A a b ++ [((a : Int), (b : Int))] := by
  show hpRow L A a b ++ (if b = 0 then [] else if hpB L A a b = true then [((a : Int), (b : Int))] else []) = _
  rw [if_neg (by omega), if_pos hb]
theorem hpRow_no {L : List Pk} {A : List (Int × Int)} {a b : Nat} (hb : hpB L A a b = false) : hpRow L A a (b + 1) = hpRow L A a b := by
  show hpRow L A a b ++ (if b = 0 then [] else if hpB L A a b = true then [((a : Int), (b : Int))] else []) = _
  rw [hb]
  simp
def HrPost (l : List (Int × Int)) (w : World) (e : Ending) (w' : World) : Prop := ∃ v, e = .returned v ∧ IsRow w' 2 v l.length (h2V l) ∧ Below w.heap.size w w'
set_option maxRecDepth 100000 in
set_option maxHeartbeats 8000000 in
theorem refHops_any (v u : Value) (L : List Pk) (A : List (Int × Int)) (w : World) (hr : IsRow w 7 v L.length (pCells L)) (hl : L.length ≤ 100000) (hq : IsRow w 2 u A.length (h2V A)) (hal : A.length ≤ 100000) :
    Calls Try.prog 33 #[.agg #[v, u]] w fun e w' => HrPost (hpAll L A 16) w e w' := by
  obtain ⟨a0, cap0, rfl⟩ := hr.form
  obtain ⟨a1, cap1, rfl⟩ := hq.form
  obtain ⟨i0, hi0, hz0, hz1, hz2⟩ := info_parts info_rh
  obtain ⟨W0, hW0⟩ : ∃ W0, W0 = w.alloc (.cells #[.slice a0 L.length cap0, .slice a1 A.length cap1] 28) := ⟨_, rfl⟩
  have b0 : Below w.heap.size w W0 := by rw [hW0]; exact al_b w _
  have hn1 : w.heap.size < W0.heap.size := by rw [hW0]; simp
  have g0 : W0.cell? ⟨w.heap.size, 0, none⟩ = some (.slice a0 L.length cap0) := by rw [hW0]; simp
  have g1 : W0.cell? ⟨w.heap.size, 1, none⟩ = some (.slice a1 A.length cap1) := by rw [hW0]; simp
  have HG : Hid (∀ w', Below W0.heap.size W0 w' → w'.cell? ⟨w.heap.size, 0, none⟩ = some (.slice a0 L.length cap0) ∧ w'.cell? ⟨w.heap.size, 1, none⟩ = some (.slice a1 A.length cap1) ∧ Below w.heap.size w w') := fun w' h =>
    ⟨(h.cell (p := ⟨w.heap.size, 0, none⟩) hn1).trans g0, (h.cell (p := ⟨w.heap.size, 1, none⟩) hn1).trans g1, b0.trans (h.mono b0.size)⟩
  have HPl : Hid (∀ f t w', Below w.heap.size w w' → Calls Try.prog 12 #[.agg #[.slice a0 L.length cap0, .slice a1 A.length cap1], hV f t] w' fun e w'' => PlPost (plc L f t L.length) w' e w'') := fun f t w' h => places_any _ _ L f t w' (hr.below h) hl
  have HCu : Hid (∀ f t w', Below w.heap.size w w' → Calls Try.prog 17 #[.agg #[.slice a0 L.length cap0, .slice a1 A.length cap1], hV f t] w' fun e w'' => e = .returned (.bool (cutA A f t)) ∧ Below w'.heap.size w' w'') := fun f t w' h => refCut_any _ _ A f t w' (hq.below h) hal
  clear g0 g1 b0 hr hq
  go_enter Try.func33, Try.ntmps33
  go_wp2_with fail
  rw [← hW0]
  clear hW0
  go_loopw [3, 4, 5, 6] (fun o i _ _ wr => ∃ a : Nat, 1 ≤ a ∧ a ≤ 16 ∧ i = .int .i64 (a : Int) ∧ wr.ownsRow W0.heap.size 40 2 o (hpAll L A a).length (h2V (hpAll L A a)) ∧ Below W0.heap.size W0 wr) (fun _ i _ _ _ => 16 - (intOf i).toNat)
  case atStart => exact ⟨1, by omega, by omega, rfl, World.ownsRow_nil _ _ _ _, Below.refl _ _⟩
  case round =>
    obtain ⟨a, ha1, ha2, rfl, hown, hB⟩ := hrel
    by_cases hla : a ≤ 15
    · have da : decide ((a : Int) ≤ 15) = true := by rw [decide_eq_true_eq]; omega
      have da2 : (a : Int) ≤ 15 := by omega
      have HO : Hid _ := hown
      have HB : Hid _ := hB
      have HN : Hid (hpAll L A (a + 1) = hpAll L A a ++ hpRow L A a 16) := hpAll_next ha1
      have hAl := hpAll_len L A a
      generalize hM : hpAll L A a = M at *
      have hAm : M.length ≤ 240 := by omega
      clear hown hB hM hAl
      go_wp2_with fail
      go_loopw [3, 5, 6] (fun o i _ wr => ∃ b : Nat, 1 ≤ b ∧ b ≤ 16 ∧ i = .int .i64 (b : Int) ∧ wr.ownsRow W0.heap.size 40 2 o (M ++ hpRow L A a b).length (h2V (M ++ hpRow L A a b)) ∧ Below W0.heap.size W0 wr) (fun _ i _ _ => 16 - (intOf i).toNat)
      case atStart => exact ⟨1, by omega, by omega, rfl, by rw [hpRow_one, List.append_nil]; exact HO.out, HB.out⟩
      case round =>
        clear HO HB
        obtain ⟨b, hb1, hb2, rfl, hown, hB⟩ := hrel
        have hsz := hB.size
        obtain ⟨g0, g1, hbw⟩ := HG.out wr hB
        by_cases hlb : b ≤ 15
        · have hA := al_b wr (.cells #[.int .i64 (a : Int), .int .i64 (b : Int)] 40)
          have HPb : Hid (Calls Try.prog 12 #[.agg #[.slice a0 L.length cap0, .slice a1 A.length cap1], hV (a : Int) (b : Int)] (wr.alloc (.cells #[.int .i64 (a : Int), .int .i64 (b : Int)] 40)) fun e w'' => ∃ v, e = .returned v ∧ IsRow w'' 1 v (plc L (a : Int) (b : Int) L.length).length (nCells (plc L (a : Int) (b : Int) L.length)) ∧ Below (wr.alloc (.cells #[.int .i64 (a : Int), .int .i64 (b : Int)] 40)).heap.size (wr.alloc (.cells #[.int .i64 (a : Int), .int .i64 (b : Int)] 40)) w'') := HPl.out a b _ (hbw.trans (hA.mono hbw.size))
          have g0' := (hA.cell (p := ⟨w.heap.size, 0, none⟩) (by show w.heap.size < _; omega)).trans g0
          have g1' := (hA.cell (p := ⟨w.heap.size, 1, none⟩) (by show w.heap.size < _; omega)).trans g1
          have HO : Hid (wr.ownsRow W0.heap.size 40 2 u3 (M ++ hpRow L A a b).length (h2V (M ++ hpRow L A a b))) := hown
          have HB : Hid (Below W0.heap.size W0 wr) := hB
          have hkk : ∀ w', Below (wr.alloc (.cells #[.int .i64 (a : Int), .int .i64 (b : Int)] 40)).heap.size (wr.alloc (.cells #[.int .i64 (a : Int), .int .i64 (b : Int)] 40)) w' → w'.cell? ⟨wr.heap.size, 0, none⟩ = some (.int .i64 (a : Int)) ∧ w'.cell? ⟨wr.heap.size, 1, none⟩ = some (.int .i64 (b : Int)) ∧ w'.cell? ⟨w.heap.size, 0, none⟩ = some (.slice a0 L.length cap0) ∧ w'.cell? ⟨w.heap.size, 1, none⟩ = some (.slice a1 A.length cap1) ∧ Below w.heap.size w w' ∧ Below W0.heap.size W0 w' ∧ w'.ownsRow W0.heap.size 40 2 u3 (M ++ hpRow L A a b).length (h2V (M ++ hpRow L A a b)) := fun w' h => by
            have h1 := hA.trans (h.mono (by simp))
            have h2 := hB.trans (h1.mono hsz)
            obtain ⟨y0, y1, y2⟩ := HG.out w' h2
            exact ⟨(h.cell (p := ⟨wr.heap.size, 0, none⟩) (by simp)).trans (by simp), (h.cell (p := ⟨wr.heap.size, 1, none⟩) (by simp)).trans (by simp), y0, y1, y2, h2, hown.kept (row := none) ⟨h1.os, h1.tape, h1.output, h1.size, fun k hk _ => h1.block k hk⟩ (by cases hv : u3.ownBlock <;> simp)⟩
          have HK : Hid _ := hkk
          have hrl := hpRow_len L A a b
          have hml : (M ++ hpRow L A a b).length ≤ 256 := by rw [List.length_append]; omega
          have HY : Hid (hpB L A a b = true → hpRow L A a (b + 1) = hpRow L A a b ++ [((a : Int), (b : Int))]) := hpRow_yes hb1
          have HN2 : Hid (hpB L A a b = false → hpRow L A a (b + 1) = hpRow L A a b) := hpRow_no
          have HQ : Hid (hpB L A a b = (decide (0 < (plc L a b L.length).length) && !cutA A a b)) := rfl
          have HCb : Hid (∀ w', Below w.heap.size w w' → Calls Try.prog 17 #[.agg #[.slice a0 L.length cap0, .slice a1 A.length cap1], hV a b] w' fun e w'' => e = .returned (.bool (cutA A a b)) ∧ Below w'.heap.size w' w'') := fun w' h => HCu.out a b w' h
          have HBA : Hid (∀ w' w'', Below (wr.alloc (.cells #[.int .i64 (a : Int), .int .i64 (b : Int)] 40)).heap.size (wr.alloc (.cells #[.int .i64 (a : Int), .int .i64 (b : Int)] 40)) w' → Below w'.heap.size w' w'' → Below (wr.alloc (.cells #[.int .i64 (a : Int), .int .i64 (b : Int)] 40)).heap.size (wr.alloc (.cells #[.int .i64 (a : Int), .int .i64 (b : Int)] 40)) w'') := fun w' w'' h h' => h.trans (h'.mono h.size)
          clear hown hB hbw hA hkk g0 g1 HB HO hrl HCu
          generalize plc L (a : Int) (b : Int) L.length = PP at *
          by_cases hp : 0 < PP.length
          · cases hcc : cutA A (a : Int) (b : Int) with
            | true =>
              have HT : Hid (hpRow L A a (b + 1) = hpRow L A a b) := HN2.out (by rw [HQ.out, hcc]; simp)
              rw [hcc] at HCb
              clear hcc HQ HY HN2
              go_wp2_with fail
              refine HPb.out.mono ?_
              rintro e w2 ⟨v2, rfl, hr2, hb2⟩
              obtain ⟨a2, cap2, rfl⟩ := hr2.form
              clear g0' g1' hr2
              obtain ⟨k0, k1, g0, g1, b1, b2, o1⟩ := HK.out w2 hb2
              have HB1 : Hid _ := b1
              have HB2 : Hid _ := hb2
              clear b1 b2 o1 hb2
              go_wp2_with fail
              refine (HCb.out w2 HB1.out).mono ?_
              rintro e w3 ⟨rfl, hb3⟩
              clear k0 k1 g0 g1
              obtain ⟨-, -, -, -, -, b2, o1⟩ := HK.out w3 (HBA.out w2 w3 HB2.out hb3)
              have HB3 : Hid _ := b2
              have HO3 : Hid _ := o1
              clear b2 o1 hb3
              go_wp2
              go_roundw
              case rel => exact ⟨b + 1, by omega, by omega, by simp, by rw [HT.out]; exact HO3.out, HB3.out⟩
              case measure => simp [intOf]; omega
            | false =>
              have HT : Hid (hpRow L A a (b + 1) = hpRow L A a b ++ [((a : Int), (b : Int))]) := HY.out (by rw [HQ.out, hcc]; simp [hp])
              rw [hcc] at HCb
              clear hcc HQ HY HN2
              go_wp2_with fail
              refine HPb.out.mono ?_
              rintro e w2 ⟨v2, rfl, hr2, hb2⟩
              obtain ⟨a2, cap2, rfl⟩ := hr2.form
              clear g0' g1' hr2
              obtain ⟨k0, k1, g0, g1, b1, b2, o1⟩ := HK.out w2 hb2
              have HB1 : Hid _ := b1
              have HB2 : Hid _ := hb2
              clear b1 b2 o1 hb2
              go_wp2_with fail
              refine (HCb.out w2 HB1.out).mono ?_
              rintro e w3 ⟨rfl, hb3⟩
              clear k0 k1 g0 g1
              obtain ⟨k0, k1, -, -, -, b2, o1⟩ := HK.out w3 (HBA.out w2 w3 HB2.out hb3)
              have HB3 : Hid _ := b2
              have HO3 : Hid _ := o1
              have hs3 := b2.size
              clear b2 o1 hb3
              go_wp2_with (at_builtin; go_loud (refine wpl_appE w3 rfl (.tmp 29) (.tmp 31) 26 40 rfl i0 _ 2 16 Try.underlying26 hi0 hz0 hz1 hz2 rfl (by decide) W0.heap.size u3 (M ++ hpRow L A a b).length _ rfl HO3.out [.int .i64 (a : Int), .int .i64 (b : Int)] rfl _ rfl rfl (by intro u hu; simp at hu; rcases hu with rfl | rfl <;> rfl) (by omega) (by unfold maxLen; omega) (by omega) ?_; intro v4 w4 hown4 hb4))
              have HO4 : Hid (w4.ownsRow W0.heap.size 40 2 v4 (M ++ hpRow L A a (b + 1)).length (h2V (M ++ hpRow L A a (b + 1)))) := by show World.ownsRow _ _ _ _ _ _ _; rw [HT.out, ← List.append_assoc, h2V_snoc, List.length_append]; exact hown4
              have HB4 : Hid (Below W0.heap.size W0 w4) := HB3.out.trans hb4
              clear hown4 hb4 HT HO3 HB3 k0 k1
              go_wp2
              go_roundw
              case rel => exact ⟨b + 1, by omega, by omega, by simp, HO4.out, HB4.out⟩
              case measure => simp [intOf]; omega
          · have HT : Hid (hpRow L A a (b + 1) = hpRow L A a b) := HN2.out (by rw [HQ.out]; simp [hp])
            clear HQ HY HN2 HCb
            go_wp2_with fail
            refine HPb.out.mono ?_
            rintro e w2 ⟨v2, rfl, hr2, hb2⟩
            obtain ⟨a2, cap2, rfl⟩ := hr2.form
            clear g0' g1' hr2
            obtain ⟨-, -, -, -, -, b2, o1⟩ := HK.out w2 hb2
            have HB3 : Hid _ := b2
            have HO3 : Hid _ := o1
            clear b2 o1 hb2
            go_wp2
            go_roundw
            case rel => exact ⟨b + 1, by omega, by omega, by simp, by rw [HT.out]; exact HO3.out, HB3.out⟩
            case measure => simp [intOf]; omega
        · obtain rfl : b = 16 := by omega
          rw [← HN.out] at hown
          have HO : Hid _ := hown
          have HB : Hid _ := hB
          clear hown hB g0 g1 hbw
          go_wp2
          go_roundw
          case rel => exact ⟨a + 1, by omega, by omega, by simp, HO.out, HB.out⟩
          case measure => simp [intOf]; omega
    · obtain rfl : a = 16 := by omega
      have HX : Hid (IsRow wr 2 u3 (hpAll L A 16).length (h2V (hpAll L A 16)) ∧ Below w.heap.size w wr) := ⟨IsRow.own hown, (HG.out wr hB).2.2⟩
      clear hown hB
      go_wp2
      go_ret
      exact ⟨_, rfl, HX.out.1, HX.out.2⟩
end Go.Proofs.Ythbhgblgacoklaa
