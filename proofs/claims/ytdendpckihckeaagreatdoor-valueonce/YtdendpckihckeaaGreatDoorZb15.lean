/- Values: what is read was written or shown so, and what is written or shown is read. Plain. -/
import Derived.Test.YtdendpckihckeaaGreatDoorZb9
import Derived.Test.YtdendpckihckeaaGreatDoorZb10
import Derived.Test.YtdendpckihckeaaGreatDoorZb13
import Derived.Test.YtdendpckihckeaaGreatDoorZb14
import Derived.Test.YtdendpckihckeaaGreatDoorZb7
import Derived.ProofKit
import Derived.PinnedBridge
import Derived.Lay
import Derived.Lib.LaidU8T
import Derived.Lib.LaidTab
import Derived.LaidMore
import Derived.Stop.LaidErr
import Derived.OpenShut
import Derived.ShutString
import Derived.ChangeOld
import Derived.Below
import Derived.Stop.Joined
import Derived.SizedLaws
import Derived.Shelf.Vars
import Derived.Lib.SmallJoins
namespace Go.Proofs.YtdendpckihckeaaGreatDoor
open Go.RowKit

theorem ok_of_chk {k n : Int} {s : ByteArray} (h : chkV k n s = true) : okL k n s.data.toList := by
  have nil : s.size = 0 → s.data.toList = [] := fun e => List.eq_nil_of_length_eq_zero (by rw [← Lib.size_eq]; exact e)
  unfold chkV at h
  split at h
  · rename_i e; simp only [Bool.and_eq_true, decide_eq_true_eq] at h; exact .inl ⟨e, nil h.1, h.2.1, h.2.2⟩
  split at h
  · rename_i e; simp only [Bool.and_eq_true, decide_eq_true_eq] at h; exact .inr (.inl ⟨e, h.1, by rw [← Lib.size_eq]; exact h.2.1, h.2.2⟩)
  split at h
  · rename_i e; simp only [Bool.and_eq_true, decide_eq_true_eq] at h; exact .inr (.inr (.inl ⟨e, nil h.1, h.2⟩))
  split at h
  · rename_i e; simp only [Bool.and_eq_true, decide_eq_true_eq] at h; exact .inr (.inr (.inr ⟨e, h.1, by rw [← Lib.size_eq]; exact h.2⟩))
  · cases h
theorem chk_of_ok {k n : Int} {s : List UInt8} (h : okL k n s) : chkV k n (str s) = true := by
  rcases h with ⟨rfl, rfl, h1, h2⟩ | ⟨rfl, rfl, h1, h2⟩ | ⟨rfl, rfl, h1⟩ | ⟨rfl, rfl, h1⟩
  · unfold chkV
    rw [if_pos rfl, Bool.and_eq_true, decide_eq_true_eq, decide_eq_true_eq]
    exact ⟨rfl, h1, h2⟩
  · unfold chkV
    rw [if_neg (by decide), if_pos rfl, Bool.and_eq_true, Bool.and_eq_true, decide_eq_true_eq, decide_eq_true_eq, str_size, str_data]
    exact ⟨rfl, h1, h2⟩
  · unfold chkV
    rw [if_neg (by decide), if_neg (by decide), if_pos rfl, Bool.and_eq_true, decide_eq_true_eq, decide_eq_true_eq]
    exact ⟨rfl, h1⟩
  · unfold chkV
    rw [if_neg (by decide), if_neg (by decide), if_neg (by decide), if_pos rfl, Bool.and_eq_true, decide_eq_true_eq, decide_eq_true_eq, str_size]
    exact ⟨rfl, h1⟩
theorem shw_is {k n : Int} {s : ByteArray} (h : chkV k n s = true) : shwV k n s = str (shwL k n s.data.toList) := by
  unfold shwV shwL
  rw [if_pos h]
  by_cases k1 : k = 1
  · rw [if_pos k1, if_pos k1]
  rw [if_neg k1, if_neg k1]
  by_cases k3 : k = 3
  · rw [if_pos k3, if_pos k3]
    by_cases hn : n = 1
    · rw [if_pos (by rw [hn]; rfl), if_pos hn]; rfl
    · rw [if_neg (by simpa using hn), if_neg hn]; rfl
  rw [if_neg k3, if_neg k3]
  by_cases k4 : k = 4
  · rw [if_pos k4, if_pos k4]
  · rw [if_neg k4, if_neg k4]
    rfl
/-- What is scanned was shown so. -/
theorem scan_once {s : ByteArray} (h : (scn s.data.toList).e = 0) : chkV (scn s.data.toList).k (scn s.data.toList).n (str (scn s.data.toList).s) = true ∧ shwV (scn s.data.toList).k (scn s.data.toList).n (str (scn s.data.toList).s) ++ str (scn s.data.toList).r = s := by
  obtain ⟨a, b⟩ := scn_once h
  have hc := chk_of_ok a
  refine ⟨hc, ?_⟩
  rw [shw_is hc, str_data, str_app', b, str_of]
where str_app' {a b : List UInt8} : str a ++ str b = str (a ++ b) := ba_eq (by rw [ba_append, str_data, str_data, str_data])
theorem goes32 (t : List UInt8) : goesL (32 :: t) = false := by
  unfold goesL
  rw [dec_ascii (by decide)]
  decide
theorem goes_nil : goesL [] = false := by decide +kernel
theorem shw_back {k n : Int} {s : ByteArray} (h : chkV k n s = true) (b : ByteArray) : scn ((shwV k n s ++ ⟨#[32]⟩) ++ b).data.toList = ⟨k, n, s.data.toList, 32 :: b.data.toList, 0⟩ := by
  rw [ba_append, ba_append, shw_is h, str_data, List.append_assoc]
  exact scn_back (ok_of_chk h) (goes32 _)
theorem shw_parse {k n : Int} {s : ByteArray} (h : chkV k n s = true) : prs (shwV k n s).data.toList = ⟨k, n, s.data.toList, [], 0⟩ := by
  have e : scn (shwV k n s).data.toList = ⟨k, n, s.data.toList, [], 0⟩ := by
    rw [shw_is h, str_data, ← List.append_nil (shwL k n s.data.toList)]
    exact scn_back (ok_of_chk h) goes_nil
  unfold prs
  rw [e]
  rfl
theorem flat6 : ∀ l : List Nat, (l.flatMap shR).length ≤ 6 * l.length
  | [] => by simp
  | c :: l => by
    have := flat6 l
    have := shR_len c
    simp only [List.flatMap_cons, List.length_append, List.length_cons]
    omega
theorem shw_size {k n : Int} {s : ByteArray} (h : chkV k n s = true) : (shwV k n s).size ≤ 5000 := by
  rw [shw_is h, str_size]
  rcases ok_of_chk h with ⟨rfl, -, h1, h2⟩ | ⟨rfl, -, h1, -⟩ | ⟨rfl, -, -⟩ | ⟨rfl, -, h1⟩
  · unfold shwL Lib.itoa
    rw [if_pos rfl]
    have l1 := dec_len' 16 n.natAbs (by omega) (by decide)
    have l2 := dec_len' 16 n.toNat (by omega) (by decide)
    split
    · rw [List.length_cons]; omega
    · omega
  · unfold shwL
    rw [if_neg (by decide), if_neg (by decide), if_neg (by decide)]
    have l1 := flat6 (rns s.data.toList)
    have l2 : (rns s.data.toList).length ≤ s.data.toList.length := rns_len_le _ _
    simp only [List.length_append, List.length_cons, List.length_nil]
    omega
  · unfold shwL
    rw [if_neg (by decide), if_pos rfl]
    split <;> decide
  · unfold shwL
    rw [if_neg (by decide), if_neg (by decide), if_pos rfl]
    simp only [List.length_append, List.length_cons, List.length_nil, hexs_len]
    omega
/-! ### bytes -/
theorem txt_list (k n : Int) (s : ByteArray) : (txt k n s).data.toList = Q.numL k ++ Q.itB ⟨itm k, n, s⟩ := by
  unfold txt
  simp only [List.flatMap_cons, List.flatMap_nil, List.append_nil]
  rw [show Q.itB ⟨1, k, ⟨#[]⟩⟩ = Q.numL k from Q.itB_1 rfl]
theorem read_once {s : ByteArray} (h : (rd s).e = 0) : chkV (rd s).k (rd s).n (rd s).s = true ∧ txtV (rd s).k (rd s).n (rd s).s ++ (rd s).r = s := by
  unfold rd at *
  by_cases h1 : ¬ Q.getE s = 0
  · rw [if_pos h1] at h; exact absurd h h1
  rw [if_neg h1] at h ⊢
  by_cases h2 : Q.getV s < 1 ∨ 4 < Q.getV s
  · rw [if_pos h2] at h; simp at h
  rw [if_neg h2] at h ⊢
  by_cases h3 : ¬ Q.tE (Q.getRest s) (itm (Q.getV s)) = 0
  · rw [if_pos h3] at h; exact absurd h h3
  rw [if_neg h3] at h ⊢
  by_cases h4 : chkV (Q.getV s) (Q.tN (Q.getRest s) (itm (Q.getV s))) (Q.tS (Q.getRest s) (itm (Q.getV s))) = true
  · rw [if_pos h4]
    refine ⟨h4, ?_⟩
    simp only
    unfold txtV
    rw [if_pos h4]
    have i := itm_rng (k := Q.getV s) (by omega) (by omega)
    have g := Q.get_bytes (Decidable.not_not.1 h1)
    have t := (Q.item_bytes i.1 i.2 (Decidable.not_not.1 h3)).2
    refine ba_eq ?_
    rw [ba_append, txt_list, List.append_assoc, t, g]
  · rw [if_neg h4] at h; simp at h
theorem read_back {k n : Int} {s : ByteArray} (h : chkV k n s = true) (b : ByteArray) : rd (txtV k n s ++ b) = ⟨k, n, s, b, 0⟩ := by
  have hk := chk_kind h
  have hm := chk_may h
  simp only [List.all_cons, List.all_nil, Bool.and_true, Bool.and_eq_true] at hm
  have e : (txtV k n s ++ b).data.toList = Q.numL k ++ (Q.itB ⟨itm k, n, s⟩ ++ b.data.toList) := by
    unfold txtV
    rw [if_pos h, ba_append, txt_list, List.append_assoc]
  obtain ⟨g1, g2, g3⟩ := Q.get_num (by omega) (by omega) e
  obtain ⟨-, t1, t2, t3⟩ := Q.item_read (x := ⟨itm k, n, s⟩) hm.2 g3
  simp only at t1 t2 t3
  have t4 := congrArg It.n t2
  have t5 := congrArg It.s t2
  simp only at t4 t5
  unfold rd
  rw [if_neg (fun e => e g1), g2, if_neg (by omega), if_neg (fun e => e t1), t4, t5, if_pos h, ba_eq t3]
theorem txt_size {k n : Int} {s : ByteArray} (h : chkV k n s = true) : (txtV k n s).size ≤ 131088 := by
  have := Q.flat_len _ (chk_may h)
  unfold txtV
  rw [if_pos h]
  unfold txt
  rw [Lib.size_eq]
  simpa using this
end Go.Proofs.YtdendpckihckeaaGreatDoor
/- What the laws of values share. -/
namespace Go.Proofs.YtdendpckihckeaaGreatDoor
open Go.RowKit

theorem few3_any (s : ByteArray) (w : World) : Calls Tryz.prog 8 #[.string s] w fun e w' => e = .returned (.bool (decide (s.size ≤ 2000))) ∧ w' = w := by
  by_cases h : s.size ≤ 2000
  · have h' : decide ((s.size : Int) ≤ 2000) = true := by simp; omega
    rw [decide_eq_true h]
    go_enter Tryz.func8, Tryz.ntmps8
    go_wp2
    go_ret
    exact ⟨rfl, rfl⟩
  · have h' : decide ((s.size : Int) ≤ 2000) = false := by simp; omega
    rw [decide_eq_false h]
    go_enter Tryz.func8, Tryz.ntmps8
    go_wp2
    go_ret
    exact ⟨rfl, rfl⟩
theorem VE.v {w : World} (h : VE w) : VT w := ⟨h.u, h.t, h.m⟩
abbrev v3cells (k n : Int) (s : ByteArray) : Obj := .cells #[.int .i64 k, .int .i64 n, .string s] 25
theorem al_below (w : World) (o : Obj) : Below w.heap.size w (w.alloc o) := (Below.refl _ _).alloc (Nat.le_refl _) _
end Go.Proofs.YtdendpckihckeaaGreatDoor
/- ValueOnce: for every text the law returns true. -/
namespace Go.Proofs.YtdendpckihckeaaGreatDoor
open Go.RowKit

/-- What the laws of showing and writing ask of the world. -/
structure VF (w : World) : Prop where
  v : VE w
  p : P10 w
  q : Q.Tab w
theorem VF.below {w w' : World} (h : VF w) (hb : Below w.heap.size w w') : VF w' := ⟨h.v.below hb, P10_below h.p hb, h.q.below hb h.q.size⟩
/-- A value that lies in a block, and what was there before. -/
structure V3 (w0 : World) (b : Nat) (k n : Int) (s : ByteArray) (w : World) : Prop where
  c0 : w.cell? ⟨b, 0, none⟩ = some (.int .i64 k)
  c1 : w.cell? ⟨b, 1, none⟩ = some (.int .i64 n)
  c2 : w.cell? ⟨b, 2, none⟩ = some (.string s)
  l : b < w.heap.size
  B : Below w0.heap.size w0 w
theorem V3.call {w0 w w' : World} {b : Nat} {k n : Int} {s : ByteArray} (h : V3 w0 b k n s w) (hb : Below w.heap.size w w') : V3 w0 b k n s w' :=
  ⟨(hb.cell (p := ⟨b, 0, none⟩) h.l).trans h.c0, (hb.cell (p := ⟨b, 1, none⟩) h.l).trans h.c1, (hb.cell (p := ⟨b, 2, none⟩) h.l).trans h.c2, Nat.lt_of_lt_of_le h.l hb.size, h.B.trans (hb.mono h.B.size)⟩
theorem V3.new {w0 w : World} (hB : Below w0.heap.size w0 w) (k n : Int) (s : ByteArray) : V3 w0 w.heap.size k n s (w.alloc (v3cells k n s)) :=
  ⟨by simp [v3cells], by simp [v3cells], by simp [v3cells], by simp [v3cells], hB.alloc hB.size _⟩
set_option maxRecDepth 100000 in
set_option maxHeartbeats 8000000 in
theorem once_few (s : ByteArray) (w : World) (h1 : s.size ≤ 2000) (h : VF w) :
    Calls Tryz.prog 5 #[.string s] w fun e w' => e = .returned (.bool true) ∧ Below w.heap.size w w' := by
  have g1 : decide (s.size ≤ 2000) = true := by simpa using h1
  have hr1 := fun w h => scan_any s w (by omega) h
  have hr2 := fun w h => read_any s w (by omega) h
  have o1 := scan_once (s := s)
  have o2 := read_once (s := s)
  generalize scn s.data.toList = x at *
  generalize rd s = y at *
  obtain ⟨k, n, t, r, e⟩ := x
  obtain ⟨k', n', T', R', e'⟩ := y
  simp only [scV] at hr1 hr2 o1 o2
  generalize str t = T at *
  generalize str r = R at *
  have HR : Hid (∀ w, VE w → Calls Tryz.prog 10 #[.string s] w fun e0 w' => e0 = .returned (.tuple #[vv k n T, .string R, .int .i64 e]) ∧ Below w.heap.size w w') := hr1
  have HD : Hid (∀ w, UT w → Calls Tryz.prog 18 #[.string s] w fun e0 w' => e0 = .returned (.tuple #[vv k' n' T', .string R', .int .i64 e']) ∧ Below w.heap.size w w') := hr2
  clear hr1 hr2
  by_cases he : e = 0
  · subst he
    obtain ⟨hc, hcat⟩ := o1 rfl
    have HK : Hid (∀ w, UT w → Calls Tryz.prog 15 #[vv k n T] w fun e w' => e = .returned (.bool true) ∧ Below w.heap.size w w') := fun w hU => by
      rw [← hc]; exact check_any k n T w (by have := (chk_rng hc).2.2.2.2; omega) hU
    have HT : Hid (∀ w, VF w → Calls Tryz.prog 16 #[vv k n T] w fun e w' => e = .returned (.string (shwV k n T)) ∧ Below w.heap.size w w') := fun w hw => show_any k n T w (by have := (chk_rng hc).2.2.2.2; omega) hw.v.u hw.v.t hw.p
    have hz1 : (shwV k n T).size + R.size ≤ 2000 := by rw [← ByteArray.size_append, hcat]; exact h1
    generalize shwV k n T = Z at *
    have hzz : ¬ 9223372036854775807 < Z.size + R.size := by omega
    clear hc hz1 o1
    by_cases he' : e' = 0
    · subst he'
      obtain ⟨hc2, hcat2⟩ := o2 rfl
      have HK2 : Hid (∀ w, UT w → Calls Tryz.prog 15 #[vv k' n' T'] w fun e w' => e = .returned (.bool true) ∧ Below w.heap.size w w') := fun w hU => by
        rw [← hc2]; exact check_any k' n' T' w (by have := (chk_rng hc2).2.2.2.2; omega) hU
      have HT2 : Hid (∀ w, VF w → Calls Tryz.prog 17 #[vv k' n' T'] w fun e w' => e = .returned (.string (txtV k' n' T')) ∧ Below w.heap.size w w') := fun w hw => text_any k' n' T' w (by have := (chk_rng hc2).2.2.2.2; omega) hw.v.u hw.q
      have hz2 : (txtV k' n' T').size + R'.size ≤ 2000 := by rw [← ByteArray.size_append, hcat2]; exact h1
      generalize txtV k' n' T' = Z2 at *
      have hzz2 : ¬ 9223372036854775807 < Z2.size + R'.size := by omega
      clear hc2 hz2 o2
      go_enter Tryz.func5, Tryz.ntmps5
      go_wp2_with fail
      refine (few3_any _ _).mono ?_
      rintro e0 w0 ⟨rfl, rfl⟩
      rw [g1]
      go_wp2_with fail
      refine (HR.out _ h.v).mono ?_
      rintro e0 w1 ⟨rfl, hb1⟩
      have HV1 : Hid (V3 w0 w1.heap.size k n T (w1.alloc (v3cells k n T))) := V3.new hb1 k n T
      clear hb1
      go_wp2_with fail
      generalize w1.alloc (v3cells k n T) = W1 at *
      generalize w1.heap.size = b1 at *
      refine (HK.out _ (h.below HV1.out.B).v.u).mono ?_
      rintro e0 w2 ⟨rfl, hb2⟩
      have HV2 : Hid (V3 w0 b1 k n T w2) := HV1.out.call hb2
      obtain ⟨x0, x1, x2, xl, xB⟩ := HV2.out
      clear hb2 xl xB
      go_wp2_with fail
      refine (HT.out _ (h.below HV2.out.B)).mono ?_
      rintro e0 w3 ⟨rfl, hb3⟩
      have HS : Hid (Below w0.heap.size w0 w3) := (HV2.out.call hb3).B
      clear hb3 x0 x1 x2
      go_wp2_with fail
      refine (HD.out _ (h.below (HS.out)).v.u).mono ?_
      rintro e0 w5 ⟨rfl, hb5⟩
      have HB5 : Hid (Below w0.heap.size w0 w5) := HS.out.trans (hb5.mono HS.out.size)
      clear hb5
      have HV5 : Hid (V3 w0 w5.heap.size k' n' T' (w5.alloc (v3cells k' n' T'))) := V3.new HB5.out k' n' T'
      go_wp2_with fail
      generalize w5.alloc (v3cells k' n' T') = W5 at *
      generalize w5.heap.size = b5 at *
      refine (awake_any _ (h.below HV5.out.B).v.v).mono ?_
      rintro e0 w6 ⟨rfl, hb6⟩
      have HV6 : Hid (V3 w0 b5 k' n' T' w6) := HV5.out.call hb6
      obtain ⟨y0, y1, y2, yl, yB⟩ := HV6.out
      clear hb6 yl yB
      go_wp2_with fail
      refine (HK2.out _ (h.below HV6.out.B).v.u).mono ?_
      rintro e0 w7 ⟨rfl, hb7⟩
      have HV7 : Hid (V3 w0 b5 k' n' T' w7) := HV6.out.call hb7
      obtain ⟨z0, z1, z2, zl, zB⟩ := HV7.out
      clear hb7 y0 y1 y2 zl zB
      go_wp2_with fail
      refine (HT2.out _ (h.below HV7.out.B)).mono ?_
      rintro e0 w8 ⟨rfl, hb8⟩
      have HB8 : Hid (Below w0.heap.size w0 w8) := (HV7.out.call hb8).B
      clear hb8
      go_wp2
      go_ret
      exact ⟨rfl, HB8.out⟩
    · have he2 : (e' != 0) = true := by rw [bne_iff_ne]; exact he'
      clear o2 he'
      go_enter Tryz.func5, Tryz.ntmps5
      go_wp2_with fail
      refine (few3_any _ _).mono ?_
      rintro e0 w0 ⟨rfl, rfl⟩
      rw [g1]
      go_wp2_with fail
      refine (HR.out _ h.v).mono ?_
      rintro e0 w1 ⟨rfl, hb1⟩
      have HV1 : Hid (V3 w0 w1.heap.size k n T (w1.alloc (v3cells k n T))) := V3.new hb1 k n T
      clear hb1
      go_wp2_with fail
      generalize w1.alloc (v3cells k n T) = W1 at *
      generalize w1.heap.size = b1 at *
      refine (HK.out _ (h.below HV1.out.B).v.u).mono ?_
      rintro e0 w2 ⟨rfl, hb2⟩
      have HV2 : Hid (V3 w0 b1 k n T w2) := HV1.out.call hb2
      obtain ⟨x0, x1, x2, xl, xB⟩ := HV2.out
      clear hb2 xl xB
      go_wp2_with fail
      refine (HT.out _ (h.below HV2.out.B)).mono ?_
      rintro e0 w3 ⟨rfl, hb3⟩
      have HS : Hid (Below w0.heap.size w0 w3) := (HV2.out.call hb3).B
      clear hb3 x0 x1 x2
      go_wp2_with fail
      refine (HD.out _ (h.below (HS.out)).v.u).mono ?_
      rintro e0 w5 ⟨rfl, hb5⟩
      have HB5 : Hid (Below w0.heap.size w0 w5) := HS.out.trans (hb5.mono HS.out.size)
      clear hb5
      have HV5 : Hid (V3 w0 w5.heap.size k' n' T' (w5.alloc (v3cells k' n' T'))) := V3.new HB5.out k' n' T'
      go_wp2_with fail
      generalize w5.alloc (v3cells k' n' T') = W5 at *
      generalize w5.heap.size = b5 at *
      refine (awake_any _ (h.below HV5.out.B).v.v).mono ?_
      rintro e0 w6 ⟨rfl, hb6⟩
      have HV6 : Hid (V3 w0 b5 k' n' T' w6) := HV5.out.call hb6
      obtain ⟨y0, y1, y2, yl, yB⟩ := HV6.out
      clear hb6 yl yB
      go_wp2
      go_ret
      exact ⟨rfl, HV6.out.B⟩
  · have he1 : (e == 0) = false := by rw [beq_eq_false_iff_ne]; exact he
    clear o1 he
    by_cases he' : e' = 0
    · subst he'
      obtain ⟨hc2, hcat2⟩ := o2 rfl
      have HK2 : Hid (∀ w, UT w → Calls Tryz.prog 15 #[vv k' n' T'] w fun e w' => e = .returned (.bool true) ∧ Below w.heap.size w w') := fun w hU => by
        rw [← hc2]; exact check_any k' n' T' w (by have := (chk_rng hc2).2.2.2.2; omega) hU
      have HT2 : Hid (∀ w, VF w → Calls Tryz.prog 17 #[vv k' n' T'] w fun e w' => e = .returned (.string (txtV k' n' T')) ∧ Below w.heap.size w w') := fun w hw => text_any k' n' T' w (by have := (chk_rng hc2).2.2.2.2; omega) hw.v.u hw.q
      have hz2 : (txtV k' n' T').size + R'.size ≤ 2000 := by rw [← ByteArray.size_append, hcat2]; exact h1
      generalize txtV k' n' T' = Z2 at *
      have hzz2 : ¬ 9223372036854775807 < Z2.size + R'.size := by omega
      clear hc2 hz2 o2
      go_enter Tryz.func5, Tryz.ntmps5
      go_wp2_with fail
      refine (few3_any _ _).mono ?_
      rintro e0 w0 ⟨rfl, rfl⟩
      rw [g1]
      go_wp2_with fail
      refine (HR.out _ h.v).mono ?_
      rintro e0 w1 ⟨rfl, hb1⟩
      have HV1 : Hid (V3 w0 w1.heap.size k n T (w1.alloc (v3cells k n T))) := V3.new hb1 k n T
      clear hb1
      have HS : Hid (Below w0.heap.size w0 (w1.alloc (v3cells k n T))) := HV1.out.B
      go_wp2_with fail
      refine (HD.out _ (h.below (HS.out)).v.u).mono ?_
      rintro e0 w5 ⟨rfl, hb5⟩
      have HB5 : Hid (Below w0.heap.size w0 w5) := HS.out.trans (hb5.mono HS.out.size)
      clear hb5
      have HV5 : Hid (V3 w0 w5.heap.size k' n' T' (w5.alloc (v3cells k' n' T'))) := V3.new HB5.out k' n' T'
      go_wp2_with fail
      generalize w5.alloc (v3cells k' n' T') = W5 at *
      generalize w5.heap.size = b5 at *
      refine (awake_any _ (h.below HV5.out.B).v.v).mono ?_
      rintro e0 w6 ⟨rfl, hb6⟩
      have HV6 : Hid (V3 w0 b5 k' n' T' w6) := HV5.out.call hb6
      obtain ⟨y0, y1, y2, yl, yB⟩ := HV6.out
      clear hb6 yl yB
      go_wp2_with fail
      refine (HK2.out _ (h.below HV6.out.B).v.u).mono ?_
      rintro e0 w7 ⟨rfl, hb7⟩
      have HV7 : Hid (V3 w0 b5 k' n' T' w7) := HV6.out.call hb7
      obtain ⟨z0, z1, z2, zl, zB⟩ := HV7.out
      clear hb7 y0 y1 y2 zl zB
      go_wp2_with fail
      refine (HT2.out _ (h.below HV7.out.B)).mono ?_
      rintro e0 w8 ⟨rfl, hb8⟩
      have HB8 : Hid (Below w0.heap.size w0 w8) := (HV7.out.call hb8).B
      clear hb8
      go_wp2
      go_ret
      exact ⟨rfl, HB8.out⟩
    · have he2 : (e' != 0) = true := by rw [bne_iff_ne]; exact he'
      clear o2 he'
      go_enter Tryz.func5, Tryz.ntmps5
      go_wp2_with fail
      refine (few3_any _ _).mono ?_
      rintro e0 w0 ⟨rfl, rfl⟩
      rw [g1]
      go_wp2_with fail
      refine (HR.out _ h.v).mono ?_
      rintro e0 w1 ⟨rfl, hb1⟩
      have HV1 : Hid (V3 w0 w1.heap.size k n T (w1.alloc (v3cells k n T))) := V3.new hb1 k n T
      clear hb1
      have HS : Hid (Below w0.heap.size w0 (w1.alloc (v3cells k n T))) := HV1.out.B
      go_wp2_with fail
      refine (HD.out _ (h.below (HS.out)).v.u).mono ?_
      rintro e0 w5 ⟨rfl, hb5⟩
      have HB5 : Hid (Below w0.heap.size w0 w5) := HS.out.trans (hb5.mono HS.out.size)
      clear hb5
      have HV5 : Hid (V3 w0 w5.heap.size k' n' T' (w5.alloc (v3cells k' n' T'))) := V3.new HB5.out k' n' T'
      go_wp2_with fail
      generalize w5.alloc (v3cells k' n' T') = W5 at *
      generalize w5.heap.size = b5 at *
      refine (awake_any _ (h.below HV5.out.B).v.v).mono ?_
      rintro e0 w6 ⟨rfl, hb6⟩
      have HV6 : Hid (V3 w0 b5 k' n' T' w6) := HV5.out.call hb6
      obtain ⟨y0, y1, y2, yl, yB⟩ := HV6.out
      clear hb6 yl yB
      go_wp2
      go_ret
      exact ⟨rfl, HV6.out.B⟩
set_option maxRecDepth 100000 in
set_option maxHeartbeats 1000000 in
theorem valueOnce_walk (s : ByteArray) (w : World) (_hs : s.size ≤ 140737488355328) (h : VF w) :
    Calls Tryz.prog 5 #[.string s] w fun e w' => e = .returned (.bool true) ∧ Below w.heap.size w w' := by
  by_cases h1 : s.size ≤ 2000
  · exact once_few s w h1 h
  · have g1 : decide (s.size ≤ 2000) = false := by simpa using h1
    go_enter Tryz.func5, Tryz.ntmps5
    go_wp2_with fail
    refine (few3_any _ _).mono ?_
    rintro e0 w0 ⟨rfl, rfl⟩
    rw [g1]
    go_wp2_with fail
    refine (awake_any _ h.v.v).mono ?_
    rintro e0 w1 ⟨rfl, hb1⟩
    go_wp2
    go_ret
    exact ⟨rfl, hb1⟩
end Go.Proofs.YtdendpckihckeaaGreatDoor
/- What the listed variables give; and a world that meets the condition. -/
namespace Go.Proofs.YtdendpckihckeaaGreatDoor
open Go.ChangeShapes Go.WideShapes Go.ChangeAt Go.WideMaps Go.WideElems Go.RowKit

theorem own : ownKnob Tryz.prog.godebug = none := by kernel_rfl
theorem laidOut : laidOutB Tryz.prog = true := by kernel_rfl
def laidV : List (String × DataW Unit) := [("math/bits.deBruijn32tab", Rows.laid_math_bits_deBruijn32tab), ("math/bits.deBruijn64tab", Rows.laid_math_bits_deBruijn64tab), ("internal/strconv.uint64pow10", Rows.laid_internal_strconv_uint64pow10), ("unicode/utf8.acceptRanges", Rows.laid_unicode_utf8_acceptRanges), ("strconv.ErrRange", Rows.laid_strconv_ErrRange), ("strconv.ErrSyntax", Rows.laid_strconv_ErrSyntax), ("unicode/utf8.first", Rows.laid_unicode_utf8_first)]
theorem accept_eq : (Rows.laid_unicode_utf8_acceptRanges : DataW Unit) = Lib.acceptData := by kernel_rfl
theorem first_eq : Rows.laid_unicode_utf8_first = Lib.firstData := Pinned.utf8First_eq
def tab64 : List Int := [0, 1, 56, 2, 57, 49, 28, 3, 61, 58, 42, 50, 38, 29, 17, 4, 62, 47, 59, 36, 45, 43, 51, 22, 53, 39, 33, 30, 24, 18, 12, 5, 63, 55, 48, 27, 60, 41, 37, 16, 46, 35, 44, 21, 52, 32, 23, 11, 54, 26, 40, 15, 34, 20, 31, 10, 25, 14, 19, 9, 13, 8, 7, 6]
theorem g64 : Tryz.prog.globalNamed "math/bits.deBruijn64tab" = some 5 := by kernel_rfl
theorem t64 : (Tryz.prog.globals[5]?).map (·.type) = some 162 := by kernel_rfl
theorem ml_of {W : World} (h : W.ShapedOpen Tryz.prog) : ML W :=
  cell_of_shapedOpen_int (P := Tryz.prog) (g := 2) (t := 3) (zero := #[.int .i64 0]) (k := .i64) h (of_decide_eq_true (by kernel_rfl)) (by kernel_rfl) rfl (by kernel_rfl) (by kernel_rfl) Tryz.underlying3
theorem vt_of {W : World} (h : laidMetH Tryz.prog laidV W) (hsh : W.ShapedOpen Tryz.prog) : VT W := by
  rw [MakeChecks.laidMetH_plain _ _ _ (by kernel_rfl)] at h
  have h2 := laidMet.tail h
  have h3 : Lib.TabIs Tryz.prog W "math/bits.deBruijn64tab" .u8 tab64 := Lib.tabIs_of_head g64 t64 Tryz.underlying162 Tryz.underlying5 (by kernel_rfl) (by kernel_rfl) h2
  refine ⟨?_, h3.cell g64 15 (by decide), ml_of hsh⟩
  exact utf8Tabs_of_readsT (U8Types.of196 Tryz.lays196) ⟨by kernel_rfl, by kernel_rfl, by kernel_rfl, by kernel_rfl, by kernel_rfl, by kernel_rfl, by kernel_rfl⟩ (first_eq ▸ Lib.laidMet.reads h (.tail _ (.tail _ (.tail _ (.tail _ (.tail _ (.tail _ (.head _)))))))) (accept_eq ▸ Lib.laidMet.reads h (.tail _ (.tail _ (.tail _ (.head _)))))
theorem all_met (os : Os) (args : Array Value) : laidMetH Tryz.prog laidV ((World.laidAll Tryz.prog os laidV).forCall (fun _ _ => 0) ⟨#[], args, []⟩).memory := by
  rw [MakeChecks.laidMetH_plain _ _ _ (by kernel_rfl)]
  exact laidMet_laidAll _ (by kernel_rfl) (by kernel_rfl)
theorem all_shaped (os : Os) : (World.laidAll Tryz.prog os laidV).Shaped Tryz.prog := World.shaped_of_ZipB (by kernel_rfl) (by kernel_rfl)
end Go.Proofs.YtdendpckihckeaaGreatDoor
/- The frame of a law over values: the listed tables and the world's shape; a value opened and shut. -/
namespace Go.Proofs.YtdendpckihckeaaGreatDoor
open Go.ChangeShapes Go.WideShapes Go.ChangeAt Go.WideMaps Go.WideElems Go.RowKit Go.Joins

theorem frame_shaped {H : Type} {enc : TypeId × Value → H} {a : Assume} {C : Checked} {os : Os} {f : FuncId} {fn : Func} {s : ChangeSpec} {conds : List PathCond} {apart fresh handsOn again : Bool} {X : World → Array Value → Prop}
    (hX : ∀ (w w' : World) (args : Array Value), w.heap = w'.heap → X w args → X w' args)
    (own : ownKnob C.prog.godebug = none) (started : os.Started) (noInit : C.prog.inits.idxOf? f = none) (hfn : C.prog.funcs[f]? = some fn)
    (witness : ∃ (w : World) (tape : Tape) (i : Input), w.os = os ∧ (w.forCall tape i).Shaped C.prog ∧ i.vars = [] ∧ Input.okWide C.prog (w.forCall tape i) .any w.heap.size f i ∧
      ((s.pre enc C.prog fn conds apart (w.forCall tape i).memory i.args ∧ X (w.forCall tape i).memory i.args) ∧ sizedMet enc C.prog fn (OpenSpec.ofChange s) apart (w.forCall tape i).memory i.args) ∧ a.holds C.prog (lone (Frame.enter C.prog f i.args .normal) [] (w.forCall tape i)))
    (contract : ∀ (W : World) (base : Nat) (args : Array Value) (ds gs : List (DataW H)) (before : List MemPlace),
      (∀ (j : Nat) t v, fn.params[j]? = some t → args[j]? = some v → Value.okWide C.prog W .any base t v) →
      DataW.Whole enc C.prog fn.params.toList s.vars apart W args.toList ds gs before →
      (DataW.weightsEach C.prog (fn.params.toList ++ s.plain.varTypes C.prog) (ds ++ gs)).all (· ≤ reachBytes) = true → X W args → W.ShapedOpen C.prog →
      Calls C.prog f args W fun e W' => ∃ v, e = .returned v ∧ s.post enc C.prog fn apart fresh handsOn again W args v W') :
    ReturnsInHanded a C os f .any (fun w args => (s.pre enc C.prog fn conds apart w args ∧ X w args) ∧ sizedMet enc C.prog fn (OpenSpec.ofChange s) apart w args) (s.post enc C.prog fn apart fresh handsOn again) := by
  refine returnsInHanded_of_calls own started noInit witness fun w tape i _ hsh _ hok hpre _ => ?_
  obtain ⟨⟨⟨ds, gs, before, hw, _⟩, hx⟩, hz⟩ := hpre
  obtain ⟨_, _, _, fn2, hfn2, _, _, _, _, hval⟩ := hok
  cases Option.some.inj (hfn2.symm.trans hfn)
  have hw2 := DataW.Whole.of_heap (w' := w.forCall tape i) (by rfl) hw
  refine (contract _ w.heap.size i.args ds gs before hval hw2 (hz.weights hw) (hX _ _ _ (by rfl) hx) hsh).mono fun e W' h => ?_
  obtain ⟨v, rfl, hp⟩ := h
  exact ChangeSpec.post_blind hp

theorem cellsV : Tryz.prog.cellsOf 25 = 3 := by kernel_rfl
abbrev dv {H : Type} (k n : Int) (s : ByteArray) : DataW H := .agg [.lit (.int .i64 k), .lit (.int .i64 n), .lit (.string s.data.toList)]
set_option maxRecDepth 100000 in
theorem open_val {H : Type} {enc : TypeId × Value → H} {W : World} {base b0 : Nat} {sp : Nat → Bool} {held : Bool} {v : Value} {d : DataW H} {p : List MemPlace} (hv : Value.okWide Tryz.prog W .any b0 25 v) (h : DataW.Trod enc Tryz.prog W base sp held 25 v d p) :
    ∃ (k n : Int) (s : ByteArray), v = vv k n s ∧ d = dv k n s ∧ p = [] ∧ (Lit.int .i64 k).wf = true ∧ (Lit.int .i64 n).wf = true ∧ s.size ≤ maxLen := by
  obtain ⟨c0, c1, c2, y0, y1, y2, m, rfl, rfl, rfl, hy0, hy1, hy2⟩ := open_agg3 Tryz.underlying25 (by kernel_rfl) cellsV hv h
  obtain ⟨k, e0, rfl, wk⟩ := DataW.trod_int Tryz.underlying3 hy0
  obtain ⟨n, e1, rfl, wn⟩ := DataW.trod_int Tryz.underlying3 hy1
  obtain ⟨s, e2, rfl, ws⟩ := DataW.trod_string Tryz.underlying9 hy2
  simp at e0 e1 e2
  subst e0 e1 e2
  exact ⟨k, n, s, rfl, rfl, rfl, wk, wn, ws⟩
set_option maxRecDepth 100000 in
theorem shut_val {H : Type} {enc : TypeId × Value → H} {W : World} {base : Nat} {sp : Nat → Bool} {held : Bool} {k n : Int} {s : ByteArray} (wk : (Lit.int .i64 k).wf = true) (wn : (Lit.int .i64 n).wf = true) (ws : s.size ≤ maxLen) :
    DataW.Trod enc Tryz.prog W base sp held 25 (vv k n s) (dv k n s) [] :=
  shut_agg3 (y0 := (.lit (.int .i64 k), [])) (y1 := (.lit (.int .i64 n), [])) (y2 := (.lit (.string s.data.toList), [])) Tryz.underlying25 (by kernel_rfl) cellsV ⟨1, by simp [DataW.trod, Tryz.underlying3, wk]⟩ ⟨1, by simp [DataW.trod, Tryz.underlying3, wn]⟩ ⟨1, by simp [DataW.trod, Tryz.underlying9, ws]⟩
end Go.Proofs.YtdendpckihckeaaGreatDoor
/- What the listed variables give to the scanners, and to what shows and writes. -/
namespace Go.Proofs.YtdendpckihckeaaGreatDoor
open Go.ChangeShapes Go.WideShapes Go.ChangeAt Go.WideMaps Go.WideElems Go.RowKit

theorem gES : Tryz.prog.globalNamed "strconv.ErrSyntax" = some 6 := by kernel_rfl
theorem tES : (Tryz.prog.globals[6]?).map (·.type) = some 91 := by kernel_rfl
theorem starES : ("*errors.errorString" : String) = "*" ++ "errors.errorString" := by decide +kernel
theorem rowES (u : TypeId) (h : Tryz.prog.typeName? 3 u = some "*errors.errorString") : u = 171 :=
  typeName_ptr_named (nm := "errors.errorString") (by rw [← starES]; kernel_rfl) (by kernel_rfl) (by decide) u (by rw [← starES]; exact h)
theorem es_of {W : World} (h : laidMetH Tryz.prog laidV W) : ES W := by
  rw [MakeChecks.laidMetH_plain _ _ _ (by kernel_rfl)] at h
  have h5 := laidMet.tail (laidMet.tail (laidMet.tail (laidMet.tail (laidMet.tail h))))
  obtain ⟨a, s, hv, -, -, -⟩ := laid_sentinel h5 gES tES Tryz.underlying91 rowES Tryz.underlying171 Tryz.underlying173 rfl rfl Tryz.underlying9 (by kernel_rfl) (by kernel_rfl)
  refine ⟨.iface 171 (.pointer (some a)), ?_, .inr ⟨_, _, rfl⟩⟩
  simpa using World.var?_cell gES hv 0
theorem ve_of {W : World} (h : laidMetH Tryz.prog laidV W) (hsh : W.ShapedOpen Tryz.prog) : VE W := by
  have hv := vt_of h hsh
  exact ⟨hv.u, hv.t, hv.m, es_of h⟩
theorem t10 : (Tryz.prog.globals[3]?).map (·.type) = some 151 := by kernel_rfl
theorem p10_of {W : World} (h : laidMetH Tryz.prog laidV W) : P10 W := by
  rw [MakeChecks.laidMetH_plain _ _ _ (by kernel_rfl)] at h
  exact Lib.tabIs_of_head g10 t10 Tryz.underlying151 Tryz.underlying128 (by kernel_rfl) (by kernel_rfl) (laidMet.tail (laidMet.tail h))
end Go.Proofs.YtdendpckihckeaaGreatDoor
/- What the listed variables give to the laws of showing and writing. -/
namespace Go.Proofs.YtdendpckihckeaaGreatDoor
open Go.ChangeShapes Go.WideShapes Go.ChangeAt Go.WideMaps Go.WideElems Go.RowKit
theorem vf_of {W : World} (h : laidMetH Tryz.prog laidV W) (hsh : W.ShapedOpen Tryz.prog) : VF W := by
  have hv := ve_of h hsh
  have hp := p10_of h
  rw [MakeChecks.laidMetH_plain _ _ _ (by kernel_rfl)] at h
  have h2 := laidMet.tail h
  have h3 : Lib.TabIs Tryz.prog W "math/bits.deBruijn64tab" .u8 tab64 := Lib.tabIs_of_head g64 t64 Tryz.underlying162 Tryz.underlying5 (by kernel_rfl) (by kernel_rfl) h2
  exact ⟨hv, hp, ⟨h3.cell g64 0 (by decide), h3.cell g64 1 (by decide), h3.cell g64 3 (by decide), h3.cell g64 7 (by decide)⟩⟩
end Go.Proofs.YtdendpckihckeaaGreatDoor
