/- Values: what is read was written or shown so, and what is written or shown is read. Plain. -/
import Derived.Test.YtdendpckihckeaaGreatDoorXL
import Derived.Test.YtdendpckihckeaaGreatDoorWG
import Derived.Test.YtdendpckihckeaaGreatDoorVTy
import Derived.Test.YtdendpckihckeaaGreatDoorVZ
import Derived.Test.YtdendpckihckeaaGreatDoorM5
namespace Go.Proofs.YtdendpckihckeaaGreatDoor
open Go.RowKit

theorem ok_of_chk {k n : Int} {s : ByteArray} (h : chkV k n s = true) : okL k n s.data.toList := by
  have nil : s.size = 0 → s.data.toList = [] := fun e => List.eq_nil_of_length_eq_zero (by rw [← Lib.size_eq]; exact e)
  unfold chkV at h
  split at h
  · rename_i e; simp only [Bool.and_eq_true, decide_eq_true_eq] at h; exact .inl ⟨e, nil h.1, h.2.1, h.2.2⟩
  split at h
  · rename_i e; simp only [Bool.and_eq_true, decide_eq_true_eq] at h; exact .inr (.inl ⟨e, h.1, by rw [← Lib.size_eq]; exact h.2.1, h.2.2⟩)
  split at h
  · rename_i e; simp only [Bool.and_eq_true, decide_eq_true_eq] at h; exact .inr (.inr (.inl ⟨e, nil h.1, h.2⟩))
  split at h
  · rename_i e; simp only [Bool.and_eq_true, decide_eq_true_eq] at h; exact .inr (.inr (.inr ⟨e, h.1, by rw [← Lib.size_eq]; exact h.2⟩))
  · cases h
theorem chk_of_ok {k n : Int} {s : List UInt8} (h : okL k n s) : chkV k n (str s) = true := by
  rcases h with ⟨rfl, rfl, h1, h2⟩ | ⟨rfl, rfl, h1, h2⟩ | ⟨rfl, rfl, h1⟩ | ⟨rfl, rfl, h1⟩
  · unfold chkV
    rw [if_pos rfl, Bool.and_eq_true, decide_eq_true_eq, decide_eq_true_eq]
    exact ⟨rfl, h1, h2⟩
  · unfold chkV
    rw [if_neg (by decide), if_pos rfl, Bool.and_eq_true, Bool.and_eq_true, decide_eq_true_eq, decide_eq_true_eq, str_size, str_data]
    exact ⟨rfl, h1, h2⟩
  · unfold chkV
    rw [if_neg (by decide), if_neg (by decide), if_pos rfl, Bool.and_eq_true, decide_eq_true_eq, decide_eq_true_eq]
    exact ⟨rfl, h1⟩
  · unfold chkV
    rw [if_neg (by decide), if_neg (by decide), if_neg (by decide), if_pos rfl, Bool.and_eq_true, decide_eq_true_eq, decide_eq_true_eq, str_size]
    exact ⟨rfl, h1⟩
theorem shw_is {k n : Int} {s : ByteArray} (h : chkV k n s = true) : shwV k n s = str (shwL k n s.data.toList) := by
  unfold shwV shwL
  rw [if_pos h]
  by_cases k1 : k = 1
  · rw [if_pos k1, if_pos k1]
  rw [if_neg k1, if_neg k1]
  by_cases k3 : k = 3
  · rw [if_pos k3, if_pos k3]
    by_cases hn : n = 1
    · rw [if_pos (by rw [hn]; rfl), if_pos hn]; rfl
    · rw [if_neg (by simpa using hn), if_neg hn]; rfl
  rw [if_neg k3, if_neg k3]
  by_cases k4 : k = 4
  · rw [if_pos k4, if_pos k4]
  · rw [if_neg k4, if_neg k4]
    rfl
/-- What is scanned was shown so. -/
theorem scan_once {s : ByteArray} (h : (scn s.data.toList).e = 0) : chkV (scn s.data.toList).k (scn s.data.toList).n (str (scn s.data.toList).s) = true ∧ shwV (scn s.data.toList).k (scn s.data.toList).n (str (scn s.data.toList).s) ++ str (scn s.data.toList).r = s := by
  obtain ⟨a, b⟩ := scn_once h
  have hc := chk_of_ok a
  refine ⟨hc, ?_⟩
  rw [shw_is hc, str_data, str_app', b, str_of]
where str_app' {a b : List UInt8} : str a ++ str b = str (a ++ b) := ba_eq (by rw [ba_append, str_data, str_data, str_data])
theorem goes32 (t : List UInt8) : goesL (32 :: t) = false := by
  unfold goesL
  rw [dec_ascii (by decide)]
  decide
theorem goes_nil : goesL [] = false := by decide +kernel
theorem shw_back {k n : Int} {s : ByteArray} (h : chkV k n s = true) (b : ByteArray) : scn ((shwV k n s ++ ⟨#[32]⟩) ++ b).data.toList = ⟨k, n, s.data.toList, 32 :: b.data.toList, 0⟩ := by
  rw [ba_append, ba_append, shw_is h, str_data, List.append_assoc]
  exact scn_back (ok_of_chk h) (goes32 _)
theorem shw_parse {k n : Int} {s : ByteArray} (h : chkV k n s = true) : prs (shwV k n s).data.toList = ⟨k, n, s.data.toList, [], 0⟩ := by
  have e : scn (shwV k n s).data.toList = ⟨k, n, s.data.toList, [], 0⟩ := by
    rw [shw_is h, str_data, ← List.append_nil (shwL k n s.data.toList)]
    exact scn_back (ok_of_chk h) goes_nil
  unfold prs
  rw [e]
  rfl
theorem flat6 : ∀ l : List Nat, (l.flatMap shR).length ≤ 6 * l.length
  | [] => by simp
  | c :: l => by
    have := flat6 l
    have := shR_len c
    simp only [List.flatMap_cons, List.length_append, List.length_cons]
    omega
theorem shw_size {k n : Int} {s : ByteArray} (h : chkV k n s = true) : (shwV k n s).size ≤ 5000 := by
  rw [shw_is h, str_size]
  rcases ok_of_chk h with ⟨rfl, -, h1, h2⟩ | ⟨rfl, -, h1, -⟩ | ⟨rfl, -, -⟩ | ⟨rfl, -, h1⟩
  · unfold shwL Lib.itoa
    rw [if_pos rfl]
    have l1 := dec_len' 16 n.natAbs (by omega) (by decide)
    have l2 := dec_len' 16 n.toNat (by omega) (by decide)
    split
    · rw [List.length_cons]; omega
    · omega
  · unfold shwL
    rw [if_neg (by decide), if_neg (by decide), if_neg (by decide)]
    have l1 := flat6 (rns s.data.toList)
    have l2 : (rns s.data.toList).length ≤ s.data.toList.length := rns_len_le _ _
    simp only [List.length_append, List.length_cons, List.length_nil]
    omega
  · unfold shwL
    rw [if_neg (by decide), if_pos rfl]
    split <;> decide
  · unfold shwL
    rw [if_neg (by decide), if_neg (by decide), if_pos rfl]
    simp only [List.length_append, List.length_cons, List.length_nil, hexs_len]
    omega
/-! ### bytes -/
theorem txt_list (k n : Int) (s : ByteArray) : (txt k n s).data.toList = Q.numL k ++ Q.itB ⟨itm k, n, s⟩ := by
  unfold txt
  simp only [List.flatMap_cons, List.flatMap_nil, List.append_nil]
  rw [show Q.itB ⟨1, k, ⟨#[]⟩⟩ = Q.numL k from Q.itB_1 rfl]
theorem read_once {s : ByteArray} (h : (rd s).e = 0) : chkV (rd s).k (rd s).n (rd s).s = true ∧ txtV (rd s).k (rd s).n (rd s).s ++ (rd s).r = s := by
  unfold rd at *
  by_cases h1 : ¬ Q.getE s = 0
  · rw [if_pos h1] at h; exact absurd h h1
  rw [if_neg h1] at h ⊢
  by_cases h2 : Q.getV s < 1 ∨ 4 < Q.getV s
  · rw [if_pos h2] at h; simp at h
  rw [if_neg h2] at h ⊢
  by_cases h3 : ¬ Q.tE (Q.getRest s) (itm (Q.getV s)) = 0
  · rw [if_pos h3] at h; exact absurd h h3
  rw [if_neg h3] at h ⊢
  by_cases h4 : chkV (Q.getV s) (Q.tN (Q.getRest s) (itm (Q.getV s))) (Q.tS (Q.getRest s) (itm (Q.getV s))) = true
  · rw [if_pos h4]
    refine ⟨h4, ?_⟩
    simp only
    unfold txtV
    rw [if_pos h4]
    have i := itm_rng (k := Q.getV s) (by omega) (by omega)
    have g := Q.get_bytes (Decidable.not_not.1 h1)
    have t := (Q.item_bytes i.1 i.2 (Decidable.not_not.1 h3)).2
    refine ba_eq ?_
    rw [ba_append, txt_list, List.append_assoc, t, g]
  · rw [if_neg h4] at h; simp at h
theorem read_back {k n : Int} {s : ByteArray} (h : chkV k n s = true) (b : ByteArray) : rd (txtV k n s ++ b) = ⟨k, n, s, b, 0⟩ := by
  have hk := chk_kind h
  have hm := chk_may h
  simp only [List.all_cons, List.all_nil, Bool.and_true, Bool.and_eq_true] at hm
  have e : (txtV k n s ++ b).data.toList = Q.numL k ++ (Q.itB ⟨itm k, n, s⟩ ++ b.data.toList) := by
    unfold txtV
    rw [if_pos h, ba_append, txt_list, List.append_assoc]
  obtain ⟨g1, g2, g3⟩ := Q.get_num (by omega) (by omega) e
  obtain ⟨-, t1, t2, t3⟩ := Q.item_read (x := ⟨itm k, n, s⟩) hm.2 g3
  simp only at t1 t2 t3
  have t4 := congrArg It.n t2
  have t5 := congrArg It.s t2
  simp only at t4 t5
  unfold rd
  rw [if_neg (fun e => e g1), g2, if_neg (by omega), if_neg (fun e => e t1), t4, t5, if_pos h, ba_eq t3]
theorem txt_size {k n : Int} {s : ByteArray} (h : chkV k n s = true) : (txtV k n s).size ≤ 131088 := by
  have := Q.flat_len _ (chk_may h)
  unfold txtV
  rw [if_pos h]
  unfold txt
  rw [Lib.size_eq]
  simpa using this
end Go.Proofs.YtdendpckihckeaaGreatDoor
