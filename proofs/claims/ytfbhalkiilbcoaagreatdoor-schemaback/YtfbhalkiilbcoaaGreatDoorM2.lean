/- Plain mathematics: of numbers with as many bytes the lesser one stands ahead, byte by byte. -/
import Derived.Test.YtfbhalkiilbcoaaGreatDoorM
namespace Go.Proofs.YtfbhalkiilbcoaaGreatDoor.Q
open Go.RowKit

def bv : List UInt8 → Nat
  | [] => 0
  | a :: l => a.toNat * 256 ^ l.length + bv l
theorem bv_lt : ∀ l : List UInt8, bv l < 256 ^ l.length
  | [] => by simp [bv]
  | a :: l => by
    have h := bv_lt l
    have ha := a.toNat_lt
    simp only [bv, List.length_cons, Nat.pow_succ]
    have : a.toNat * 256 ^ l.length ≤ 255 * 256 ^ l.length := Nat.mul_le_mul_right _ (by omega)
    omega
theorem bytesLess_bv : ∀ l m : List UInt8, l.length = m.length → Op.bytesLess l m = decide (bv l < bv m)
  | [], [], _ => by simp [Op.bytesLess, bv]
  | [], b :: m, h => by simp at h
  | a :: l, [], h => by simp at h
  | a :: l, b :: m, h => by
    have hl : l.length = m.length := by simpa using h
    have ih := bytesLess_bv l m hl
    have h1 := bv_lt l
    have h2 := bv_lt m
    rw [hl] at h1
    simp only [Op.bytesLess, ih, bv, hl]
    generalize bv l = x at *
    generalize bv m = y at *
    generalize 256 ^ m.length = p at *
    rw [Bool.eq_iff_iff]
    simp only [Bool.or_eq_true, Bool.and_eq_true, decide_eq_true_eq, beq_iff_eq, UInt8.lt_iff_toNat_lt, ← UInt8.toNat_inj]
    generalize a.toNat = u
    generalize b.toNat = v
    constructor
    · rintro (hh | ⟨rfl, hh⟩)
      · have : (u + 1) * p ≤ v * p := Nat.mul_le_mul_right _ hh
        rw [Nat.add_mul] at this
        omega
      · omega
    · intro hh
      rcases Nat.lt_trichotomy u v with c | c | c
      · exact .inl c
      · subst c; exact .inr ⟨rfl, by omega⟩
      · have : (v + 1) * p ≤ u * p := Nat.mul_le_mul_right _ c
        rw [Nat.add_mul] at this
        omega

/-- The bytes of a number, as bytes. -/
def numL (n : Int) : List UInt8 := (numI n).map fun x => UInt8.ofNat x.toNat
theorem strOfNums_toList (n : Int) : (strOfNums (numI n)).toList = numL n := by
  rw [ByteArray.toList_eq]; rfl
theorem strOfNums_len (n : Int) : ((strOfNums (numI n)).size : Int) = qsize n := by
  rw [strOfNums_size]
  unfold numI qsize
  (repeat' split) <;> rfl
theorem numL_len (n : Int) : ((numL n).length : Int) = qsize n := by
  unfold numL
  rw [List.length_map]
  unfold numI qsize
  (repeat' split) <;> rfl
def tagOf (n : Int) : Int := if n < 64 then 0 else if n < 16384 then 16384 else if n < 1073741824 then 2147483648 else 13835058055282163712
theorem u8nat (x : Int) (h0 : 0 ≤ x) (h1 : x < 256) : ((UInt8.ofNat x.toNat).toNat : Int) = x := by
  rw [UInt8.toNat_ofNat']; omega
theorem bv1 (a : Int) (ha : 0 ≤ a ∧ a < 256) : (bv ([a].map fun x => UInt8.ofNat x.toNat) : Int) = a := by
  have := u8nat a ha.1 ha.2
  simp only [bv, List.map_cons, List.map_nil, List.length_nil]; omega
theorem bv_cons (a : Int) (l : List Int) (ha : 0 ≤ a ∧ a < 256) : (bv ((a :: l).map fun x => UInt8.ofNat x.toNat) : Int) = a * 256 ^ l.length + (bv (l.map fun x => UInt8.ofNat x.toNat) : Int) := by
  have := u8nat a ha.1 ha.2
  simp only [bv, List.map_cons, List.length_map]
  rw [Int.natCast_add, Int.natCast_mul, this]
  simp
theorem bv_nil : (bv (([] : List Int).map fun x => UInt8.ofNat x.toNat) : Int) = 0 := rfl
theorem bv_numL (n : Int) (h0 : 0 ≤ n) (h1 : n ≤ 4611686018427387903) : (bv (numL n) : Int) = n + tagOf n := by
  unfold numL tagOf
  by_cases c1 : n < 64
  · rw [numI_1 h0 c1, if_pos c1, bv_cons _ _ (by omega), bv_nil]
    simp only [List.length_nil]; omega
  rw [if_neg c1]
  by_cases c2 : n < 16384
  · rw [numI_2 (by omega) c2, if_pos c2]
    repeat rw [bv_cons _ _ (by omega)]
    rw [bv_nil]
    simp only [List.length_nil, List.length_cons]; omega
  rw [if_neg c2]
  by_cases c4 : n < 1073741824
  · rw [numI_4 (by omega) c4, if_pos c4]
    repeat rw [bv_cons _ _ (by omega)]
    rw [bv_nil]
    simp only [List.length_nil, List.length_cons]; omega
  · rw [numI_8 (by omega) h1, if_neg c4]
    repeat rw [bv_cons _ _ (by omega)]
    rw [bv_nil]
    simp only [List.length_nil, List.length_cons]; omega
theorem qsize_mono (a b : Int) (h0 : 0 ≤ a) (h : a ≤ b) (h1 : b ≤ 4611686018427387903) : qsize a ≤ qsize b := by
  unfold qsize; (repeat' split) <;> omega
theorem tag_qsize (a : Int) (ha : 0 ≤ a ∧ a ≤ 4611686018427387903) : tagOf a = if qsize a = 1 then 0 else if qsize a = 2 then 16384 else if qsize a = 4 then 2147483648 else 13835058055282163712 := by
  unfold tagOf
  by_cases c1 : a < 64
  · rw [qsize_1 ha.1 c1, if_pos c1]; rfl
  by_cases c2 : a < 16384
  · rw [qsize_2 (by omega) c2, if_neg c1, if_pos c2]; rfl
  by_cases c4 : a < 1073741824
  · rw [qsize_4 (by omega) c4, if_neg c1, if_neg c2, if_pos c4]; rfl
  · rw [qsize_8 (by omega) ha.2, if_neg c1, if_neg c2, if_neg c4]; rfl
theorem qsize_tag (a b : Int) (ha : 0 ≤ a ∧ a ≤ 4611686018427387903) (hb : 0 ≤ b ∧ b ≤ 4611686018427387903) (h : qsize a = qsize b) : tagOf a = tagOf b := by
  rw [tag_qsize a ha, tag_qsize b hb, h]
theorem num_less (a b : Int) (ha : 0 ≤ a ∧ a ≤ 4611686018427387903) (hb : 0 ≤ b ∧ b ≤ 4611686018427387903) (h : qsize a = qsize b) :
    Op.bytesLess (strOfNums (numI a)).toList (strOfNums (numI b)).toList = decide (a < b) := by
  rw [strOfNums_toList, strOfNums_toList, bytesLess_bv _ _ (by have := numL_len a; have := numL_len b; omega)]
  have e1 := bv_numL a ha.1 ha.2
  have e2 := bv_numL b hb.1 hb.2
  have e3 := qsize_tag a b ha hb h
  rw [decide_eq_decide]
  omega
theorem num_same (a b : Int) (ha : 0 ≤ a ∧ a ≤ 4611686018427387903) (hb : 0 ≤ b ∧ b ≤ 4611686018427387903) :
    ((strOfNums (numI a)).toList == (strOfNums (numI b)).toList) = (a == b) := by
  rw [Bool.eq_iff_iff, beq_iff_eq, beq_iff_eq, strOfNums_toList, strOfNums_toList]
  constructor
  · intro e
    have e0 := congrArg List.length e
    have e1 := bv_numL a ha.1 ha.2
    have e2 := bv_numL b hb.1 hb.2
    have e3 := qsize_tag a b ha hb (by have := numL_len a; have := numL_len b; omega)
    have e4 := congrArg bv e
    omega
  · intro e; rw [e]
end Go.Proofs.YtfbhalkiilbcoaaGreatDoor.Q
