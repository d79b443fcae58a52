/- Plain mathematics: what is written is read, whatever stands behind it. -/
import Derived.Test.YtciibeldmcakeaaDoorM4
namespace Go.Proofs.YtciibeldmcakeaaDoor.Q
open Go.RowKit

theorem bt_list (s : ByteArray) (i : Nat) : bt s i = ((s.data.toList.getD i 0).toNat : Int) := by
  unfold bt
  split
  · rename_i h
    have h' : i < s.data.toList.length := by simpa using h
    simp only [List.getD, List.getElem?_eq_getElem h', Option.getD_some]
    rfl
  · rename_i h
    have h' : s.data.toList.length ≤ i := by simpa using h
    simp only [List.getD, List.getElem?_eq_none h', Option.getD_none]
    rfl
theorem ba_of {a b : ByteArray} (h : a.data.toList = b.data.toList) : a = b := by
  rw [ba_eta a, ba_eta b, h]
theorem size_list (s : ByteArray) : s.data.toList.length = s.size := by simp

/-- What getE, getV, getRest are, once the form's size is known. -/
theorem get_of {s : ByteArray} {k : Nat} {n : Int} (h1 : gsz s = k) (h2 : k ≤ s.size) (h3 : gval s = n) (h4 : qsize n = k) : getE s = 0 ∧ getV s = n ∧ (getRest s).data.toList = s.data.toList.drop k := by
  have e : getE s = 0 := by unfold getE; rw [h1, if_neg (by omega), h3, if_pos h4]
  refine ⟨e, ?_, ?_⟩
  · unfold getV; rw [if_pos e, h3]
  · unfold getRest; rw [if_pos e, h1, extract_back]

theorem get_num {s : ByteArray} {n : Int} {r : List UInt8} (h0 : 0 ≤ n) (h1 : n ≤ 4611686018427387903) (h : s.data.toList = numL n ++ r) : getE s = 0 ∧ getV s = n ∧ (getRest s).data.toList = r := by
  have hl := congrArg List.length h
  rw [size_list, List.length_append] at hl
  have hb : ∀ i, bt s i = (((numL n ++ r).getD i 0).toNat : Int) := fun i => by rw [bt_list, h]
  by_cases c1 : n < 64
  · have e : numL n = [UInt8.ofNat n.toNat] := by unfold numL; rw [numI_1 h0 c1]; rfl
    rw [e] at hb hl h
    have b0 : bt s 0 = n := (hb 0).trans (u8nat n h0 (by omega))
    simp only [List.length_cons, List.length_nil] at hl
    have g1 : gsz s = 1 := by unfold gsz; rw [b0, if_pos (by omega)]
    have g2 : gval s = n := by unfold gval; rw [b0, if_pos (by omega)]; omega
    obtain ⟨a, b, c⟩ := get_of g1 (by omega) g2 (qsize_1 h0 c1)
    exact ⟨a, b, by rw [c, h]; rfl⟩
  by_cases c2 : n < 16384
  · have e : numL n = [UInt8.ofNat (64 + n / 256).toNat, UInt8.ofNat (n % 256).toNat] := by unfold numL; rw [numI_2 (by omega) c2]; rfl
    rw [e] at hb hl h
    have b0 : bt s 0 = 64 + n / 256 := (hb 0).trans (u8nat _ (by omega) (by omega))
    have b1 : bt s 1 = n % 256 := (hb 1).trans (u8nat _ (by omega) (by omega))
    simp only [List.length_cons, List.length_nil] at hl
    have g1 : gsz s = 2 := by unfold gsz; rw [b0, if_neg (by omega), if_pos (by omega)]
    have g2 : gval s = n := by unfold gval; rw [b0, b1, if_neg (by omega), if_pos (by omega)]; omega
    obtain ⟨a, b, c⟩ := get_of g1 (by omega) g2 (qsize_2 (by omega) c2)
    exact ⟨a, b, by rw [c, h]; rfl⟩
  by_cases c4 : n < 1073741824
  · have e : numL n = [UInt8.ofNat (128 + n / 16777216).toNat, UInt8.ofNat (n / 65536 % 256).toNat, UInt8.ofNat (n / 256 % 256).toNat, UInt8.ofNat (n % 256).toNat] := by unfold numL; rw [numI_4 (by omega) c4]; rfl
    rw [e] at hb hl h
    have b0 : bt s 0 = 128 + n / 16777216 := (hb 0).trans (u8nat _ (by omega) (by omega))
    have b1 : bt s 1 = n / 65536 % 256 := (hb 1).trans (u8nat _ (by omega) (by omega))
    have b2 : bt s 2 = n / 256 % 256 := (hb 2).trans (u8nat _ (by omega) (by omega))
    have b3 : bt s 3 = n % 256 := (hb 3).trans (u8nat _ (by omega) (by omega))
    simp only [List.length_cons, List.length_nil] at hl
    have g1 : gsz s = 4 := by unfold gsz; rw [b0, if_neg (by omega), if_neg (by omega), if_pos (by omega)]
    have g2 : gval s = n := by unfold gval; rw [b0, b1, b2, b3, if_neg (by omega), if_neg (by omega), if_pos (by omega)]; omega
    obtain ⟨a, b, c⟩ := get_of g1 (by omega) g2 (qsize_4 (by omega) c4)
    exact ⟨a, b, by rw [c, h]; rfl⟩
  · have e : numL n = [UInt8.ofNat (192 + n / 72057594037927936).toNat, UInt8.ofNat (n / 281474976710656 % 256).toNat, UInt8.ofNat (n / 1099511627776 % 256).toNat, UInt8.ofNat (n / 4294967296 % 256).toNat, UInt8.ofNat (n / 16777216 % 256).toNat, UInt8.ofNat (n / 65536 % 256).toNat, UInt8.ofNat (n / 256 % 256).toNat, UInt8.ofNat (n % 256).toNat] := by unfold numL; rw [numI_8 (by omega) h1]; rfl
    rw [e] at hb hl h
    have b0 : bt s 0 = 192 + n / 72057594037927936 := (hb 0).trans (u8nat _ (by omega) (by omega))
    have b1 : bt s 1 = n / 281474976710656 % 256 := (hb 1).trans (u8nat _ (by omega) (by omega))
    have b2 : bt s 2 = n / 1099511627776 % 256 := (hb 2).trans (u8nat _ (by omega) (by omega))
    have b3 : bt s 3 = n / 4294967296 % 256 := (hb 3).trans (u8nat _ (by omega) (by omega))
    have b4 : bt s 4 = n / 16777216 % 256 := (hb 4).trans (u8nat _ (by omega) (by omega))
    have b5 : bt s 5 = n / 65536 % 256 := (hb 5).trans (u8nat _ (by omega) (by omega))
    have b6 : bt s 6 = n / 256 % 256 := (hb 6).trans (u8nat _ (by omega) (by omega))
    have b7 : bt s 7 = n % 256 := (hb 7).trans (u8nat _ (by omega) (by omega))
    simp only [List.length_cons, List.length_nil] at hl
    have g1 : gsz s = 8 := by unfold gsz; rw [b0, if_neg (by omega), if_neg (by omega), if_neg (by omega)]
    have g2 : gval s = n := by unfold gval; rw [b0, b1, b2, b3, b4, b5, b6, b7, if_neg (by omega), if_neg (by omega), if_neg (by omega)]; omega
    obtain ⟨a, b, c⟩ := get_of g1 (by omega) g2 (qsize_8 (by omega) h1)
    exact ⟨a, b, by rw [c, h]; rfl⟩

theorem text_read {s t : ByteArray} {r : List UInt8} (ht : t.size ≤ 65536) (h : s.data.toList = txB t ++ r) : ttE s = 0 ∧ ttS s = t ∧ (ttR s).data.toList = r := by
  unfold txB at h
  rw [List.append_assoc] at h
  obtain ⟨a, b, c⟩ := get_num (by omega) (by omega) h
  have hz : (getRest s).size = t.size + r.length := by rw [← size_list, c, List.length_append, size_list]
  have e : ttE s = 0 := by
    unfold ttE
    rw [if_neg (by omega), b, if_neg (by omega), if_neg (by omega)]
  refine ⟨e, ?_, ?_⟩
  · unfold ttS
    rw [if_pos e, b]
    apply ba_of
    rw [extract_front', c, Int.toNat_natCast, ← size_list t]
    exact List.take_left
  · unfold ttR
    rw [if_pos e, b, extract_back, c, Int.toNat_natCast, ← size_list t]
    exact List.drop_left

theorem wof_zig (z : Int) (h0 : -2305843009213693952 ≤ z) (h1 : z ≤ 2305843009213693951) : wof (zig z) = z ∧ 0 ≤ zig z ∧ zig z ≤ 4611686018427387903 := by
  by_cases c : z < 0
  · rw [zig_neg h0 c]
    refine ⟨?_, by omega, by omega⟩
    unfold wof
    rw [if_neg (by omega)]; omega
  · rw [zig_pos (by omega) h1]
    refine ⟨?_, by omega, by omega⟩
    unfold wof
    rw [if_pos (by omega)]; omega

theorem empty_eq {s : ByteArray} (h : s.toList.isEmpty = true) : s = ⟨#[]⟩ := by
  have := (nil_size s).1 (by simpa using h)
  exact ba_of (List.eq_nil_of_length_eq_zero (by rw [size_list]; exact this))

theorem item_read {s : ByteArray} {x : It} {r : List UInt8} (hm : mayIt x = true) (h : s.data.toList = itB x ++ r) : isK x.k = true ∧ tE s x.k = 0 ∧ (⟨x.k, tN s x.k, tS s x.k⟩ : It) = x ∧ (tR s x.k).data.toList = r := by
  obtain ⟨k, n, t⟩ := x
  unfold mayIt mayB at hm
  simp only at hm h ⊢
  split at hm
  · rename_i c
    subst c
    rw [Bool.and_eq_true] at hm
    have hn := of_decide_eq_true hm.2
    have h : s.data.toList = numL n ++ r := h
    obtain ⟨a, b, c⟩ := get_num hn.1 hn.2 h
    refine ⟨rfl, a, ?_, c⟩
    show It.mk 1 (getV s) ⟨#[]⟩ = _
    rw [b, empty_eq hm.1]
  split at hm
  · rename_i _ c
    subst c
    rw [Bool.and_eq_true] at hm
    have hn := of_decide_eq_true hm.2
    obtain ⟨z1, z2, z3⟩ := wof_zig n hn.1 hn.2
    have h : s.data.toList = numL (zig n) ++ r := h
    obtain ⟨a, b, c⟩ := get_num z2 z3 h
    refine ⟨rfl, a, ?_, c⟩
    show It.mk 2 (wof (getV s)) ⟨#[]⟩ = _
    rw [b, z1, empty_eq hm.1]
  split at hm
  · rename_i _ _ c
    subst c
    rw [Bool.and_eq_true] at hm
    have hn := of_decide_eq_true hm.2
    have h : s.data.toList = UInt8.ofNat n.toNat :: r := h
    have hz : s.size = r.length + 1 := by rw [← size_list, h]; rfl
    have hb : bt s 0 = n := by
      rw [bt_list, h]
      exact u8nat n (by omega) (by omega)
    have e : tfE s = 0 := by unfold tfE; rw [if_neg (by omega), if_neg (by omega)]
    refine ⟨rfl, e, ?_, ?_⟩
    · show It.mk 3 (tfV s) ⟨#[]⟩ = _
      unfold tfV
      rw [if_pos e, hb, empty_eq hm.1]
    · show (tfR s).data.toList = r
      unfold tfR
      rw [if_pos e, extract_back, h]
      rfl
  split at hm
  · rename_i _ _ _ c
    subst c
    have hn := of_decide_eq_true hm
    have h : s.data.toList = txB t ++ r := h
    obtain ⟨a, b, c⟩ := text_read hn.2 h
    refine ⟨rfl, a, ?_, c⟩
    show It.mk 4 0 (ttS s) = _
    rw [b, hn.1]
  · cases hm

theorem tk_read : ∀ (l acc : List It) (s : ByteArray) (r : List UInt8), l.all mayIt = true → s.data.toList = l.flatMap itB ++ r →
    (l.map It.k).all isK = true ∧ (tk acc s (l.map It.k)).1 = acc ++ l ∧ (tk acc s (l.map It.k)).2.1.data.toList = r ∧ (tk acc s (l.map It.k)).2.2 = 0
  | [], acc, s, r, _, h => ⟨rfl, by simp [tk], by simpa [tk] using h, rfl⟩
  | x :: l, acc, s, r, hm, h => by
    simp only [List.all_cons, Bool.and_eq_true] at hm
    rw [List.flatMap_cons, List.append_assoc] at h
    obtain ⟨a, b, c, d⟩ := item_read hm.1 h
    have e : tk acc s ((x :: l).map It.k) = tk (acc ++ [x]) (tR s x.k) (l.map It.k) := by
      show (if tE s x.k = 0 then tk (acc ++ [⟨x.k, tN s x.k, tS s x.k⟩]) (tR s x.k) (l.map It.k) else _) = _
      rw [if_pos b, c]
    obtain ⟨i1, i2, i3, i4⟩ := tk_read l (acc ++ [x]) (tR s x.k) r hm.2 d
    rw [e]
    refine ⟨?_, ?_, i3, i4⟩
    · simp only [List.map_cons, List.all_cons, a, i1, Bool.and_self]
    · rw [i2]; simp
theorem ul_read : ∀ (l acc : List ByteArray) (s : ByteArray) (r : List UInt8), l.all okT = true → s.data.toList = l.flatMap txB ++ r →
    (ul acc s l.length).1 = acc ++ l ∧ (ul acc s l.length).2.1.data.toList = r ∧ (ul acc s l.length).2.2 = 0
  | [], acc, s, r, _, h => ⟨by simp [ul], by simpa [ul] using h, rfl⟩
  | x :: l, acc, s, r, hm, h => by
    simp only [List.all_cons, Bool.and_eq_true] at hm
    rw [List.flatMap_cons, List.append_assoc] at h
    obtain ⟨a, b, c⟩ := text_read (of_decide_eq_true hm.1) h
    have e : ul acc s (x :: l).length = ul (acc ++ [x]) (ttR s) l.length := by
      show (if ttE s = 0 then ul (acc ++ [ttS s]) (ttR s) l.length else _) = _
      rw [if_pos a, b]
    obtain ⟨i2, i3, i4⟩ := ul_read l (acc ++ [x]) (ttR s) r hm.2 c
    rw [e]
    exact ⟨by rw [i2]; simp, i3, i4⟩
/-- A row that was written, read by its kinds. -/
theorem takeR_read {l : List It} {s b : ByteArray} (hm : l.all mayIt = true) (h : s.data.toList = l.flatMap itB ++ b.data.toList) : takeR s (l.map It.k) = (l, b, 0) := by
  obtain ⟨a, i2, i3, i4⟩ := tk_read l [] s _ hm h
  unfold takeR
  rw [if_pos a]
  exact Prod.ext (by simpa using i2) (Prod.ext (ba_of i3) i4)
/-- A list that was written, read. -/
theorem unlistR_read {l : List ByteArray} {s b : ByteArray} (hl : l.length ≤ 4096) (hm : l.all okT = true) (h : s.data.toList = (numL l.length ++ l.flatMap txB) ++ b.data.toList) : unlistR s = (l, b, 0) := by
  rw [List.append_assoc] at h
  obtain ⟨a, v, r⟩ := get_num (by omega) (by omega) h
  obtain ⟨i2, i3, i4⟩ := ul_read l [] (getRest s) _ hm r
  unfold unlistR
  rw [if_neg (by omega), v, if_neg (by omega), Int.toNat_natCast]
  exact Prod.ext (by simpa using i2) (Prod.ext (ba_of i3) i4)
end Go.Proofs.YtciibeldmcakeaaDoor.Q
