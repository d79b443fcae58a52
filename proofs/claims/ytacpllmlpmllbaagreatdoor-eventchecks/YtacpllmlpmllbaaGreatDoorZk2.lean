/- A name's parts and beginnings: plain, of no program. -/
import Derived.Test.YtacpllmlpmllbaaGreatDoorZk1
import Derived.Lib.Strings
import Derived.Test.YtacpllmlpmllbaaGreatDoorZk0
import Derived.Lib.Bytealg
import Derived.RegionTactic
import Derived.Deep.QuietTactic
import Derived.BigQuiet
namespace Go.Proofs.YtacpllmlpmllbaaGreatDoor
open Go.Lib
set_option maxRecDepth 100000

theorem chk_no : ∀ (cs : List Nat) (p r : Nat) (f : Bool), chk p r f cs = 0 → 65533 ∉ cs
  | [], _, _, _ => by simp
  | c :: cs, p, r, f => by
    intro h hm
    rcases List.mem_cons.1 hm with rfl | hm
    · have hb : beginsN 65533 = false := by decide
      simp only [chk, hb] at h
      cases f <;> simp at h
    · simp only [chk] at h
      split at h
      · exact chk_no cs _ _ _ h hm
      split at h
      · cases h
      split at h
      · exact chk_no cs _ _ _ h hm
      split at h
      · cases h
      · exact chk_no cs _ _ _ h hm
theorem valid_of_no : ∀ (n : Nat) (l : List UInt8), l.length ≤ n → 65533 ∉ rns l → validD l = true
  | 0, l, hn, _ => by
    have : l = [] := List.eq_nil_of_length_eq_zero (by omega)
    subst this
    rfl
  | n + 1, l, hn, h => by
    by_cases hne : l = []
    · subst hne; rfl
    have hl : 0 < l.length := List.length_pos_iff.2 hne
    have hw := decodeL_width l
    rw [rns_step l hne] at h
    rw [validD_step l hne, if_neg (fun e => h (by rw [e.1]; simp))]
    exact valid_of_no n _ (by rw [List.length_drop]; omega) (fun m => h (List.mem_cons_of_mem _ m))
theorem valid_of_name {l : List UInt8} (h : checkL l = 0) : validD l = true := valid_of_no l.length l (Nat.le_refl _) (chk_no _ _ _ _ h)

def joinR : List (List Nat) → List Nat
  | [] => []
  | [q] => q
  | q :: r :: qs => q ++ 46 :: joinR (r :: qs)
theorem joinR_cons (q : List Nat) {qs : List (List Nat)} (h : qs ≠ []) : joinR (q :: qs) = q ++ 46 :: joinR qs := by
  cases qs with
  | nil => exact absurd rfl h
  | cons r qs => rfl
theorem joinR_onto (c : Nat) {qs : List (List Nat)} (h : qs ≠ []) : joinR (onto c qs) = c :: joinR qs := by
  match qs, h with
  | [q], _ => rfl
  | q :: r :: qs, _ => rfl
theorem join_cut : ∀ cs, joinR (cutR cs) = cs
  | [] => rfl
  | c :: cs => by
    rw [cutR]
    split
    · rename_i h
      rw [joinR_cons [] (cutR_ne cs), join_cut cs, h]; rfl
    · rw [joinR_onto c (cutR_ne cs), join_cut cs]
theorem cut_no : ∀ cs, ∀ q ∈ cutR cs, 46 ∉ q
  | [] => by simp [cutR]
  | c :: cs => by
    have ih := cut_no cs
    rw [cutR]
    split
    · intro q hq
      rcases List.mem_cons.1 hq with rfl | hq
      · simp
      · exact ih q hq
    · rename_i h
      cases hc : cutR cs with
      | nil => exact absurd hc (cutR_ne cs)
      | cons p ps =>
        rw [hc] at ih
        intro q hq
        rcases List.mem_cons.1 hq with rfl | hq
        · intro m
          rcases List.mem_cons.1 m with e | m
          · exact h e.symm
          · exact ih p (by simp) m
        · exact ih q (by simp [hq])
theorem cut_app : ∀ (x cs : List Nat), 46 ∉ x → ∀ h t, cutR cs = h :: t → cutR (x ++ cs) = (x ++ h) :: t
  | [], cs, _, h, t, e => by simpa using e
  | b :: x, cs, hn, h, t, e => by
    have hb : b ≠ 46 := fun e => hn (by simp [e])
    have ih := cut_app x cs (fun m => hn (by simp [m])) h t e
    rw [List.cons_append, cutR, if_neg hb, ih]
    rfl
theorem allok_all {qs : List (List Nat)} (h : qs ≠ []) : allok true qs = qs.all (okp true) := by
  cases qs with
  | nil => exact absurd rfl h
  | cons q qs => rfl

/-- The bytes of parts with points between. -/
def bytesOf (qs : List (List Nat)) : List UInt8 := (joinR qs).flatMap enc
/-- What a name's parts are. -/
structure Parts (l : List UInt8) (qs : List (List Nat)) : Prop where
  ne : qs ≠ []
  cut : cutB l = qs.map (·.flatMap enc)
  bytes : bytesOf qs = l
  no : ∀ q ∈ qs, 46 ∉ q
  ok : ∀ q ∈ qs, okp true q = true
  few : qs.length ≤ 5
  short : (joinR qs).length ≤ 40
  scals : ∀ c ∈ joinR qs, scal c
theorem parts_of {l : List UInt8} (h : checkL l = 0) : Parts l (cutR (rns l)) := by
  have hv := valid_of_name h
  have hs := rns_scal l
  have he : (rns l).flatMap enc = l := enc_rns l.length l (Nat.le_refl _) hv
  have hc := chk_cut (rns l) 1 0 true
  have h' : chk 1 0 true (rns l) = 0 := h
  rw [h'] at hc
  have hok : allok true (cutR (rns l)) = true := by
    by_cases g : allok true (cutR (rns l)) = true
    · exact g
    · rw [if_neg g] at hc; cases hc
  rw [if_pos hok] at hc
  have hlen : ¬ (5 < 1 + (cutR (rns l)).length - 1 ∨ 40 < 0 + (rns l).length) := by
    intro g
    rw [if_pos g] at hc
    cases hc
  refine ⟨cutR_ne _, ?_, ?_, cut_no _, ?_, by omega, ?_, ?_⟩
  · have := cut_enc (rns l) hs
    rw [he] at this
    exact this
  · unfold bytesOf
    rw [join_cut, he]
  · rw [allok_all (cutR_ne _)] at hok
    exact fun q hq => List.all_eq_true.1 hok q hq
  · rw [join_cut]; omega
  · rw [join_cut]; exact hs
theorem joinR_mem : ∀ (qs : List (List Nat)) (q : List Nat), q ∈ qs → ∀ c ∈ q, c ∈ joinR qs
  | [], _, h => by simp at h
  | [r], q, h => by
    have : q = r := by simpa using h
    subst this
    exact fun c hc => hc
  | r :: t :: qs, q, h => by
    intro c hc
    rw [joinR_cons r (by simp)]
    rcases List.mem_cons.1 h with rfl | h
    · exact List.mem_append_left _ hc
    · exact List.mem_append_right _ (List.mem_cons_of_mem _ (joinR_mem (t :: qs) q h c hc))
theorem joinR_len : ∀ (qs : List (List Nat)) (q : List Nat), q ∈ qs → q.length ≤ (joinR qs).length
  | [], _, h => by simp at h
  | [r], q, h => by
    have : q = r := by simpa using h
    subst this
    exact Nat.le_refl _
  | r :: t :: qs, q, h => by
    rw [joinR_cons r (by simp), List.length_append, List.length_cons]
    rcases List.mem_cons.1 h with rfl | h
    · omega
    · have := joinR_len (t :: qs) q h
      omega
end Go.Proofs.YtacpllmlpmllbaaGreatDoor
/- name.Parts and name.Under: walks. -/
namespace Go.Proofs.YtacpllmlpmllbaaGreatDoor
open Go.RowKit

/-- The library's own variable holds some number. -/
def ML (w : World) : Prop := ∃ m, w.cell? ⟨2, 0, none⟩ = some (.int .i64 m)
theorem ML_below {w w' : World} (h : ML w) (hb : Below w.heap.size w w') : ML w' := by
  obtain ⟨m, hm⟩ := h
  exact ⟨m, (hb.cell (p := ⟨2, 0, none⟩) (World.block_lt_of_cell? _ _ hm)).trans hm⟩
def svals (l : List (List UInt8)) : List Value := l.map fun p => Value.string (str p)
theorem split_eq (s : ByteArray) : Lib.splitB ⟨#[46]⟩ 0 (Lib.countB s ⟨#[46]⟩) s = (cutB s.data.toList).map str := by
  have h := Lib.splitB_data ⟨#[46]⟩ 0 (Lib.countB s ⟨#[46]⟩) s
  have h2 : Lib.splitK (⟨#[46]⟩ : ByteArray).data.toList 0 (Lib.countB s ⟨#[46]⟩) s.data.toList = cutB s.data.toList := split_cut s.data.toList
  rw [h2] at h
  rw [← h, List.map_map]
  have e : (str ∘ fun (x : ByteArray) => x.data.toList) = id := funext str_of
  rw [e, List.map_id]
theorem split_len (s : ByteArray) : Lib.countB s ⟨#[46]⟩ + 1 = (cutB s.data.toList).length := by
  have h := Lib.splitB_all ⟨#[46]⟩ (by decide) 0 _ s rfl
  rw [split_eq, List.length_map] at h
  exact h.symm

/-- What Parts leaves. -/
def PaPost (l : List (List UInt8)) (w : World) (e : Ending) (w' : World) : Prop :=
  ∃ v, e = .returned v ∧ IsRow w' 1 v l.length (svals l) ∧ Below w.heap.size w w'
set_option maxHeartbeats 1000000 in
theorem parts_ok (s : ByteArray) (w : World) (hs : s.size ≤ 1000000) (hM : ML w) (hc : checkL s.data.toList = 0) :
    Calls Tryz.prog 192 #[.string s] w fun e w' => PaPost (cutB s.data.toList) w e w' := by
  go_enter Tryz.func192, Tryz.ntmps192
  go_wp2_with fail
  refine (check_any s _ (by omega)).mono ?_
  rintro e w1 ⟨rfl, hb1⟩
  rw [hc]
  obtain ⟨m, hm⟩ := ML_below hM hb1
  have hs1 := hb1.size
  go_wp2_with fail
  refine (Tryz.strings_Split s _ m _ (by omega) hm (by decide)).mono ?_
  rintro e w2 ⟨rfl, rfl⟩
  rw [split_eq, split_len]
  go_wp2
  go_ret
  refine ⟨_, rfl, ⟨by simp [svals], .inr ⟨w1.heap.size, 0, (cutB s.data.toList).length, rfl, by simp, Nat.le_refl _, ?_, ?_⟩⟩, hb1.alloc hs1 _⟩
  · have h1 := split_len s
    have h2 := Lib.countB_le ⟨#[46]⟩ (by decide) s.size s (Nat.le_refl _)
    unfold maxLen
    omega
  · intro j u hu
    simpa [svals, Function.comp] using hu
set_option maxHeartbeats 1000000 in
theorem parts_no (s : ByteArray) (w : World) (hs : s.size ≤ 1000000) (hc : checkL s.data.toList ≠ 0) :
    Calls Tryz.prog 192 #[.string s] w fun e w' => e = .returned (.slice none 0 0) ∧ Below w.heap.size w w' := by
  have hc' : (checkL s.data.toList != 0) = true := by rw [bne_iff_ne]; exact hc
  go_enter Tryz.func192, Tryz.ntmps192
  go_wp2_with fail
  refine (check_any s _ (by omega)).mono ?_
  rintro e w1 ⟨rfl, hb1⟩
  go_wp2
  go_ret
  exact ⟨rfl, hb1⟩

end Go.Proofs.YtacpllmlpmllbaaGreatDoor
/- The bytes of UTF-8 stand as the runes do: plain, of no program. -/
namespace Go.Proofs.YtacpllmlpmllbaaGreatDoor
open Go.Lib
set_option maxRecDepth 100000

/-- How rows of runes stand. -/
def cmpR : List Nat → List Nat → Int
  | [], [] => 0
  | [], _ :: _ => -1
  | _ :: _, [] => 1
  | a :: k, b :: l => if a < b then -1 else if b < a then 1 else cmpR k l
theorem cb_lt {m n : Nat} (hn : n < 256) (h : m < n) (x y : List UInt8) : compareBytes (UInt8.ofNat m :: x) (UInt8.ofNat n :: y) = -1 := by
  have e : UInt8.ofNat m < UInt8.ofNat n := by
    rw [UInt8.lt_iff_toNat_lt, toNat_of (by omega), toNat_of hn]
    exact h
  simp [compareBytes, e]
theorem cb_eq (b : UInt8) (x y : List UInt8) : compareBytes (b :: x) (b :: y) = compareBytes x y := by
  simp [compareBytes]
theorem cb_pre : ∀ (p x y : List UInt8), compareBytes (p ++ x) (p ++ y) = compareBytes x y
  | [], _, _ => rfl
  | b :: p, x, y => by rw [List.cons_append, List.cons_append, cb_eq, cb_pre p x y]
/-- Of two first bytes, and what stands behind them. -/
theorem cb_step {m n : Nat} (hn : n < 256) (x y : List UInt8) (h : m < n ∨ (m = n ∧ compareBytes x y = -1)) : compareBytes (UInt8.ofNat m :: x) (UInt8.ofNat n :: y) = -1 := by
  rcases h with h | ⟨rfl, h⟩
  · exact cb_lt hn h x y
  · rw [cb_eq]; exact h
theorem enc_lt {c d : Nat} (hc : scal c) (hd : scal d) (h : c < d) (x y : List UInt8) : compareBytes (enc c ++ x) (enc d ++ y) = -1 := by
  have hd' := hd
  unfold scal at hd'
  by_cases d1 : d < 128
  · rw [enc1 d1, enc1 (by omega)]
    exact cb_lt (by omega) h _ _
  by_cases d2 : d < 2048
  · rw [enc2 (by omega) d2]
    by_cases c1 : c < 128
    · rw [enc1 c1]
      exact cb_lt (by omega) (by omega) _ _
    · rw [enc2 (by omega) (by omega)]
      refine cb_step (by omega) _ _ ?_
      by_cases e : c / 64 = d / 64
      · exact .inr ⟨by omega, cb_step (by omega) _ _ (.inl (by omega))⟩
      · exact .inl (by omega)
  by_cases d3 : d < 65536
  · rw [enc3 (by omega) d3 hd]
    by_cases c1 : c < 128
    · rw [enc1 c1]
      exact cb_lt (by omega) (by omega) _ _
    by_cases c2 : c < 2048
    · rw [enc2 (by omega) (by omega)]
      exact cb_lt (by omega) (by omega) _ _
    · rw [enc3 (by omega) (by omega) hc]
      refine cb_step (by omega) _ _ ?_
      by_cases e : c / 4096 = d / 4096
      · refine .inr ⟨by omega, cb_step (by omega) _ _ ?_⟩
        by_cases e2 : c / 64 % 64 = d / 64 % 64
        · exact .inr ⟨by omega, cb_step (by omega) _ _ (.inl (by omega))⟩
        · exact .inl (by omega)
      · exact .inl (by omega)
  · rw [enc4 (by omega) hd]
    by_cases c1 : c < 128
    · rw [enc1 c1]
      exact cb_lt (by omega) (by omega) _ _
    by_cases c2 : c < 2048
    · rw [enc2 (by omega) (by omega)]
      exact cb_lt (by omega) (by omega) _ _
    by_cases c3 : c < 65536
    · rw [enc3 (by omega) (by omega) hc]
      exact cb_lt (by omega) (by omega) _ _
    · rw [enc4 (by omega) hc]
      refine cb_step (by omega) _ _ ?_
      by_cases e : c / 262144 = d / 262144
      · refine .inr ⟨by omega, cb_step (by omega) _ _ ?_⟩
        by_cases e2 : c / 4096 % 64 = d / 4096 % 64
        · refine .inr ⟨by omega, cb_step (by omega) _ _ ?_⟩
          by_cases e3 : c / 64 % 64 = d / 64 % 64
          · exact .inr ⟨by omega, cb_step (by omega) _ _ (.inl (by omega))⟩
          · exact .inl (by omega)
        · exact .inl (by omega)
      · exact .inl (by omega)
theorem cb_anti : ∀ (a b : List UInt8), compareBytes a b = - compareBytes b a
  | [], [] => rfl
  | [], b :: l => by simp [compareBytes]
  | a :: k, [] => by simp [compareBytes]
  | a :: k, b :: l => by
    simp only [compareBytes]
    by_cases h1 : a < b
    · have h2 : ¬ b < a := UInt8.lt_asymm h1
      simp [h1, h2]
    · by_cases h2 : b < a
      · simp [h1, h2]
      · simp [h1, h2, cb_anti k l]
theorem enc_cons (c : Nat) : ∃ b t, enc c = b :: t := by
  have := enc_len c
  cases h : enc c with
  | nil => rw [h] at this; simp at this
  | cons b t => exact ⟨b, t, rfl⟩
/-- The bytes of runes stand as the runes. -/
theorem cmp_enc : ∀ (a b : List Nat), (∀ c ∈ a, scal c) → (∀ c ∈ b, scal c) → compareBytes (a.flatMap enc) (b.flatMap enc) = cmpR a b
  | [], [], _, _ => rfl
  | [], b :: l, _, _ => by
    obtain ⟨x, t, e⟩ := enc_cons b
    rw [List.flatMap_cons, e]
    rfl
  | a :: k, [], _, _ => by
    obtain ⟨x, t, e⟩ := enc_cons a
    rw [List.flatMap_cons, e]
    rfl
  | a :: k, b :: l, ha, hb => by
    have ih := cmp_enc k l (fun x hx => ha x (List.mem_cons_of_mem _ hx)) (fun x hx => hb x (List.mem_cons_of_mem _ hx))
    rw [List.flatMap_cons, List.flatMap_cons, cmpR]
    by_cases h1 : a < b
    · rw [if_pos h1]
      exact enc_lt (ha a (by simp)) (hb b (by simp)) h1 _ _
    · by_cases h2 : b < a
      · rw [if_neg h1, if_pos h2, cb_anti, enc_lt (hb b (by simp)) (ha a (by simp)) h2]
        rfl
      · have e : a = b := by omega
        subst e
        rw [if_neg h1, if_neg h2, cb_pre, ih]
end Go.Proofs.YtacpllmlpmllbaaGreatDoor
/- The reference's tail and First: walks. -/
namespace Go.Proofs.YtacpllmlpmllbaaGreatDoor
open Go.RowKit Go.Lib

/-- A byte by its number; 0 beyond the end. -/
def gN (s : ByteArray) (i : Nat) : Nat := (s.get! i).toNat
theorem gN_lt (s : ByteArray) (i : Nat) : gN s i < 256 := (s.get! i).toNat_lt
theorem gN_of (s : ByteArray) (i : Nat) (h : i < s.size) : (s[i]'h).toNat = gN s i := by
  cases s with
  | mk d =>
    show (d[i]'h).toNat = (d[i]!).toNat
    rw [getElem!_pos d i h]
def tl (s : ByteArray) (i : Nat) : Bool := decide (i < s.size ∧ 128 ≤ gN s i ∧ gN s i < 192)

set_option maxHeartbeats 1000000 in
theorem tail_any (s : ByteArray) (i : Nat) (z : Int) (hz : z = (i : Int)) (w : World) :
    Calls Tryz.prog 193 #[.string s, .int .i64 z] w fun e w' => e = .returned (.bool (tl s i)) ∧ w' = w := by
  subst hz
  by_cases hi : i < s.size
  · have hi' : (i : Int) < s.size := by omega
    have hx := gN_of s i hi
    have hlt := gN_lt s i
    have HT : Hid (tl s i = decide (128 ≤ gN s i ∧ gN s i < 192)) := by show _ = _; unfold tl; simp [hi]
    generalize tl s i = t at *
    generalize gN s i = x at *
    by_cases h1 : 128 ≤ x
    · have h1' : decide ((128 : Int) ≤ x) = true := by simp; omega
      by_cases h2 : x < 192
      · have h2' : decide ((x : Int) < 192) = true := by simp; omega
        go_enter Tryz.func193, Tryz.ntmps193
        go_wp2
        go_ret
        exact ⟨by rw [HT.out, decide_eq_true (And.intro h1 h2)]; rfl, rfl⟩
      · have h2' : decide ((x : Int) < 192) = false := by simp; omega
        go_enter Tryz.func193, Tryz.ntmps193
        go_wp2
        go_ret
        exact ⟨by rw [HT.out, decide_eq_false (fun h => h2 h.2)]; rfl, rfl⟩
    · have h1' : decide ((128 : Int) ≤ x) = false := by simp; omega
      go_enter Tryz.func193, Tryz.ntmps193
      go_wp2
      go_ret
      exact ⟨by rw [HT.out, decide_eq_false (fun h => h1 h.1)]; rfl, rfl⟩
  · have hi' : decide ((i : Int) < s.size) = false := by simp; omega
    have HT : Hid (tl s i = false) := by show _ = _; unfold tl; simp [hi]
    go_enter Tryz.func193, Tryz.ntmps193
    go_wp2
    go_ret
    exact ⟨by rw [HT.out]; rfl, rfl⟩

/-- The rune at the front and its width; (0, 0): there is none. -/
def fst (s : ByteArray) : Nat × Nat := if s.size = 0 ∨ ((Utf8.decode s 0).1 = 65533 ∧ (Utf8.decode s 0).2 = 1) then (0, 0) else Utf8.decode s 0
theorem fst_none {s : ByteArray} {x0 x1 x2 x3 : Nat} (h : decodeN s.size x0 x1 x2 x3 = (65533, 1)) (e0 : gN s 0 = x0) (e1 : gN s 1 = x1) (e2 : gN s 2 = x2) (e3 : gN s 3 = x3) : fst s = (0, 0) := by
  subst e0 e1 e2 e3
  have e : Utf8.decode s 0 = (65533, 1) := by rw [decode_at]; exact h
  unfold fst
  rw [e]
  simp
theorem fst_some {s : ByteArray} {x0 x1 x2 x3 c k : Nat} (h : decodeN s.size x0 x1 x2 x3 = (c, k)) (hn : s.size ≠ 0) (hk : c = 65533 → k ≠ 1) (e0 : gN s 0 = x0) (e1 : gN s 1 = x1) (e2 : gN s 2 = x2) (e3 : gN s 3 = x3) : fst s = (c, k) := by
  subst e0 e1 e2 e3
  have e : Utf8.decode s 0 = (c, k) := by rw [decode_at]; exact h
  unfold fst
  rw [e, if_neg]
  intro h
  rcases h with h | ⟨h1, h2⟩
  · exact hn h
  · exact hk h1 h2
theorem below_dN {B : Nat} {a w : World} (h : Below B a w) : ∀ q, Below B a (w.drewN q)
  | 0 => h
  | q + 1 => (below_dN h q).drew
def FsPost (s : ByteArray) (w : World) (e : Ending) (w' : World) : Prop :=
  e = .returned (.agg #[.int .i64 (fst s).1, .int .i64 (fst s).2]) ∧ Below w.heap.size w w'

set_option maxRecDepth 100000 in
set_option maxHeartbeats 2000000 in
theorem first_any (s : ByteArray) (w : World) (hs : s.size ≤ 140737488355328) :
    Calls Tryz.prog 139 #[.string s] w fun e w' => FsPost s w e w' := by
  by_cases hn : s.size = 0
  · have he : s.toList.isEmpty = true := by rw [ByteArray.toList_eq]; simp; exact Array.eq_empty_of_size_eq_zero hn
    have HF : Hid (fst s = (0, 0)) := by show _ = _; simp [fst, hn]
    go_enter Tryz.func139, Tryz.ntmps139
    go_wp2
    refine bodyPost_ret (v := .agg #[.int .i64 0, .int .i64 0]) (by simp [results, Tryz.results139, go_sem]) rfl ⟨by rw [HF.out]; rfl, ?_⟩
    repeat (first | exact Below.refl _ _ | refine Below.setCell ?_ (by exact Nat.le_refl _) _ | refine Below.alloc ?_ (Nat.le_refl _) _ | refine Below.drew ?_ | refine below_dN ?_ _)
  have he : s.toList.isEmpty = false := by rw [ByteArray.toList_eq]; simp; intro h; rw [ByteArray.size, h] at hn; exact hn rfl
  have hn0 : (0 : Int) < s.size := by omega
  have hy0 := gN_of s 0 (by omega)
  obtain ⟨x0, hx0⟩ : ∃ x0, gN s 0 = x0 := ⟨_, rfl⟩
  obtain ⟨x1, hx1⟩ : ∃ x1, gN s 1 = x1 := ⟨_, rfl⟩
  obtain ⟨x2, hx2⟩ : ∃ x2, gN s 2 = x2 := ⟨_, rfl⟩
  obtain ⟨x3, hx3⟩ : ∃ x3, gN s 3 = x3 := ⟨_, rfl⟩
  have l0 : x0 < 256 := hx0 ▸ gN_lt s 0
  have l1 : x1 < 256 := hx1 ▸ gN_lt s 1
  have l2 : x2 < 256 := hx2 ▸ gN_lt s 2
  have l3 : x3 < 256 := hx3 ▸ gN_lt s 3
  rw [hx0] at hy0
  by_cases a1 : x0 < 128
  · have d1 : decide ((x0 : Int) < 128) = true := by simp; omega
    have HF : Hid (fst s = (x0, 1)) := fst_some (by unfold decodeN; rw [if_pos a1]) hn (by omega) hx0 hx1 hx2 hx3
    clear hx0 hx1 hx2 hx3
    go_enter Tryz.func139, Tryz.ntmps139
    go_wp2_with (go_at_call 193; refine (tail_any _ _ _ (by first | exact (rfl : (1 : Int) = ((1 : Nat) : Int)) | exact (rfl : (2 : Int) = ((2 : Nat) : Int)) | exact (rfl : (3 : Int) = ((3 : Nat) : Int))) _).mono ?_; rintro e w' ⟨rfl, rfl⟩)
    refine bodyPost_ret (v := .agg #[.int .i64 x0, .int .i64 1]) (by simp [results, Tryz.results139, go_sem]) rfl ⟨by rw [HF.out]; rfl, ?_⟩
    repeat (first | exact Below.refl _ _ | refine Below.setCell ?_ (by exact Nat.le_refl _) _ | refine Below.alloc ?_ (Nat.le_refl _) _ | refine Below.drew ?_ | refine below_dN ?_ _)
  have d1 : decide ((x0 : Int) < 128) = false := by simp; omega
  by_cases a2 : x0 < 194
  · have d2 : decide ((194 : Int) ≤ x0) = false := by simp; omega
    have d4 : decide ((224 : Int) ≤ x0) = false := by simp; omega
    have d6 : decide ((240 : Int) ≤ x0) = false := by simp; omega
    have HF : Hid (fst s = (0, 0)) := fst_none (by unfold decodeN; (repeat' split) <;> first | rfl | (exfalso; omega)) hx0 hx1 hx2 hx3
    clear hx0 hx1 hx2 hx3
    go_enter Tryz.func139, Tryz.ntmps139
    go_wp2_with (go_at_call 193; refine (tail_any _ _ _ (by first | exact (rfl : (1 : Int) = ((1 : Nat) : Int)) | exact (rfl : (2 : Int) = ((2 : Nat) : Int)) | exact (rfl : (3 : Int) = ((3 : Nat) : Int))) _).mono ?_; rintro e w' ⟨rfl, rfl⟩)
    refine bodyPost_ret (v := .agg #[.int .i64 0, .int .i64 0]) (by simp [results, Tryz.results139, go_sem]) rfl ⟨by rw [HF.out]; rfl, ?_⟩
    repeat (first | exact Below.refl _ _ | refine Below.setCell ?_ (by exact Nat.le_refl _) _ | refine Below.alloc ?_ (Nat.le_refl _) _ | refine Below.drew ?_ | refine below_dN ?_ _)
  have d2 : decide ((194 : Int) ≤ x0) = true := by simp; omega
  by_cases a3 : x0 < 224
  · have d3 : decide ((x0 : Int) < 224) = true := by simp; omega
    have d4 : decide ((224 : Int) ≤ x0) = false := by simp; omega
    have d6 : decide ((240 : Int) ≤ x0) = false := by simp; omega
    by_cases t1 : tl s 1 = true
    · have t1' := t1
      simp only [tl, decide_eq_true_eq, hx1] at t1'
      have hn1 : (1 : Int) < s.size := by omega
      have hy1 := gN_of s 1 (by omega)
      rw [hx1] at hy1
      have HF : Hid (fst s = (64 * (x0 - 192) + x1 - 128, 2)) := fst_some (by unfold decodeN; rw [if_neg (by omega), if_pos (by omega), if_pos (by omega)]; apply Prod.ext <;> simp only; omega) hn (by omega) hx0 hx1 hx2 hx3
      have HV : Hid ((64 : Int) * ((x0 : Int) - 192) + x1 - 128 = ((64 * (x0 - 192) + x1 - 128 : Nat) : Int)) := by show _ = _; omega
      clear hx0 hx1 hx2 hx3
      go_enter Tryz.func139, Tryz.ntmps139
      go_wp2_with (go_at_call 193; refine (tail_any _ _ _ (by first | exact (rfl : (1 : Int) = ((1 : Nat) : Int)) | exact (rfl : (2 : Int) = ((2 : Nat) : Int)) | exact (rfl : (3 : Int) = ((3 : Nat) : Int))) _).mono ?_; rintro e w' ⟨rfl, rfl⟩)
      refine bodyPost_ret (v := .agg #[.int .i64 ((64 : Int) * ((x0 : Int) - 192) + x1 - 128), .int .i64 2]) (by simp [results, Tryz.results139, go_sem]) rfl ⟨by rw [HF.out, HV.out]; rfl, ?_⟩
      repeat (first | exact Below.refl _ _ | refine Below.setCell ?_ (by exact Nat.le_refl _) _ | refine Below.alloc ?_ (Nat.le_refl _) _ | refine Below.drew ?_ | refine below_dN ?_ _)
    · have t1' : ¬ (1 < s.size ∧ 128 ≤ x1 ∧ x1 < 192) := by simpa only [tl, decide_eq_true_eq, hx1] using t1
      have t1f : tl s 1 = false := by simpa using t1
      have HF : Hid (fst s = (0, 0)) := fst_none (by unfold decodeN; (repeat' split) <;> first | rfl | (exfalso; omega)) hx0 hx1 hx2 hx3
      clear hx0 hx1 hx2 hx3 t1
      go_enter Tryz.func139, Tryz.ntmps139
      go_wp2_with (go_at_call 193; refine (tail_any _ _ _ (by first | exact (rfl : (1 : Int) = ((1 : Nat) : Int)) | exact (rfl : (2 : Int) = ((2 : Nat) : Int)) | exact (rfl : (3 : Int) = ((3 : Nat) : Int))) _).mono ?_; rintro e w' ⟨rfl, rfl⟩)
      refine bodyPost_ret (v := .agg #[.int .i64 0, .int .i64 0]) (by simp [results, Tryz.results139, go_sem]) rfl ⟨by rw [HF.out]; rfl, ?_⟩
      repeat (first | exact Below.refl _ _ | refine Below.setCell ?_ (by exact Nat.le_refl _) _ | refine Below.alloc ?_ (Nat.le_refl _) _ | refine Below.drew ?_ | refine below_dN ?_ _)
  have d3 : decide ((x0 : Int) < 224) = false := by simp; omega
  have d4 : decide ((224 : Int) ≤ x0) = true := by simp; omega
  by_cases a4 : x0 < 240
  · have d5 : decide ((x0 : Int) < 240) = true := by simp; omega
    have d6 : decide ((240 : Int) ≤ x0) = false := by simp; omega
    by_cases t1 : tl s 1 = true
    · have t1' := t1
      simp only [tl, decide_eq_true_eq, hx1] at t1'
      by_cases t2 : tl s 2 = true
      · have t2' := t2
        simp only [tl, decide_eq_true_eq, hx2] at t2'
        have hn1 : (1 : Int) < s.size := by omega
        have hn2 : (2 : Int) < s.size := by omega
        have hy1 := gN_of s 1 (by omega)
        rw [hx1] at hy1
        have hy2 := gN_of s 2 (by omega)
        rw [hx2] at hy2
        obtain ⟨c, hc⟩ : ∃ c, c = 4096 * (x0 - 224) + 64 * (x1 - 128) + x2 - 128 := ⟨_, rfl⟩
        have HV : (4096 : Int) * ((x0 : Int) - 224) + 64 * ((x1 : Int) - 128) + x2 - 128 = (c : Int) := by omega
        by_cases ok : 2048 ≤ c ∧ (c < 55296 ∨ 57343 < c)
        · have HF : Hid (fst s = (c, 3)) := fst_some (by unfold decodeN; rw [if_neg (by omega), if_neg (by omega), if_pos (by omega), if_pos (by omega)]; apply Prod.ext <;> simp only; omega) hn (by omega) hx0 hx1 hx2 hx3
          have k1 : decide ((2048 : Int) ≤ c) = true := by simp; omega
          clear hx0 hx1 hx2 hx3 hc
          by_cases ok2 : c < 55296
          · have k2 : decide ((c : Int) < 55296) = true := by simp; omega
            go_enter Tryz.func139, Tryz.ntmps139
            go_wp2_with (go_at_call 193; refine (tail_any _ _ _ (by first | exact (rfl : (1 : Int) = ((1 : Nat) : Int)) | exact (rfl : (2 : Int) = ((2 : Nat) : Int)) | exact (rfl : (3 : Int) = ((3 : Nat) : Int))) _).mono ?_; rintro e w' ⟨rfl, rfl⟩)
            go_quiet (fail)
            go_wp2
            refine bodyPost_ret (v := .agg #[.int .i64 c, .int .i64 3]) (by simp [results, Tryz.results139, go_sem]) rfl ⟨by rw [HF.out]; rfl, ?_⟩
            repeat (first | exact Below.refl _ _ | refine Below.setCell ?_ (by exact Nat.le_refl _) _ | refine Below.alloc ?_ (Nat.le_refl _) _ | refine Below.drew ?_ | refine below_dN ?_ _)
          · have k2 : decide ((c : Int) < 55296) = false := by simp; omega
            have k3 : decide ((57343 : Int) < c) = true := by simp; omega
            go_enter Tryz.func139, Tryz.ntmps139
            go_wp2_with (go_at_call 193; refine (tail_any _ _ _ (by first | exact (rfl : (1 : Int) = ((1 : Nat) : Int)) | exact (rfl : (2 : Int) = ((2 : Nat) : Int)) | exact (rfl : (3 : Int) = ((3 : Nat) : Int))) _).mono ?_; rintro e w' ⟨rfl, rfl⟩)
            go_quiet (fail)
            go_wp2
            refine bodyPost_ret (v := .agg #[.int .i64 c, .int .i64 3]) (by simp [results, Tryz.results139, go_sem]) rfl ⟨by rw [HF.out]; rfl, ?_⟩
            repeat (first | exact Below.refl _ _ | refine Below.setCell ?_ (by exact Nat.le_refl _) _ | refine Below.alloc ?_ (Nat.le_refl _) _ | refine Below.drew ?_ | refine below_dN ?_ _)
        · have HF : Hid (fst s = (0, 0)) := fst_none (by unfold decodeN; rw [if_neg (by omega), if_neg (by omega), if_pos (by omega), if_neg (by omega)]) hx0 hx1 hx2 hx3
          clear hx0 hx1 hx2 hx3 hc
          by_cases ok1 : 2048 ≤ c
          · have k1 : decide ((2048 : Int) ≤ c) = true := by simp; omega
            have k2 : decide ((c : Int) < 55296) = false := by simp; omega
            have k3 : decide ((57343 : Int) < c) = false := by simp; omega
            go_enter Tryz.func139, Tryz.ntmps139
            go_wp2_with (go_at_call 193; refine (tail_any _ _ _ (by first | exact (rfl : (1 : Int) = ((1 : Nat) : Int)) | exact (rfl : (2 : Int) = ((2 : Nat) : Int)) | exact (rfl : (3 : Int) = ((3 : Nat) : Int))) _).mono ?_; rintro e w' ⟨rfl, rfl⟩)
            go_quiet (fail)
            go_wp2
            refine bodyPost_ret (v := .agg #[.int .i64 0, .int .i64 0]) (by simp [results, Tryz.results139, go_sem]) rfl ⟨by rw [HF.out]; rfl, ?_⟩
            repeat (first | exact Below.refl _ _ | refine Below.setCell ?_ (by exact Nat.le_refl _) _ | refine Below.alloc ?_ (Nat.le_refl _) _ | refine Below.drew ?_ | refine below_dN ?_ _)
          · have k1 : decide ((2048 : Int) ≤ c) = false := by simp; omega
            go_enter Tryz.func139, Tryz.ntmps139
            go_wp2_with (go_at_call 193; refine (tail_any _ _ _ (by first | exact (rfl : (1 : Int) = ((1 : Nat) : Int)) | exact (rfl : (2 : Int) = ((2 : Nat) : Int)) | exact (rfl : (3 : Int) = ((3 : Nat) : Int))) _).mono ?_; rintro e w' ⟨rfl, rfl⟩)
            go_quiet (fail)
            go_wp2
            refine bodyPost_ret (v := .agg #[.int .i64 0, .int .i64 0]) (by simp [results, Tryz.results139, go_sem]) rfl ⟨by rw [HF.out]; rfl, ?_⟩
            repeat (first | exact Below.refl _ _ | refine Below.setCell ?_ (by exact Nat.le_refl _) _ | refine Below.alloc ?_ (Nat.le_refl _) _ | refine Below.drew ?_ | refine below_dN ?_ _)
      · have t2' : ¬ (2 < s.size ∧ 128 ≤ x2 ∧ x2 < 192) := by simpa only [tl, decide_eq_true_eq, hx2] using t2
        have t2f : tl s 2 = false := by simpa using t2
        have HF : Hid (fst s = (0, 0)) := fst_none (by unfold decodeN; (repeat' split) <;> first | rfl | (exfalso; omega)) hx0 hx1 hx2 hx3
        clear hx0 hx1 hx2 hx3 t2
        go_enter Tryz.func139, Tryz.ntmps139
        go_wp2_with (go_at_call 193; refine (tail_any _ _ _ (by first | exact (rfl : (1 : Int) = ((1 : Nat) : Int)) | exact (rfl : (2 : Int) = ((2 : Nat) : Int)) | exact (rfl : (3 : Int) = ((3 : Nat) : Int))) _).mono ?_; rintro e w' ⟨rfl, rfl⟩)
        refine bodyPost_ret (v := .agg #[.int .i64 0, .int .i64 0]) (by simp [results, Tryz.results139, go_sem]) rfl ⟨by rw [HF.out]; rfl, ?_⟩
        repeat (first | exact Below.refl _ _ | refine Below.setCell ?_ (by exact Nat.le_refl _) _ | refine Below.alloc ?_ (Nat.le_refl _) _ | refine Below.drew ?_ | refine below_dN ?_ _)
    · have t1' : ¬ (1 < s.size ∧ 128 ≤ x1 ∧ x1 < 192) := by simpa only [tl, decide_eq_true_eq, hx1] using t1
      have t1f : tl s 1 = false := by simpa using t1
      have HF : Hid (fst s = (0, 0)) := fst_none (by unfold decodeN; (repeat' split) <;> first | rfl | (exfalso; omega)) hx0 hx1 hx2 hx3
      clear hx0 hx1 hx2 hx3 t1
      go_enter Tryz.func139, Tryz.ntmps139
      go_wp2_with (go_at_call 193; refine (tail_any _ _ _ (by first | exact (rfl : (1 : Int) = ((1 : Nat) : Int)) | exact (rfl : (2 : Int) = ((2 : Nat) : Int)) | exact (rfl : (3 : Int) = ((3 : Nat) : Int))) _).mono ?_; rintro e w' ⟨rfl, rfl⟩)
      refine bodyPost_ret (v := .agg #[.int .i64 0, .int .i64 0]) (by simp [results, Tryz.results139, go_sem]) rfl ⟨by rw [HF.out]; rfl, ?_⟩
      repeat (first | exact Below.refl _ _ | refine Below.setCell ?_ (by exact Nat.le_refl _) _ | refine Below.alloc ?_ (Nat.le_refl _) _ | refine Below.drew ?_ | refine below_dN ?_ _)
  have d5 : decide ((x0 : Int) < 240) = false := by simp; omega
  have d6 : decide ((240 : Int) ≤ x0) = true := by simp; omega
  by_cases a5 : x0 < 245
  · have d7 : decide ((x0 : Int) < 245) = true := by simp; omega
    by_cases t1 : tl s 1 = true
    · have t1' := t1
      simp only [tl, decide_eq_true_eq, hx1] at t1'
      by_cases t2 : tl s 2 = true
      · have t2' := t2
        simp only [tl, decide_eq_true_eq, hx2] at t2'
        by_cases t3 : tl s 3 = true
        · have t3' := t3
          simp only [tl, decide_eq_true_eq, hx3] at t3'
          have hn1 : (1 : Int) < s.size := by omega
          have hn2 : (2 : Int) < s.size := by omega
          have hn3 : (3 : Int) < s.size := by omega
          have hy1 := gN_of s 1 (by omega)
          rw [hx1] at hy1
          have hy2 := gN_of s 2 (by omega)
          rw [hx2] at hy2
          have hy3 := gN_of s 3 (by omega)
          rw [hx3] at hy3
          obtain ⟨c, hc⟩ : ∃ c, c = 262144 * (x0 - 240) + 4096 * (x1 - 128) + 64 * (x2 - 128) + x3 - 128 := ⟨_, rfl⟩
          have HV : (262144 : Int) * ((x0 : Int) - 240) + 4096 * ((x1 : Int) - 128) + 64 * ((x2 : Int) - 128) + x3 - 128 = (c : Int) := by omega
          by_cases ok1 : 65536 ≤ c
          · have k1 : decide ((65536 : Int) ≤ c) = true := by simp; omega
            by_cases ok2 : c ≤ 1114111
            · have k2 : decide ((c : Int) ≤ 1114111) = true := by simp; omega
              have HF : Hid (fst s = (c, 4)) := fst_some (by unfold decodeN; rw [if_neg (by omega), if_neg (by omega), if_neg (by omega), if_pos (by omega), if_pos (by omega)]; apply Prod.ext <;> simp only; omega) hn (by omega) hx0 hx1 hx2 hx3
              clear hx0 hx1 hx2 hx3 hc
              go_enter Tryz.func139, Tryz.ntmps139
              go_wp2_with (go_at_call 193; refine (tail_any _ _ _ (by first | exact (rfl : (1 : Int) = ((1 : Nat) : Int)) | exact (rfl : (2 : Int) = ((2 : Nat) : Int)) | exact (rfl : (3 : Int) = ((3 : Nat) : Int))) _).mono ?_; rintro e w' ⟨rfl, rfl⟩)
              go_quiet (fail)
              go_wp2
              refine bodyPost_ret (v := .agg #[.int .i64 c, .int .i64 4]) (by simp [results, Tryz.results139, go_sem]) rfl ⟨by rw [HF.out]; rfl, ?_⟩
              repeat (first | exact Below.refl _ _ | refine Below.setCell ?_ (by exact Nat.le_refl _) _ | refine Below.alloc ?_ (Nat.le_refl _) _ | refine Below.drew ?_ | refine below_dN ?_ _)
            · have k2 : decide ((c : Int) ≤ 1114111) = false := by simp; omega
              have HF : Hid (fst s = (0, 0)) := fst_none (by unfold decodeN; rw [if_neg (by omega), if_neg (by omega), if_neg (by omega), if_pos (by omega), if_neg (by omega)]) hx0 hx1 hx2 hx3
              clear hx0 hx1 hx2 hx3 hc
              go_enter Tryz.func139, Tryz.ntmps139
              go_wp2_with (go_at_call 193; refine (tail_any _ _ _ (by first | exact (rfl : (1 : Int) = ((1 : Nat) : Int)) | exact (rfl : (2 : Int) = ((2 : Nat) : Int)) | exact (rfl : (3 : Int) = ((3 : Nat) : Int))) _).mono ?_; rintro e w' ⟨rfl, rfl⟩)
              go_quiet (fail)
              go_wp2
              refine bodyPost_ret (v := .agg #[.int .i64 0, .int .i64 0]) (by simp [results, Tryz.results139, go_sem]) rfl ⟨by rw [HF.out]; rfl, ?_⟩
              repeat (first | exact Below.refl _ _ | refine Below.setCell ?_ (by exact Nat.le_refl _) _ | refine Below.alloc ?_ (Nat.le_refl _) _ | refine Below.drew ?_ | refine below_dN ?_ _)
          · have k1 : decide ((65536 : Int) ≤ c) = false := by simp; omega
            have HF : Hid (fst s = (0, 0)) := fst_none (by unfold decodeN; rw [if_neg (by omega), if_neg (by omega), if_neg (by omega), if_pos (by omega), if_neg (by omega)]) hx0 hx1 hx2 hx3
            clear hx0 hx1 hx2 hx3 hc
            go_enter Tryz.func139, Tryz.ntmps139
            go_wp2_with (go_at_call 193; refine (tail_any _ _ _ (by first | exact (rfl : (1 : Int) = ((1 : Nat) : Int)) | exact (rfl : (2 : Int) = ((2 : Nat) : Int)) | exact (rfl : (3 : Int) = ((3 : Nat) : Int))) _).mono ?_; rintro e w' ⟨rfl, rfl⟩)
            go_quiet (fail)
            go_wp2
            refine bodyPost_ret (v := .agg #[.int .i64 0, .int .i64 0]) (by simp [results, Tryz.results139, go_sem]) rfl ⟨by rw [HF.out]; rfl, ?_⟩
            repeat (first | exact Below.refl _ _ | refine Below.setCell ?_ (by exact Nat.le_refl _) _ | refine Below.alloc ?_ (Nat.le_refl _) _ | refine Below.drew ?_ | refine below_dN ?_ _)
        · have t3' : ¬ (3 < s.size ∧ 128 ≤ x3 ∧ x3 < 192) := by simpa only [tl, decide_eq_true_eq, hx3] using t3
          have t3f : tl s 3 = false := by simpa using t3
          have HF : Hid (fst s = (0, 0)) := fst_none (by unfold decodeN; (repeat' split) <;> first | rfl | (exfalso; omega)) hx0 hx1 hx2 hx3
          clear hx0 hx1 hx2 hx3 t3
          go_enter Tryz.func139, Tryz.ntmps139
          go_wp2_with (go_at_call 193; refine (tail_any _ _ _ (by first | exact (rfl : (1 : Int) = ((1 : Nat) : Int)) | exact (rfl : (2 : Int) = ((2 : Nat) : Int)) | exact (rfl : (3 : Int) = ((3 : Nat) : Int))) _).mono ?_; rintro e w' ⟨rfl, rfl⟩)
          refine bodyPost_ret (v := .agg #[.int .i64 0, .int .i64 0]) (by simp [results, Tryz.results139, go_sem]) rfl ⟨by rw [HF.out]; rfl, ?_⟩
          repeat (first | exact Below.refl _ _ | refine Below.setCell ?_ (by exact Nat.le_refl _) _ | refine Below.alloc ?_ (Nat.le_refl _) _ | refine Below.drew ?_ | refine below_dN ?_ _)
      · have t2' : ¬ (2 < s.size ∧ 128 ≤ x2 ∧ x2 < 192) := by simpa only [tl, decide_eq_true_eq, hx2] using t2
        have t2f : tl s 2 = false := by simpa using t2
        have HF : Hid (fst s = (0, 0)) := fst_none (by unfold decodeN; (repeat' split) <;> first | rfl | (exfalso; omega)) hx0 hx1 hx2 hx3
        clear hx0 hx1 hx2 hx3 t2
        go_enter Tryz.func139, Tryz.ntmps139
        go_wp2_with (go_at_call 193; refine (tail_any _ _ _ (by first | exact (rfl : (1 : Int) = ((1 : Nat) : Int)) | exact (rfl : (2 : Int) = ((2 : Nat) : Int)) | exact (rfl : (3 : Int) = ((3 : Nat) : Int))) _).mono ?_; rintro e w' ⟨rfl, rfl⟩)
        refine bodyPost_ret (v := .agg #[.int .i64 0, .int .i64 0]) (by simp [results, Tryz.results139, go_sem]) rfl ⟨by rw [HF.out]; rfl, ?_⟩
        repeat (first | exact Below.refl _ _ | refine Below.setCell ?_ (by exact Nat.le_refl _) _ | refine Below.alloc ?_ (Nat.le_refl _) _ | refine Below.drew ?_ | refine below_dN ?_ _)
    · have t1' : ¬ (1 < s.size ∧ 128 ≤ x1 ∧ x1 < 192) := by simpa only [tl, decide_eq_true_eq, hx1] using t1
      have t1f : tl s 1 = false := by simpa using t1
      have HF : Hid (fst s = (0, 0)) := fst_none (by unfold decodeN; (repeat' split) <;> first | rfl | (exfalso; omega)) hx0 hx1 hx2 hx3
      clear hx0 hx1 hx2 hx3 t1
      go_enter Tryz.func139, Tryz.ntmps139
      go_wp2_with (go_at_call 193; refine (tail_any _ _ _ (by first | exact (rfl : (1 : Int) = ((1 : Nat) : Int)) | exact (rfl : (2 : Int) = ((2 : Nat) : Int)) | exact (rfl : (3 : Int) = ((3 : Nat) : Int))) _).mono ?_; rintro e w' ⟨rfl, rfl⟩)
      refine bodyPost_ret (v := .agg #[.int .i64 0, .int .i64 0]) (by simp [results, Tryz.results139, go_sem]) rfl ⟨by rw [HF.out]; rfl, ?_⟩
      repeat (first | exact Below.refl _ _ | refine Below.setCell ?_ (by exact Nat.le_refl _) _ | refine Below.alloc ?_ (Nat.le_refl _) _ | refine Below.drew ?_ | refine below_dN ?_ _)
  have d7 : decide ((x0 : Int) < 245) = false := by simp; omega
  have HF : Hid (fst s = (0, 0)) := fst_none (by unfold decodeN; (repeat' split) <;> first | rfl | (exfalso; omega)) hx0 hx1 hx2 hx3
  clear hx0 hx1 hx2 hx3
  go_enter Tryz.func139, Tryz.ntmps139
  go_wp2_with (go_at_call 193; refine (tail_any _ _ _ (by first | exact (rfl : (1 : Int) = ((1 : Nat) : Int)) | exact (rfl : (2 : Int) = ((2 : Nat) : Int)) | exact (rfl : (3 : Int) = ((3 : Nat) : Int))) _).mono ?_; rintro e w' ⟨rfl, rfl⟩)
  refine bodyPost_ret (v := .agg #[.int .i64 0, .int .i64 0]) (by simp [results, Tryz.results139, go_sem]) rfl ⟨by rw [HF.out]; rfl, ?_⟩
  repeat (first | exact Below.refl _ _ | refine Below.setCell ?_ (by exact Nat.le_refl _) _ | refine Below.alloc ?_ (Nat.le_refl _) _ | refine Below.drew ?_ | refine below_dN ?_ _)
end Go.Proofs.YtacpllmlpmllbaaGreatDoor
