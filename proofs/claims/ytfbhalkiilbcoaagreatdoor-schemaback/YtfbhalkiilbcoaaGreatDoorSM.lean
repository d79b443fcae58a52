/- Schemas and attributes as bytes: plain mathematics. -/
import Derived.Test.YtfbhalkiilbcoaaGreatDoorSV
import Derived.Test.YtfbhalkiilbcoaaGreatDoorEC
namespace Go.Proofs.YtfbhalkiilbcoaaGreatDoor
open Go.RowKit

abbrev e0S : ByteArray := ⟨#[]⟩
theorem tS1S (s : ByteArray) : Q.tS s 1 = e0S := by unfold Q.tS; simp
theorem tS3S (s : ByteArray) : Q.tS s 3 = e0S := by unfold Q.tS; simp
theorem may3S {n : Int} {s : ByteArray} (h : Q.mayB 3 n s = true) : (if (n == 1) = true then (1 : Int) else 0) = n := by
  unfold Q.mayB at h
  rw [if_neg (by decide), if_neg (by decide), if_pos rfl] at h
  simp only [Bool.and_eq_true, decide_eq_true_eq] at h
  have := h.2
  by_cases h1 : n = 1
  · subst h1; rfl
  · rw [if_neg (by simpa using h1)]; omega
theorem itB4 (n m : Int) (s : ByteArray) : Q.itB ⟨4, n, s⟩ = Q.itB ⟨4, m, s⟩ := by
  rw [Q.itB_4 (by decide) (by decide) (by decide), Q.itB_4 (by decide) (by decide) (by decide)]

/-! ### one field -/
def rfE (s : ByteArray) : Int := if Q.tE s 4 = 0 then (if Q.tE (Q.tR s 4) 1 = 0 then Q.tE (Q.tR (Q.tR s 4) 1) 3 else Q.tE (Q.tR s 4) 1) else Q.tE s 4
def rfX (s : ByteArray) : Fd := if rfE s = 0 then ⟨Q.tS s 4, Q.tN (Q.tR s 4) 1, Q.tN (Q.tR (Q.tR s 4) 1) 3 == 1⟩ else ⟨e0S, 0, false⟩
def rfR (s : ByteArray) : ByteArray := if rfE s = 0 then Q.tR (Q.tR (Q.tR s 4) 1) 3 else e0S
theorem take3F_ok (s : ByteArray) (h : rfE s = 0) : Q.takeR s [4, 1, 3] = ([⟨4, Q.tN s 4, Q.tS s 4⟩, ⟨1, Q.tN (Q.tR s 4) 1, Q.tS (Q.tR s 4) 1⟩, ⟨3, Q.tN (Q.tR (Q.tR s 4) 1) 3, Q.tS (Q.tR (Q.tR s 4) 1) 3⟩], Q.tR (Q.tR (Q.tR s 4) 1) 3, 0) := by
  unfold rfE at h
  have h1 : Q.tE s 4 = 0 := by split at h <;> simp_all
  rw [if_pos h1] at h
  have h2 : Q.tE (Q.tR s 4) 1 = 0 := by split at h <;> simp_all
  rw [if_pos h2] at h
  unfold Q.takeR
  rw [if_pos (by decide)]
  simp [Q.tk, h1, h2, h]
theorem take3F_no (s : ByteArray) (h : rfE s ≠ 0) : Q.takeR s [4, 1, 3] = ([], e0S, rfE s) := by
  unfold Q.takeR
  rw [if_pos (by decide)]
  unfold rfE at h ⊢
  by_cases h1 : Q.tE s 4 = 0
  · rw [if_pos h1] at h ⊢
    by_cases h2 : Q.tE (Q.tR s 4) 1 = 0
    · rw [if_pos h2] at h ⊢
      simp [Q.tk, h1, h2, h]
    · rw [if_neg h2] at h ⊢
      simp [Q.tk, h1, h2]
  · rw [if_neg h1] at h ⊢
    simp [Q.tk, h1]
theorem rfR_size (s : ByteArray) : (rfR s).size ≤ s.size := by
  unfold rfR
  split
  · exact Nat.le_trans (Q.tR_size _ _) (Nat.le_trans (Q.tR_size _ _) (Q.tR_size _ _))
  · show 0 ≤ _
    exact Nat.zero_le _
theorem rfX_size (s : ByteArray) : (rfX s).n.size ≤ s.size := by
  unfold rfX
  split
  · dsimp only
    exact V.tS_size _ _
  · show 0 ≤ _
    exact Nat.zero_le _
/-- A field as items. -/
def itF (x : Fd) : List It := [⟨4, 0, x.n⟩, ⟨1, x.k, e0S⟩, ⟨3, if x.m = true then 1 else 0, e0S⟩]
def encF (x : Fd) : List UInt8 := (itF x).flatMap Q.itB
theorem rf_bytes {s : ByteArray} (h : rfE s = 0) : encF (rfX s) ++ (rfR s).data.toList = s.data.toList := by
  have hX : rfX s = ⟨Q.tS s 4, Q.tN (Q.tR s 4) 1, Q.tN (Q.tR (Q.tR s 4) 1) 3 == 1⟩ := if_pos h
  have hR : rfR s = Q.tR (Q.tR (Q.tR s 4) 1) 3 := if_pos h
  unfold rfE at h
  have h1 : Q.tE s 4 = 0 := by split at h <;> simp_all
  rw [if_pos h1] at h
  have h2 : Q.tE (Q.tR s 4) 1 = 0 := by split at h <;> simp_all
  rw [if_pos h2] at h
  obtain ⟨-, b1⟩ := Q.item_bytes (by decide) (by decide) h1
  obtain ⟨-, b2⟩ := Q.item_bytes (by decide) (by decide) h2
  obtain ⟨m3, b3⟩ := Q.item_bytes (by decide) (by decide) h
  rw [tS1S] at b2
  rw [tS3S] at b3
  rw [itB4 _ 0] at b1
  rw [hX, hR, ← b1, ← b2, ← b3]
  simp only [encF, itF, may3S m3, List.flatMap_cons, List.flatMap_nil, List.append_nil, List.append_assoc]
theorem rf_read {s r : ByteArray} {x : Fd} (hm : ∀ y ∈ itF x, Q.mayIt y = true) (h : s.data.toList = encF x ++ r.data.toList) : rfE s = 0 ∧ rfX s = x ∧ rfR s = r := by
  simp only [encF, itF, List.flatMap_cons, List.flatMap_nil, List.append_nil, List.append_assoc] at h
  obtain ⟨-, e1, x1, r1⟩ := Q.item_read (hm _ (by simp [itF])) h
  obtain ⟨-, e2, x2, r2⟩ := Q.item_read (hm _ (by simp [itF])) r1
  obtain ⟨-, e3, x3, r3⟩ := Q.item_read (hm _ (by simp [itF])) r2
  dsimp only at *
  have hE : rfE s = 0 := by unfold rfE; rw [if_pos e1, if_pos e2]; exact e3
  have hX : rfX s = ⟨Q.tS s 4, Q.tN (Q.tR s 4) 1, Q.tN (Q.tR (Q.tR s 4) 1) 3 == 1⟩ := if_pos hE
  have hR : rfR s = Q.tR (Q.tR (Q.tR s 4) 1) 3 := if_pos hE
  refine ⟨hE, ?_, by rw [hR]; exact ba_eq r3⟩
  have y1 := congrArg It.s x1
  have y2 := congrArg It.n x2
  have y3 := congrArg It.n x3
  dsimp only at y1 y2 y3
  rw [hX, y1, y2, y3]
  obtain ⟨a, b, c⟩ := x
  cases c <;> rfl

/-! ### one attribute -/
def raE (s : ByteArray) : Int := if Q.tE s 4 = 0 then (V.rd (Q.tR s 4)).e else Q.tE s 4
def raX (s : ByteArray) : At := if Q.tE s 4 = 0 then ⟨Q.tS s 4, (V.rd (Q.tR s 4)).k, (V.rd (Q.tR s 4)).n, (V.rd (Q.tR s 4)).s⟩ else ⟨e0S, 0, 0, e0S⟩
def raR (s : ByteArray) : ByteArray := if Q.tE s 4 = 0 then (V.rd (Q.tR s 4)).r else e0S
theorem rd_size (s : ByteArray) : (V.rd s).r.size ≤ s.size ∧ (V.rd s).s.size ≤ s.size := by
  have h1 := Q.getRest_size s
  have h2 := Q.tR_size (Q.getRest s) (V.itm (Q.getV s))
  have h3 := V.tS_size (Q.getRest s) (V.itm (Q.getV s))
  unfold V.rd
  split
  · exact ⟨Nat.zero_le _, Nat.zero_le _⟩
  split
  · exact ⟨Nat.zero_le _, Nat.zero_le _⟩
  split
  · exact ⟨Nat.zero_le _, Nat.zero_le _⟩
  split
  · exact ⟨by dsimp only; omega, by dsimp only; omega⟩
  · exact ⟨Nat.zero_le _, Nat.zero_le _⟩
theorem raR_size (s : ByteArray) : (raR s).size ≤ s.size := by
  unfold raR
  split
  · exact Nat.le_trans (rd_size _).1 (Q.tR_size _ _)
  · show 0 ≤ _
    exact Nat.zero_le _
theorem raX_size (s : ByteArray) : (raX s).n.size ≤ s.size ∧ (raX s).s.size ≤ s.size := by
  unfold raX
  split
  · dsimp only
    exact ⟨V.tS_size _ _, Nat.le_trans (rd_size _).2 (Q.tR_size _ _)⟩
  · exact ⟨Nat.zero_le _, Nat.zero_le _⟩
def encA (x : At) : List UInt8 := Q.itB ⟨4, 0, x.n⟩ ++ (V.txtV x.k x.v x.s).data.toList
theorem ra_bytes {s : ByteArray} (h : raE s = 0) : encA (raX s) ++ (raR s).data.toList = s.data.toList := by
  unfold raE at h
  have h1 : Q.tE s 4 = 0 := by split at h <;> simp_all
  rw [if_pos h1] at h
  have hX : raX s = ⟨Q.tS s 4, (V.rd (Q.tR s 4)).k, (V.rd (Q.tR s 4)).n, (V.rd (Q.tR s 4)).s⟩ := if_pos h1
  have hR : raR s = (V.rd (Q.tR s 4)).r := if_pos h1
  obtain ⟨-, b1⟩ := Q.item_bytes (by decide) (by decide) h1
  obtain ⟨-, b2⟩ := V.read_once h
  have b3 : (V.txtV (V.rd (Q.tR s 4)).k (V.rd (Q.tR s 4)).n (V.rd (Q.tR s 4)).s).data.toList ++ (V.rd (Q.tR s 4)).r.data.toList = (Q.tR s 4).data.toList := by rw [← ba_append, b2]
  rw [itB4 _ 0] at b1
  rw [hX, hR, ← b1]
  unfold encA
  dsimp only
  rw [List.append_assoc, b3]
theorem ra_read {s r : ByteArray} {x : At} (hm : Q.mayIt ⟨4, 0, x.n⟩ = true) (hc : chkV x.k x.v x.s = true) (h : s.data.toList = encA x ++ r.data.toList) : raE s = 0 ∧ raX s = x ∧ raR s = r := by
  unfold encA at h
  rw [List.append_assoc] at h
  obtain ⟨-, e1, x1, r1⟩ := Q.item_read hm h
  dsimp only at *
  have hb : Q.tR s 4 = V.txtV x.k x.v x.s ++ r := ba_eq (by rw [r1, ba_append])
  have y1 := congrArg It.s x1
  dsimp only at y1
  have hv := V.read_back hc r
  refine ⟨?_, ?_, ?_⟩
  · unfold raE; rw [if_pos e1, hb, hv]
  · unfold raX; rw [if_pos e1, hb, hv, y1]
  · unfold raR; rw [if_pos e1, hb, hv]

/-! ### many -/
section
variable {α : Type}
/-- So many of them, one behind the other. -/
def rmE (X : ByteArray → α) (R : ByteArray → ByteArray) (E : ByteArray → Int) : Nat → ByteArray → Except Int (List α × ByteArray)
  | 0, s => .ok ([], s)
  | n + 1, s => if E s = 0 then (match rmE X R E n (R s) with | .ok r => .ok (X s :: r.1, r.2) | .error e => .error e) else .error (E s)
def manyE (X : ByteArray → α) (R : ByteArray → ByteArray) (E : ByteArray → Int) (s : ByteArray) : Except Int (List α × ByteArray) :=
  if Q.getE s = 0 then (match rmE X R E (Q.getV s).toNat (Q.getRest s) with | .ok r => if 24 < Q.getV s then .error 2 else .ok r | .error e => .error e) else .error (Q.getE s)
/-- What is left, put behind what there is. -/
def behE (acc : List α) : Except Int (List α × ByteArray) → Except Int (List α × ByteArray)
  | .ok r => .ok (acc ++ r.1, r.2)
  | .error e => .error e
theorem rm_more {X : ByteArray → α} {R : ByteArray → ByteArray} {E : ByteArray → Int} {n k : Nat} {s0 s : ByteArray} {acc : List α} (hk : k < n) (h : rmE X R E n s0 = behE acc (rmE X R E (n - k) s)) (he : E s = 0) : rmE X R E n s0 = behE (acc ++ [X s]) (rmE X R E (n - (k + 1)) (R s)) := by
  rw [h, show n - k = (n - (k + 1)) + 1 by omega, rmE, if_pos he]
  cases rmE X R E (n - (k + 1)) (R s) <;> simp [behE]
theorem rm_no {X : ByteArray → α} {R : ByteArray → ByteArray} {E : ByteArray → Int} {n k : Nat} {s0 s : ByteArray} {acc : List α} (hk : k < n) (h : rmE X R E n s0 = behE acc (rmE X R E (n - k) s)) (he : E s ≠ 0) : rmE X R E n s0 = .error (E s) := by
  rw [h, show n - k = (n - (k + 1)) + 1 by omega, rmE, if_neg he]
  rfl
theorem rm_bytes {X : ByteArray → α} {R : ByteArray → ByteArray} {E : ByteArray → Int} {enc : α → List UInt8} (hb : ∀ s, E s = 0 → enc (X s) ++ (R s).data.toList = s.data.toList) : ∀ (n : Nat) (s : ByteArray) (l : List α) (r : ByteArray), rmE X R E n s = .ok (l, r) → l.length = n ∧ l.flatMap enc ++ r.data.toList = s.data.toList
  | 0, s, l, r, h => by
    obtain ⟨rfl, rfl⟩ := Prod.mk.inj (Except.ok.inj h)
    exact ⟨rfl, rfl⟩
  | n + 1, s, l, r, h => by
    rw [rmE] at h
    split at h
    · rename_i h0
      cases hx : rmE X R E n (R s) with
      | error e => rw [hx] at h; cases h
      | ok x =>
        obtain ⟨l', r'⟩ := x
        rw [hx] at h
        obtain ⟨rfl, rfl⟩ := Prod.mk.inj (Except.ok.inj h)
        obtain ⟨i1, i2⟩ := rm_bytes hb n _ _ _ hx
        refine ⟨by simp [i1], ?_⟩
        rw [List.flatMap_cons, List.append_assoc, i2, hb s h0]
    · cases h
theorem rm_all {X : ByteArray → α} {R : ByteArray → ByteArray} {E : ByteArray → Int} {p : α → Prop} {N : Nat} (hX : ∀ s : ByteArray, s.size ≤ N → p (X s)) (hR : ∀ s : ByteArray, (R s).size ≤ s.size) : ∀ (n : Nat) (s : ByteArray) (l : List α) (r : ByteArray), s.size ≤ N → rmE X R E n s = .ok (l, r) → (∀ x ∈ l, p x) ∧ r.size ≤ s.size
  | 0, s, l, r, hs, h => by
    obtain ⟨rfl, rfl⟩ := Prod.mk.inj (Except.ok.inj h)
    exact ⟨(fun x hx => by cases hx), Nat.le_refl _⟩
  | n + 1, s, l, r, hs, h => by
    rw [rmE] at h
    split at h
    · cases hx : rmE X R E n (R s) with
      | error e => rw [hx] at h; cases h
      | ok x =>
        obtain ⟨l', r'⟩ := x
        rw [hx] at h
        obtain ⟨rfl, rfl⟩ := Prod.mk.inj (Except.ok.inj h)
        have h1 := hR s
        obtain ⟨i1, i2⟩ := rm_all hX hR n _ _ _ (by omega) hx
        refine ⟨fun x hx => ?_, by dsimp only; omega⟩
        rcases List.mem_cons.1 hx with rfl | hx
        · exact hX s hs
        · exact i1 x hx
    · cases h
theorem rm_read {X : ByteArray → α} {R : ByteArray → ByteArray} {E : ByteArray → Int} {enc : α → List UInt8} : ∀ (l : List α) (s r : ByteArray), (∀ x ∈ l, ∀ s r : ByteArray, s.data.toList = enc x ++ r.data.toList → E s = 0 ∧ X s = x ∧ R s = r) → s.data.toList = l.flatMap enc ++ r.data.toList → rmE X R E l.length s = .ok (l, r)
  | [], s, r, _, h => by
    have : s = r := ba_eq h
    subst this
    rfl
  | x :: l, s, r, hx, h => by
    have h' : s.data.toList = enc x ++ (⟨(l.flatMap enc ++ r.data.toList).toArray⟩ : ByteArray).data.toList := by
      rw [h, List.flatMap_cons, List.append_assoc]
    obtain ⟨a1, a2, a3⟩ := hx x (by simp) _ _ h'
    have ih := rm_read l (R s) r (fun y hy => hx y (by simp [hy])) (by rw [a3])
    show rmE X R E (l.length + 1) s = _
    rw [rmE, if_pos a1, ih, a2]
theorem many_bytes {X : ByteArray → α} {R : ByteArray → ByteArray} {E : ByteArray → Int} {enc : α → List UInt8} (hb : ∀ s, E s = 0 → enc (X s) ++ (R s).data.toList = s.data.toList) {s r : ByteArray} {l : List α} (h : manyE X R E s = .ok (l, r)) : l.length ≤ 24 ∧ (Q.numL l.length ++ l.flatMap enc) ++ r.data.toList = s.data.toList := by
  unfold manyE at h
  split at h
  · rename_i h0
    cases hx : rmE X R E (Q.getV s).toNat (Q.getRest s) with
    | error e => rw [hx] at h; cases h
    | ok x =>
      obtain ⟨l', r'⟩ := x
      rw [hx] at h
      dsimp only at h
      split at h
      · cases h
      · rename_i h24
        obtain ⟨rfl, rfl⟩ := Prod.mk.inj (Except.ok.inj h)
        obtain ⟨i1, i2⟩ := rm_bytes hb _ _ _ _ hx
        have hv := (Q.getV_nn s).1
        refine ⟨by omega, ?_⟩
        rw [i1, Int.toNat_of_nonneg hv, List.append_assoc, i2]
        exact Q.get_bytes h0
  · cases h
theorem many_all {X : ByteArray → α} {R : ByteArray → ByteArray} {E : ByteArray → Int} {p : α → Prop} {N : Nat} (hX : ∀ s : ByteArray, s.size ≤ N → p (X s)) (hR : ∀ s : ByteArray, (R s).size ≤ s.size) {s r : ByteArray} {l : List α} (hs : s.size ≤ N) (h : manyE X R E s = .ok (l, r)) : (∀ x ∈ l, p x) ∧ r.size ≤ s.size := by
  unfold manyE at h
  split at h
  · cases hx : rmE X R E (Q.getV s).toNat (Q.getRest s) with
    | error e => rw [hx] at h; cases h
    | ok x =>
      obtain ⟨l', r'⟩ := x
      rw [hx] at h
      dsimp only at h
      split at h
      · cases h
      · obtain ⟨rfl, rfl⟩ := Prod.mk.inj (Except.ok.inj h)
        have hg := Q.getRest_size s
        obtain ⟨i1, i2⟩ := rm_all (p := p) (N := N) hX hR _ _ _ _ (by omega) hx
        exact ⟨i1, by omega⟩
  · cases h
theorem many_read {X : ByteArray → α} {R : ByteArray → ByteArray} {E : ByteArray → Int} {enc : α → List UInt8} {l : List α} {s r : ByteArray} (hx : ∀ x ∈ l, ∀ s r : ByteArray, s.data.toList = enc x ++ r.data.toList → E s = 0 ∧ X s = x ∧ R s = r) (hl : l.length ≤ 24) (h : s.data.toList = (Q.numL l.length ++ l.flatMap enc) ++ r.data.toList) : manyE X R E s = .ok (l, r) := by
  rw [List.append_assoc] at h
  obtain ⟨g1, g2, g3⟩ := Q.get_num (n := (l.length : Int)) (by omega) (by omega) h
  unfold manyE
  rw [if_pos g1, g2, Int.toNat_natCast, rm_read l _ r hx g3]
  dsimp only
  rw [if_neg (by omega)]
end
/-! ### the whole -/
def readS (s : ByteArray) : Except Int (List Fd × ByteArray) := match manyE rfX rfR rfE s with
  | .ok r => if chkF r.1 = true then .ok r else .error 3
  | .error e => .error e
def readA (s : ByteArray) : Except Int (List At × ByteArray) := match manyE raX raR raE s with
  | .ok r => if chkA r.1 = true then .ok r else .error 3
  | .error e => .error e
def itS (l : List Fd) : List It := ⟨1, (l.length : Int), e0S⟩ :: l.flatMap itF
def textS (l : List Fd) : ByteArray := if chkF l = true then ⟨((itS l).flatMap Q.itB).toArray⟩ else e0S
def textA (l : List At) : ByteArray := if chkA l = true then ⟨(Q.numL l.length ++ l.flatMap encA).toArray⟩ else e0S
theorem itS_flat (l : List Fd) : (itS l).flatMap Q.itB = Q.numL l.length ++ l.flatMap encF := by
  unfold itS
  rw [List.flatMap_cons, List.flatMap_assoc]
  rfl
theorem readS_once {s r : ByteArray} {l : List Fd} (h : readS s = .ok (l, r)) : chkF l = true ∧ textS l ++ r = s := by
  unfold readS at h
  cases hx : manyE rfX rfR rfE s with
  | error e => rw [hx] at h; cases h
  | ok x =>
    obtain ⟨l', r'⟩ := x
    rw [hx] at h
    dsimp only at h
    split at h
    · rename_i hc
      obtain ⟨rfl, rfl⟩ := Prod.mk.inj (Except.ok.inj h)
      obtain ⟨-, i2⟩ := many_bytes (enc := encF) (fun s h => rf_bytes h) hx
      refine ⟨hc, ba_eq ?_⟩
      unfold textS
      rw [if_pos hc, ba_append, itS_flat]
      exact i2
    · cases h
theorem readA_once {s r : ByteArray} {l : List At} (h : readA s = .ok (l, r)) : chkA l = true ∧ textA l ++ r = s := by
  unfold readA at h
  cases hx : manyE raX raR raE s with
  | error e => rw [hx] at h; cases h
  | ok x =>
    obtain ⟨l', r'⟩ := x
    rw [hx] at h
    dsimp only at h
    split at h
    · rename_i hc
      obtain ⟨rfl, rfl⟩ := Prod.mk.inj (Except.ok.inj h)
      obtain ⟨-, i2⟩ := many_bytes (enc := encA) (fun s h => ra_bytes h) hx
      refine ⟨hc, ba_eq ?_⟩
      unfold textA
      rw [if_pos hc, ba_append]
      exact i2
    · cases h
end Go.Proofs.YtfbhalkiilbcoaaGreatDoor
