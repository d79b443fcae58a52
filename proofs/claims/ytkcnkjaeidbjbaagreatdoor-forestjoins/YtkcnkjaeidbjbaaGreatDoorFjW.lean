/- ForestJoins: its walk. -/
import Derived.Test.YtkcnkjaeidbjbaaGreatDoorFjJ
import Derived.Test.YtkcnkjaeidbjbaaGreatDoorFjS
import Derived.Test.YtkcnkjaeidbjbaaGreatDoorZs
import Derived.Test.YtkcnkjaeidbjbaaGreatDoorZh
import Derived.Test.YtkcnkjaeidbjbaaGreatDoorZr
namespace Go.Proofs.YtkcnkjaeidbjbaaGreatDoor
open Go.RowKit Go.ChangeMaps

theorem joR_self {a : List Ty} (h : isB a = true) : joR a a = (a, 0) := by
  unfold joR
  rw [jn_self, if_pos h]
theorem joR_again {a b : List Ty} (h : isB (jnT a b) = true) : joR (jnT a b) b = (jnT a b, 0) := by
  unfold joR
  rw [jn_again, if_pos h]
theorem jn_both {A B K : List LT} (hk : tys K = jnT (tys A) (tys B)) {p : Ty → Prop} (ha : ∀ x ∈ A, p x.t) (hb : ∀ x ∈ B, p x.t) : ∀ z ∈ K, p z.t := fun z hz => by
  have h1 : z.t ∈ tys K := List.mem_map.2 ⟨z, hz, rfl⟩
  rw [hk, ← jn_tys] at h1
  obtain ⟨z', hz', e⟩ := List.mem_map.1 h1
  rw [← e]
  rcases jn_mem A B z' hz' with h | h
  · exact ha _ h
  · exact hb _ h
theorem jn_lenK {A B K : List LT} (hk : tys K = jnT (tys A) (tys B)) : K.length ≤ A.length + B.length := by
  have h1 := congrArg List.length hk
  rw [tys_len, ← jn_tys, tys_len] at h1
  have := jn_len A B
  omega
/-- What the law's loop asks: two of one name and one maker are the same. -/
theorem pair_of {A B : List LT} (hb : isB (tys B) = true) (h : ∀ (j : Nat) (hj : j < A.length) (y : Ty), parN (tys B) A[j].t.n = some y → (y.nd = A[j].t.nd ∧ y.lf = A[j].t.lf ∧ y.sq = A[j].t.sq) → y = A[j].t) : ∀ x ∈ tys A, ∀ y ∈ tys B, nmC x y.n = 0 → ordY x y = 0 → x = y := by
  intro x hx y hy h0 ho
  obtain ⟨j, hj, rfl⟩ := List.mem_iff_getElem.1 hx
  have hj' : j < A.length := by rwa [tys_len] at hj
  rw [tys_at A j hj'] at *
  have h1 : nmC y A[j].t.n = 0 := by
    have : nmC y A[j].t.n = - nmC A[j].t y.n := cmpL_anti _ _
    omega
  have h2 := parN_mem ((isB_iff _).1 hb).2.2.1 hy h1
  obtain ⟨o1, o2, o3⟩ := ordY_zero.1 ho
  exact (h j hj' y h2 ⟨o1.symm, o2.symm, o3.symm⟩).symm
set_option maxRecDepth 100000 in
set_option maxHeartbeats 8000000 in
theorem forestJoins_walk (v : Value) (A : List LT) (u : Value) (B : List LT) (w : World) (hA : IsTys w v A) (hla : A.length ≤ 140737488355328) (hia : ∀ x ∈ A, InT x.t) (hB : IsTys w u B) (hlb : B.length ≤ 140737488355328) (hib : ∀ x ∈ B, InT x.t) (hW : W3 w) :
    Calls Tryz.prog 6 #[v, u] w fun e w' => e = .returned (.bool true) ∧ Below w.heap.size w w' := by
  obtain ⟨a0, cap0, rfl⟩ := hA.1.form
  obtain ⟨a1, cap1, rfl⟩ := hB.1.form
  have HWW : Hid (∀ W, Below w.heap.size w W → W3 W) := fun W h => hW.below h
  have HAw : Hid (∀ W, Below w.heap.size w W → Calls Tryz.prog 10 #[] W fun e w' => e = .returned (.bool true) ∧ Below W.heap.size W w') := fun W h => awake5_any W (hW.below h)
  have HFa : Hid (∀ W, Below w.heap.size w W → Calls Tryz.prog 7 #[.slice a0 A.length cap0] W fun e w' => e = .returned (.bool (fewL (tys A))) ∧ Below W.heap.size W w') := fun W h => fewT_any _ A W (hA.below h) hla hia
  have HFb : Hid (∀ W, Below w.heap.size w W → Calls Tryz.prog 7 #[.slice a1 B.length cap1] W fun e w' => e = .returned (.bool (fewL (tys B))) ∧ Below W.heap.size W w') := fun W h => fewT_any _ B W (hB.below h) hlb hib
  have HTa : Hid (∀ W, Below w.heap.size w W → IsTys W (.slice a0 A.length cap0) A) := fun W h => hA.below h
  have HTb : Hid (∀ W, Below w.heap.size w W → IsTys W (.slice a1 B.length cap1) B) := fun W h => hB.below h
  have HW0 : Hid (Below w.heap.size w w) := Below.refl _ _
  clear hA hla hia hB hlb hib hW
  go_enter Tryz.func6, Tryz.ntmps6
  go_wp2_with fail
  refine (HFa.out _ HW0.out).mono ?_
  rintro e w1 ⟨rfl, hb⟩
  have Hw1 : Hid (Below w.heap.size w w1) := hb
  clear hb HFa
  cases hfa : fewL (tys A)
  · clear hfa HTa HTb HWW HFb
    go_wp2_with fail
    refine (HAw.out _ Hw1.out).mono ?_
    rintro e wz ⟨rfl, hb⟩
    have HBz : Hid (Below w.heap.size w wz) := Hw1.out.trans (hb.mono Hw1.out.size)
    clear hb
    go_wp2
    go_ret
    exact ⟨rfl, HBz.out⟩
  obtain ⟨f1, f2, f3⟩ := fewL_ok hfa
  go_wp2_with fail
  refine (HFb.out _ Hw1.out).mono ?_
  rintro e w2 ⟨rfl, hb⟩
  have Hw2 : Hid (Below w.heap.size w w2) := Hw1.out.trans (hb.mono Hw1.out.size)
  clear hb HFb
  cases hfb : fewL (tys B)
  · clear hfa hfb f1 f2 f3 HTa HTb HWW
    go_wp2_with fail
    refine (HAw.out _ Hw2.out).mono ?_
    rintro e wz ⟨rfl, hb⟩
    have HBz : Hid (Below w.heap.size w wz) := Hw2.out.trans (hb.mono Hw2.out.size)
    clear hb
    go_wp2
    go_ret
    exact ⟨rfl, HBz.out⟩
  obtain ⟨h1, h2, h3⟩ := fewL_ok hfb
  have HIa : Hid (Calls Tryz.prog 31 #[.slice a0 A.length cap0] w2 fun e w' => e = .returned (.bool (isB (tys A))) ∧ Below w2.heap.size w2 w') := is_any _ A w2 (HTa.out _ Hw2.out) (by omega) f2 (HWW.out _ Hw2.out)
  go_wp2_with fail
  refine HIa.out.mono ?_
  rintro e w3 ⟨rfl, hb⟩
  have Hw3 : Hid (Below w.heap.size w w3) := Hw2.out.trans (hb.mono Hw2.out.size)
  clear hb HIa hfa hfb
  cases hia : isB (tys A)
  · clear hia f1 f2 f3 h1 h2 h3 HTa HTb HWW
    go_wp2_with fail
    refine (HAw.out _ Hw3.out).mono ?_
    rintro e wz ⟨rfl, hb⟩
    have HBz : Hid (Below w.heap.size w wz) := Hw3.out.trans (hb.mono Hw3.out.size)
    clear hb
    go_wp2
    go_ret
    exact ⟨rfl, HBz.out⟩
  have HIb : Hid (Calls Tryz.prog 31 #[.slice a1 B.length cap1] w3 fun e w' => e = .returned (.bool (isB (tys B))) ∧ Below w3.heap.size w3 w') := is_any _ B w3 (HTb.out _ Hw3.out) (by omega) h2 (HWW.out _ Hw3.out)
  go_wp2_with fail
  refine HIb.out.mono ?_
  rintro e w4 ⟨rfl, hb⟩
  have Hw4 : Hid (Below w.heap.size w w4) := Hw3.out.trans (hb.mono Hw3.out.size)
  clear hb HIb
  cases hib : isB (tys B)
  · clear hia hib f1 f2 f3 h1 h2 h3 HTa HTb HWW
    go_wp2_with fail
    refine (HAw.out _ Hw4.out).mono ?_
    rintro e wz ⟨rfl, hb⟩
    have HBz : Hid (Below w.heap.size w wz) := Hw4.out.trans (hb.mono Hw4.out.size)
    clear hb
    go_wp2
    go_ret
    exact ⟨rfl, HBz.out⟩
  have HJaa : Hid (∀ W, Below w.heap.size w W → Calls Tryz.prog 23 #[.slice a0 A.length cap0, .slice a0 A.length cap0] W fun e w' => AdP (tys A, 0) W e w') := fun W h => by
    have := join_any _ _ A A W (HTa.out W h) (HTa.out W h) (by omega) (by omega) f2 f2 f3 f3 hia hia (HWW.out W h)
    rw [joR_self hia] at this
    exact this
  have HJab : Hid (∀ W, Below w.heap.size w W → Calls Tryz.prog 23 #[.slice a0 A.length cap0, .slice a1 B.length cap1] W fun e w' => AdP (joR (tys A) (tys B)) W e w') := fun W h => join_any _ _ A B W (HTa.out W h) (HTb.out W h) (by omega) (by omega) f2 h2 f3 h3 hia hib (HWW.out W h)
  have HJba : Hid (jnT (tys A) (tys B) = jnT (tys B) (tys A) → ∀ W, Below w.heap.size w W → Calls Tryz.prog 23 #[.slice a1 B.length cap1, .slice a0 A.length cap0] W fun e w' => AdP (joR (tys A) (tys B)) W e w') := fun hc W h => by
    have := join_any _ _ B A W (HTb.out W h) (HTa.out W h) (by omega) (by omega) h2 f2 h3 f3 hib hia (HWW.out W h)
    have e : joR (tys B) (tys A) = joR (tys A) (tys B) := by unfold joR; rw [hc]
    rw [e] at this
    exact this
  have HJxb : Hid (∀ (K : List LT) (q : Value) W, Below w.heap.size w W → tys K = jnT (tys A) (tys B) → isB (jnT (tys A) (tys B)) = true → IsTys W q K → Calls Tryz.prog 23 #[q, .slice a1 B.length cap1] W fun e w' => AdP (tys K, 0) W e w') := fun K q W h hk hi hT => by
    have hl := jn_lenK hk
    have := join_any q _ K B W hT (HTb.out W h) (by omega) (by omega) (jn_both hk f2 h2) h2 (jn_both hk f3 h3) h3 (by rw [hk]; exact hi) hib (HWW.out W h)
    rw [hk, joR_again hi, ← hk] at this
    exact this
  have HRf : Hid (∀ (K : List LT) (q : Value) W, IsTys W q K → K.length ≤ 1000 → SmL K → Calls Tryz.prog 14 #[q] W fun e w' => RvP K W e w') := fun K q W hT hl hm => refsT_any q K W hT (by omega) hm
  have HSm : Hid (SmL A ∧ SmL B ∧ A.length ≤ 26 ∧ B.length ≤ 26) := ⟨f3, h3, f1, h1⟩
  have HKb : Hid (∀ K : List LT, tys K = jnT (tys A) (tys B) → SmL K ∧ K.length ≤ 52) := fun K hk => ⟨jn_both hk f3 h3, by have := jn_lenK hk; omega⟩
  have HFi : Hid (∀ (k : Nat) (hk : k < A.length) W, Below w.heap.size w W → Calls Tryz.prog 28 #[.slice a1 B.length cap1, .string A[k].t.n] W fun e w' => FnP B A[k].t.n W e w') := fun k hk W h => findT_any _ B _ W (HTb.out W h) (by omega) (nmN h2) h3 (f2 _ (List.getElem_mem hk)).n (HWW.out W h).t
  have HSt : Hid (∀ (k : Nat) (hk : k < A.length) (y : LT) W, Below w.heap.size w W → y.t = (parN (tys B) A[k].t.n).getD zT → IsTy W y.t y.vo y.va y.vc → Calls Tryz.prog 33 #[ltV y, ltV A[k]] W fun e w' => e = .returned (.bool (sameT y.t A[k].t)) ∧ Below W.heap.size W w') := fun k hk y W h hy hI => by
    have sa := f3 _ (List.getElem_mem hk)
    have sy : SmT y.t := by
      rw [hy]
      cases hp : parN (tys B) A[k].t.n with
      | none => exact ⟨by decide, by decide, by decide⟩
      | some o =>
        obtain ⟨z, hz, e⟩ := List.mem_map.1 (parN_some hp).1
        show SmT o
        rw [← e]
        exact h3 z hz
    exact sameT_any y _ W hI ((HTa.out W h).2 _ (List.getElem_mem hk)) ⟨by have := sy.1; omega, by have := sy.2.1; omega, by have := sy.2.2; omega⟩ ⟨by have := sa.1; omega, by have := sa.2.1; omega, by have := sa.2.2; omega⟩
  have HPair : Hid ((∀ (j : Nat) (hj : j < A.length) (y : Ty), parN (tys B) A[j].t.n = some y → (y.nd = A[j].t.nd ∧ y.lf = A[j].t.lf ∧ y.sq = A[j].t.sq) → y = A[j].t) → jnT (tys A) (tys B) = jnT (tys B) (tys A)) := fun h => jn_comm _ _ (pair_of hib h)
  clear hia hib f2 f3 h2 h3 HWW
  go_wp2_with fail
  refine (HJaa.out _ Hw4.out).mono ?_
  rintro e w5 ⟨sa, sc, K, rfl, hk5, hT5, hb⟩
  dsimp only at hk5
  have Hw5 : Hid (Below w.heap.size w w5) := Hw4.out.trans (hb.mono Hw4.out.size)
  have hKs : SmL K := fun z hz => by
    have h1 : z.t ∈ tys K := List.mem_map.2 ⟨z, hz, rfl⟩
    rw [hk5] at h1
    obtain ⟨z', hz', e⟩ := List.mem_map.1 h1
    rw [← e]; exact HSm.out.1 z' hz'
  have hKl : K.length ≤ 1000 := by have := congrArg List.length hk5; rw [tys_len, tys_len] at this; omega
  have HR5 : Hid (Calls Tryz.prog 14 #[.slice sa K.length sc] w5 fun e w' => RvP K w5 e w') := HRf.out K _ w5 hT5 hKl hKs
  have Hk5 : Hid (tys K = tys A) := hk5
  clear hb hT5 hk5 hKs hKl HJaa
  go_wp2_with fail
  refine HR5.out.mono ?_
  rintro e w6 ⟨ra, rc, M, rfl, hm6, hl6, hT6, hb⟩
  have Hw6 : Hid (Below w.heap.size w w6) := Hw5.out.trans (hb.mono Hw5.out.size)
  have HT6 : Hid (∀ W, Below w6.heap.size w6 W → IsTys W (.slice ra K.length rc) M) := fun W h => hT6.below h
  have Hm6 : Hid (tys M = tys A) := hm6.trans Hk5.out
  clear hb hT6 hm6 hl6 HR5
  have HR6 : Hid (Calls Tryz.prog 14 #[.slice a0 A.length cap0] w6 fun e w' => RvP A w6 e w') := HRf.out A _ w6 (HTa.out _ Hw6.out) (by have := HSm.out.2.2.1; omega) HSm.out.1
  go_wp2_with fail
  refine HR6.out.mono ?_
  rintro e w7 ⟨rb, rd, M2, rfl, hm7, hl7, hT7, hb⟩
  have Hw7 : Hid (Below w.heap.size w w7) := Hw6.out.trans (hb.mono Hw6.out.size)
  have HSA : Hid (Calls Tryz.prog 25 #[.slice ra K.length rc, .slice rb A.length rd] w7 fun e w' => e = .returned (.bool true) ∧ Below w7.heap.size w7 w') := by
    have hMl : M.length ≤ 1000 := by have := congrArg List.length Hm6.out; rw [tys_len, tys_len] at this; have := HSm.out.2.2.1; omega
    have hMs : SmL M := fun z hz => by
      have h1 : z.t ∈ tys M := List.mem_map.2 ⟨z, hz, rfl⟩
      rw [Hm6.out] at h1
      obtain ⟨z', hz', e⟩ := List.mem_map.1 h1
      rw [← e]; exact HSm.out.1 z' hz'
    exact refSameAll_ok _ _ M M2 w7 (Hm6.out.trans hm7.symm) (HT6.out w7 hb) hT7 (by omega) hMs
  clear hb hm7 hl7 hT7 HR6 HT6 Hm6 Hk5
  go_wp2_with fail
  refine HSA.out.mono ?_
  rintro e w8 ⟨rfl, hb⟩
  have Hw8 : Hid (Below w.heap.size w w8) := Hw7.out.trans (hb.mono Hw7.out.size)
  clear hb HSA
  go_wp2_with fail
  go_loopw [4, 7, 9] (fun r i _ wr => r = .bool false ∧ ∃ k : Nat, k ≤ A.length ∧ i = .int .i64 (k : Int) ∧ Hid (∀ (j : Nat) (hj : j < A.length) (y : Ty), j < k → parN (tys B) A[j].t.n = some y → (y.nd = A[j].t.nd ∧ y.lf = A[j].t.lf ∧ y.sq = A[j].t.sq) → y = A[j].t) ∧ Hid (Below w.heap.size w wr)) (fun _ i _ _ => A.length - (intOf i).toNat)
  case atStart => exact ⟨rfl, 0, Nat.zero_le _, rfl, fun j _ _ h => absurd h (Nat.not_lt_zero _), Hw8⟩
  case round =>
    clear Hw1 Hw2 Hw3 Hw4 Hw5 Hw6 Hw7 Hw8 HW0
    obtain ⟨rfl, k, hk, rfl, HO, HB⟩ := hrel
    have hlA := HSm.out.2.2.1
    by_cases hlk : k < A.length
    · have dk : decide ((k : Int) < (A.length : Int)) = true := by simp; omega
      have i1 : (0 : Int) ≤ (k : Int) := by omega
      have i2 : (k : Int) < (A.length : Int) := by omega
      obtain ⟨b, off, rfl, hbl, -, hcap, hc⟩ := t_at (HTa.out _ HB.out).1 (by omega)
      obtain ⟨⟨y0, y1, y2, y3⟩, y4, y5, y6, y7⟩ := hc k hlk
      have HXa : Hid (∀ W, Below w.heap.size w W → BxO b (off + k * 8) A[k] W) := fun W h => by
        obtain ⟨b', o', e, -, -, -, hc'⟩ := t_at (HTa.out W h).1 (by omega)
        simp only [Option.some.injEq, Addr.mk.injEq, and_true] at e
        obtain ⟨rfl, rfl⟩ := e
        exact hc' k hlk
      have HFk : Hid (Calls Tryz.prog 28 #[.slice a1 B.length cap1, .string A[k].t.n] wr fun e w' => FnP B A[k].t.n wr e w') := HFi.out k hlk wr HB.out
      have HSk : Hid (∀ (y : LT) W, Below w.heap.size w W → y.t = (parN (tys B) A[k].t.n).getD zT → IsTy W y.t y.vo y.va y.vc → Calls Tryz.prog 33 #[ltV y, ltV A[k]] W fun e w' => e = .returned (.bool (sameT y.t A[k].t)) ∧ Below W.heap.size W w') := fun y W h1 h2 h3 => HSt.out k hlk y W h1 h2 h3
      have HOk : Hid ((∀ y : Ty, parN (tys B) A[k].t.n = some y → (y.nd = A[k].t.nd ∧ y.lf = A[k].t.lf ∧ y.sq = A[k].t.sq) → y = A[k].t) → ∀ (j : Nat) (hj : j < A.length) (y : Ty), j < k + 1 → parN (tys B) A[j].t.n = some y → (y.nd = A[j].t.nd ∧ y.lf = A[j].t.lf ∧ y.sq = A[j].t.sq) → y = A[j].t) := fun h j hj y hjk hp hq => by
        by_cases e : j = k
        · subst e; exact h y hp hq
        · exact HO.out j hj y (by omega) hp hq
      generalize A[k]'hlk = x at *
      clear hc HO HFi HSt HPair
      go_wp2_with fail
      refine HFk.out.mono ?_
      rintro e wf ⟨y, rfl, hyt, hyI, -, hb⟩
      have Hwf : Hid (Below w.heap.size w wf) := HB.out.trans (hb.mono HB.out.size)
      obtain ⟨Wt, hWt⟩ : ∃ Wt, Wt = wf.alloc (.cells (tyA y.t y.vo y.va y.vc) 30) := ⟨_, rfl⟩
      have hb2 : Below wf.heap.size wf Wt := by rw [hWt]; exact al_b _ _
      have hn2 : Wt.heap[wf.heap.size]? = some (.cells (tyA y.t y.vo y.va y.vc) 30 (0, 0)) := by rw [hWt]; exact new_at _ _
      have HWt : Hid (Below w.heap.size w Wt) := Hwf.out.trans (hb2.mono Hwf.out.size)
      have HXt : Hid (∀ W, Below Wt.heap.size Wt W → BxT wf.heap.size y.t y.vo y.va y.vc W ∧ BxO b (off + k * 8) x W ∧ IsTy W y.t y.vo y.va y.vc) := fun W h => ⟨BxT.of ((h.block _ (Array.getElem?_eq_some_iff.1 hn2).1).trans hn2), HXa.out W (HWt.out.trans (h.mono HWt.out.size)), (hyI.below hb2).below h⟩
      have HSm' : Hid (∀ W, Below Wt.heap.size Wt W → Calls Tryz.prog 33 #[ltV y, ltV x] W fun e w' => e = .returned (.bool (sameT y.t x.t)) ∧ Below W.heap.size W w') := fun W h => HSk.out y W (HWt.out.trans (h.mono HWt.out.size)) hyt (HXt.out W h).2.2
      have HSmm : Hid (sameT y.t x.t = true → y.t = x.t) := (sameT_iff _ _).1
      have Hyt : Hid (y.t = (parN (tys B) x.t.n).getD zT) := hyt
      clear hb hb2 hn2 hyt hyI HSk HXa HFk y0 y1 y2 y3 y4 y5 y6 y7
      go_wp2_with fail
      rw [← hWt]
      clear hWt
      cases his : (parN (tys B) x.t.n).isSome
      · have HO2 := HOk.out (fun z hz _ => by rw [hz] at his; cases his)
        have HO2' : Hid _ := HO2
        clear HO2 HOk his Hyt HSm' HSmm
        refine wp_region_quiet (C := fun w' => Below Wt.heap.size Wt w') (by kernel_rfl) (by kernel_rfl) ((Below.refl _ _).drew) ?_
        dsimp only
        repeat (first
          | go_big_quiet_skip
          | (go_big_quiet_want
             apply Exists.intro
             refine ⟨fun W' hW' => ?_, ?_⟩
             · have hw : Below Wt.heap.size Wt W' := hW'
               obtain ⟨⟨⟨g0, g1, g2, g3⟩, g4, g5, g6, g7⟩, ⟨⟨k0, k1, k2, k3⟩, k4, k5, k6, k7⟩, -⟩ := HXt.out W' hw
               go_simp
               first
                 | done
                 | rfl
             go_big_quiet_on
             try simp only [Act.put, List.setIfInBounds_toArray, List.set_cons_zero, List.set_cons_succ]))
        refine wpQuiet_nil ?_
        intro w2 hqw2
        have Hw2 : Hid (Below Wt.heap.size Wt w2) := hqw2
        have Hw20 : Hid (Below w.heap.size w w2) := HWt.out.trans (hqw2.mono HWt.out.size)
        clear hqw2
        go_wp2
        go_roundw
        case rel => exact ⟨rfl, k + 1, by omega, by simp, HO2'.out, Hw20⟩
        case measure => simp [intOf]; omega
      obtain ⟨o, hpo⟩ := Option.isSome_iff_exists.1 his
      have eyo : y.t = o := by rw [Hyt.out, hpo]; rfl
      clear his Hyt
      by_cases hq : y.t.nd = x.t.nd ∧ y.t.lf = x.t.lf ∧ y.t.sq = x.t.sq
      rotate_left
      · have HO2 := HOk.out (fun z hz hh => by
          rw [hpo] at hz
          obtain rfl := Option.some.inj hz
          rw [← eyo] at hh
          exact absurd hh hq)
        have HO2' : Hid _ := HO2
        clear HO2 HOk HSm' HSmm
        rw [hpo] at *
        clear hpo eyo
        by_cases e1 : y.t.nd = x.t.nd
        rotate_left
        · clear hq
          refine wp_region_quiet (C := fun w' => Below Wt.heap.size Wt w') (by kernel_rfl) (by kernel_rfl) ((Below.refl _ _).drew) ?_
          dsimp only
          repeat (first
            | go_big_quiet_skip
            | (go_big_quiet_want
               apply Exists.intro
               refine ⟨fun W' hW' => ?_, ?_⟩
               · have hw : Below Wt.heap.size Wt W' := hW'
                 obtain ⟨⟨⟨g0, g1, g2, g3⟩, g4, g5, g6, g7⟩, ⟨⟨k0, k1, k2, k3⟩, k4, k5, k6, k7⟩, -⟩ := HXt.out W' hw
                 go_simp
                 first
                   | done
                   | rfl
               go_big_quiet_on
               try simp only [Act.put, List.setIfInBounds_toArray, List.set_cons_zero, List.set_cons_succ]))
          refine wpQuiet_nil ?_
          intro w2 hqw2
          have Hw2 : Hid (Below Wt.heap.size Wt w2) := hqw2
          have Hw20 : Hid (Below w.heap.size w w2) := HWt.out.trans (hqw2.mono HWt.out.size)
          clear hqw2
          go_wp2
          go_roundw
          case rel => exact ⟨rfl, k + 1, by omega, by simp, HO2'.out, Hw20⟩
          case measure => simp [intOf]; omega
        by_cases e2 : y.t.lf = x.t.lf
        rotate_left
        · clear hq
          refine wp_region_quiet (C := fun w' => Below Wt.heap.size Wt w') (by kernel_rfl) (by kernel_rfl) ((Below.refl _ _).drew) ?_
          dsimp only
          repeat (first
            | go_big_quiet_skip
            | (go_big_quiet_want
               apply Exists.intro
               refine ⟨fun W' hW' => ?_, ?_⟩
               · have hw : Below Wt.heap.size Wt W' := hW'
                 obtain ⟨⟨⟨g0, g1, g2, g3⟩, g4, g5, g6, g7⟩, ⟨⟨k0, k1, k2, k3⟩, k4, k5, k6, k7⟩, -⟩ := HXt.out W' hw
                 go_simp
                 first
                   | done
                   | rfl
               go_big_quiet_on
               try simp only [Act.put, List.setIfInBounds_toArray, List.set_cons_zero, List.set_cons_succ]))
          refine wpQuiet_nil ?_
          intro w2 hqw2
          have Hw2 : Hid (Below Wt.heap.size Wt w2) := hqw2
          have Hw20 : Hid (Below w.heap.size w w2) := HWt.out.trans (hqw2.mono HWt.out.size)
          clear hqw2
          go_wp2
          go_roundw
          case rel => exact ⟨rfl, k + 1, by omega, by simp, HO2'.out, Hw20⟩
          case measure => simp [intOf]; omega
        have e3 : ¬ y.t.sq = x.t.sq := fun e3 => hq ⟨e1, e2, e3⟩
        clear hq
        refine wp_region_quiet (C := fun w' => Below Wt.heap.size Wt w') (by kernel_rfl) (by kernel_rfl) ((Below.refl _ _).drew) ?_
        dsimp only
        repeat (first
          | go_big_quiet_skip
          | (go_big_quiet_want
             apply Exists.intro
             refine ⟨fun W' hW' => ?_, ?_⟩
             · have hw : Below Wt.heap.size Wt W' := hW'
               obtain ⟨⟨⟨g0, g1, g2, g3⟩, g4, g5, g6, g7⟩, ⟨⟨k0, k1, k2, k3⟩, k4, k5, k6, k7⟩, -⟩ := HXt.out W' hw
               go_simp
               first
                 | done
                 | rfl
             go_big_quiet_on
             try simp only [Act.put, List.setIfInBounds_toArray, List.set_cons_zero, List.set_cons_succ]))
        refine wpQuiet_nil ?_
        intro w2 hqw2
        have Hw2 : Hid (Below Wt.heap.size Wt w2) := hqw2
        have Hw20 : Hid (Below w.heap.size w w2) := HWt.out.trans (hqw2.mono HWt.out.size)
        clear hqw2
        go_wp2
        go_roundw
        case rel => exact ⟨rfl, k + 1, by omega, by simp, HO2'.out, Hw20⟩
        case measure => simp [intOf]; omega
      obtain ⟨e1, e2, e3⟩ := hq
      cases hsm : sameT y.t x.t
      · rw [hsm] at HSm'
        simp only [ltV, tyV, tyA, e1, e2, e3] at HSm'
        have HSm := HSm'
        clear HOk HSm' HSmm hsm eyo
        rw [hpo] at *
        clear hpo
        refine wp_region_quiet (C := fun w' => Below Wt.heap.size Wt w') (by kernel_rfl) (by kernel_rfl) ((Below.refl _ _).drew) ?_
        dsimp only
        repeat (first
          | go_big_quiet_skip
          | (go_big_quiet_want
             apply Exists.intro
             refine ⟨fun W' hW' => ?_, ?_⟩
             · have hw : Below Wt.heap.size Wt W' := hW'
               obtain ⟨⟨⟨g0, g1, g2, g3⟩, g4, g5, g6, g7⟩, ⟨⟨k0, k1, k2, k3⟩, k4, k5, k6, k7⟩, -⟩ := HXt.out W' hw
               go_simp
               first
                 | done
                 | rfl
                 | (go_at_call 33; (with_reducible refine Calls.mono (HSm.out W' hw) ?_); rintro e w'' ⟨rfl, hb⟩; exact ⟨rfl, hw.trans (hb.mono hw.size)⟩)
             go_big_quiet_on
             try simp only [Act.put, List.setIfInBounds_toArray, List.set_cons_zero, List.set_cons_succ]))
        refine wpQuiet_nil ?_
        intro w2 hqw2
        have Hw2 : Hid (Below Wt.heap.size Wt w2) := hqw2
        have Hw20 : Hid (Below w.heap.size w w2) := HWt.out.trans (hqw2.mono HWt.out.size)
        clear hqw2
        go_wp2_with fail
        refine (HAw.out _ Hw20.out).mono ?_
        rintro e wz ⟨rfl, hb⟩
        have HBz : Hid (Below w.heap.size w wz) := Hw20.out.trans (hb.mono Hw20.out.size)
        clear hb
        go_wp2
        go_ret
        exact ⟨rfl, HBz.out⟩
      · have hyx := HSmm.out hsm
        have HO2 := HOk.out (fun z hz _ => by
          rw [hpo] at hz
          obtain rfl := Option.some.inj hz
          rw [← eyo]
          exact hyx)
        have HO2' : Hid _ := HO2
        rw [hsm] at HSm'
        simp only [ltV, tyV, tyA, e1, e2, e3] at HSm'
        have HSm := HSm'
        clear HO2 HOk HSm' HSmm hsm eyo hyx
        rw [hpo] at *
        clear hpo
        refine wp_region_quiet (C := fun w' => Below Wt.heap.size Wt w') (by kernel_rfl) (by kernel_rfl) ((Below.refl _ _).drew) ?_
        dsimp only
        repeat (first
          | go_big_quiet_skip
          | (go_big_quiet_want
             apply Exists.intro
             refine ⟨fun W' hW' => ?_, ?_⟩
             · have hw : Below Wt.heap.size Wt W' := hW'
               obtain ⟨⟨⟨g0, g1, g2, g3⟩, g4, g5, g6, g7⟩, ⟨⟨k0, k1, k2, k3⟩, k4, k5, k6, k7⟩, -⟩ := HXt.out W' hw
               go_simp
               first
                 | done
                 | rfl
                 | (go_at_call 33; (with_reducible refine Calls.mono (HSm.out W' hw) ?_); rintro e w'' ⟨rfl, hb⟩; exact ⟨rfl, hw.trans (hb.mono hw.size)⟩)
             go_big_quiet_on
             try simp only [Act.put, List.setIfInBounds_toArray, List.set_cons_zero, List.set_cons_succ]))
        refine wpQuiet_nil ?_
        intro w2 hqw2
        have Hw2 : Hid (Below Wt.heap.size Wt w2) := hqw2
        have Hw20 : Hid (Below w.heap.size w w2) := HWt.out.trans (hqw2.mono HWt.out.size)
        clear hqw2
        go_wp2
        go_roundw
        case rel => exact ⟨rfl, k + 1, by omega, by simp, HO2'.out, Hw20⟩
        case measure => simp [intOf]; omega
    · have hk' : k = A.length := by omega
      have dk : decide ((k : Int) < (A.length : Int)) = false := by simp; omega
      have hcm := HPair.out fun j hj y hp hq => HO.out j hj y (by omega) hp hq
      have HJba2 : Hid (∀ W, Below w.heap.size w W → Calls Tryz.prog 23 #[.slice a1 B.length cap1, .slice a0 A.length cap0] W fun e w' => AdP (joR (tys A) (tys B)) W e w') := HJba.out hcm
      have HJd : Hid (joR (tys A) (tys B) = if isB (jnT (tys A) (tys B)) = true then (jnT (tys A) (tys B), 0) else ([], 9)) := rfl
      clear hcm HJba HO HPair HFi HSt HTa HTb
      generalize joR (tys A) (tys B) = R at *
      go_wp2_with fail
      refine (HJab.out _ HB.out).mono ?_
      rintro e w9 ⟨sa, sc, K, rfl, hk9, hT9, hb⟩
      have Hw9 : Hid (Below w.heap.size w w9) := HB.out.trans (hb.mono HB.out.size)
      have HT9 : Hid (∀ W, Below w9.heap.size w9 W → IsTys W (.slice sa K.length sc) K) := fun W h => hT9.below h
      have Hk9 : Hid (tys K = R.1) := hk9
      clear hb hT9 hk9 HJab
      go_wp2_with fail
      refine (HJba2.out _ Hw9.out).mono ?_
      rintro e w10 ⟨sa2, sc2, K2, rfl, hk10, hT10, hb⟩
      have Hw10 : Hid (Below w.heap.size w w10) := Hw9.out.trans (hb.mono Hw9.out.size)
      have HT9b : Hid (IsTys w10 (.slice sa K.length sc) K) := HT9.out w10 hb
      have HB910 : Hid (Below w9.heap.size w9 w10) := hb
      have hRs : SmL K ∧ SmL K2 ∧ K.length ≤ 52 ∧ K2.length ≤ 52 := by
        have hkk : tys K2 = tys K := hk10.trans Hk9.out.symm
        have hsK : SmL K ∧ K.length ≤ 52 := by
          by_cases hj : isB (jnT (tys A) (tys B)) = true
          · exact HKb.out K (by rw [Hk9.out, HJd.out, if_pos hj])
          · have e0 : tys K = [] := by rw [Hk9.out, HJd.out, if_neg hj]
            have : K = [] := by cases K with | nil => rfl | cons z r => simp [tys] at e0
            subst this
            exact ⟨fun z hz => (nomatch hz), by decide⟩
        have hl2 : K2.length = K.length := by have := congrArg List.length hkk; rw [tys_len, tys_len] at this; exact this
        refine ⟨hsK.1, fun z hz => ?_, hsK.2, by omega⟩
        have h1 : z.t ∈ tys K2 := List.mem_map.2 ⟨z, hz, rfl⟩
        rw [hkk] at h1
        obtain ⟨z', hz', e⟩ := List.mem_map.1 h1
        rw [← e]; exact hsK.1 z' hz'
      have HRs : Hid (SmL K ∧ SmL K2 ∧ K.length ≤ 52 ∧ K2.length ≤ 52) := hRs
      have Hk10 : Hid (tys K2 = tys K) := hk10.trans Hk9.out.symm
      have HR10 : Hid (Calls Tryz.prog 14 #[.slice sa K.length sc] w10 fun e w' => RvP K w10 e w') := HRf.out K _ w10 HT9b.out (by have := hRs.2.2.1; omega) hRs.1
      have HT10 : Hid (∀ W, Below w10.heap.size w10 W → IsTys W (.slice sa2 K2.length sc2) K2) := fun W h => hT10.below h
      have dE : ((R.2) == (R.2)) = true := by simp
      have dE' : ((R.2) != (R.2)) = false := by simp
      clear hb hT10 hk10 hRs HJba2 HT9b
      generalize hE : R.2 = E at *
      go_wp2_with fail
      refine HR10.out.mono ?_
      rintro e w11 ⟨ra, rc, M, rfl, hm11, hl11, hT11, hb⟩
      have Hw11 : Hid (Below w.heap.size w w11) := Hw10.out.trans (hb.mono Hw10.out.size)
      have HT11 : Hid (∀ W, Below w11.heap.size w11 W → IsTys W (.slice ra K.length rc) M) := fun W h => hT11.below h
      have Hm11 : Hid (tys M = tys K) := hm11
      have HR11 : Hid (Calls Tryz.prog 14 #[.slice sa2 K2.length sc2] w11 fun e w' => RvP K2 w11 e w') := HRf.out K2 _ w11 (HT10.out w11 hb) (by have := HRs.out.2.2.2; omega) HRs.out.2.1
      have HB911 : Hid (Below w9.heap.size w9 w11) := HB910.out.trans (hb.mono HB910.out.size)
      clear hb hT11 hm11 hl11 HR10
      go_wp2_with fail
      refine HR11.out.mono ?_
      rintro e w12 ⟨rb, rd, M2, rfl, hm12, hl12, hT12, hb⟩
      have Hw12 : Hid (Below w.heap.size w w12) := Hw11.out.trans (hb.mono Hw11.out.size)
      have HB912 : Hid (Below w9.heap.size w9 w12) := HB911.out.trans (hb.mono HB911.out.size)
      have HSA : Hid (Calls Tryz.prog 25 #[.slice ra K.length rc, .slice rb K2.length rd] w12 fun e w' => e = .returned (.bool true) ∧ Below w12.heap.size w12 w') := by
        have hMl : M.length ≤ 1000 := by have := congrArg List.length Hm11.out; rw [tys_len, tys_len] at this; have := HRs.out.2.2.1; omega
        have hMs : SmL M := fun z hz => by
          have h1 : z.t ∈ tys M := List.mem_map.2 ⟨z, hz, rfl⟩
          rw [Hm11.out] at h1
          obtain ⟨z', hz', e⟩ := List.mem_map.1 h1
          rw [← e]; exact HRs.out.1 z' hz'
        exact refSameAll_ok _ _ M M2 w12 (by rw [Hm11.out, hm12, Hk10.out]) (HT11.out w12 hb) hT12 (by omega) hMs
      clear hb hm12 hl12 hT12 HR11 HT11 Hm11 Hk10 HT10
      go_wp2_with fail
      refine HSA.out.mono ?_
      rintro e w13 ⟨rfl, hb⟩
      have Hw13 : Hid (Below w.heap.size w w13) := Hw12.out.trans (hb.mono Hw12.out.size)
      have HB913 : Hid (Below w9.heap.size w9 w13) := HB912.out.trans (hb.mono HB912.out.size)
      clear hb HSA
      by_cases hE0 : E = 0
      rotate_left
      · have d0 : (E == 0) = false := by simp [hE0]
        have d0' : (E != 0) = true := by simp [hE0]
        clear hE hE0 HJxb HRf HSm HKb HJd HT9 Hk9 HRs HB910 HB911 HB912 HB913
        go_wp2_with fail
        refine (HAw.out _ Hw13.out).mono ?_
        rintro e wz ⟨rfl, hb⟩
        have HBz : Hid (Below w.heap.size w wz) := Hw13.out.trans (hb.mono Hw13.out.size)
        clear hb
        go_wp2
        go_ret
        exact ⟨rfl, HBz.out⟩
      subst hE0
      have hj : isB (jnT (tys A) (tys B)) = true := by
        cases hj : isB (jnT (tys A) (tys B)) with
        | true => rfl
        | false =>
          have := HJd.out
          rw [hj, if_neg (by decide)] at this
          rw [this] at hE
          cases hE
      have hkK : tys K = jnT (tys A) (tys B) := by rw [Hk9.out, HJd.out, if_pos hj]
      have HJz : Hid (Calls Tryz.prog 23 #[.slice sa K.length sc, .slice a1 B.length cap1] w13 fun e w' => AdP (tys K, 0) w13 e w') := HJxb.out K _ w13 Hw13.out hkK hj (HT9.out w13 HB913.out)
      clear hE hj hkK HJxb HJd Hk9 HKb HB910 HB911 HB912
      go_wp2_with fail
      refine HJz.out.mono ?_
      rintro e w14 ⟨sa3, sc3, K3, rfl, hk14, hT14, hb⟩
      dsimp only at hk14
      have Hw14 : Hid (Below w.heap.size w w14) := Hw13.out.trans (hb.mono Hw13.out.size)
      have HB914 : Hid (Below w9.heap.size w9 w14) := HB913.out.trans (hb.mono HB913.out.size)
      have HT14 : Hid (∀ W, Below w14.heap.size w14 W → IsTys W (.slice sa3 K3.length sc3) K3) := fun W h => hT14.below h
      have hK3 : SmL K3 ∧ K3.length ≤ 1000 := by
        refine ⟨fun z hz => ?_, by have := congrArg List.length hk14; rw [tys_len, tys_len] at this; have := HRs.out.2.2.1; omega⟩
        have h1 : z.t ∈ tys K3 := List.mem_map.2 ⟨z, hz, rfl⟩
        rw [hk14] at h1
        obtain ⟨z', hz', e⟩ := List.mem_map.1 h1
        rw [← e]; exact HRs.out.1 z' hz'
      have HK3 : Hid (SmL K3 ∧ K3.length ≤ 1000) := hK3
      have Hk14 : Hid (tys K3 = tys K) := hk14
      clear hb hT14 hk14 hK3 HJz
      go_wp2_with fail
      refine (HAw.out _ Hw14.out).mono ?_
      rintro e w15 ⟨rfl, hb⟩
      have Hw15 : Hid (Below w.heap.size w w15) := Hw14.out.trans (hb.mono Hw14.out.size)
      have HB915 : Hid (Below w9.heap.size w9 w15) := HB914.out.trans (hb.mono HB914.out.size)
      have HR15 : Hid (Calls Tryz.prog 14 #[.slice sa3 K3.length sc3] w15 fun e w' => RvP K3 w15 e w') := HRf.out K3 _ w15 (HT14.out w15 hb) HK3.out.2 HK3.out.1
      clear hb HT14
      go_wp2_with fail
      refine HR15.out.mono ?_
      rintro e w16 ⟨ra, rc, M, rfl, hm16, hl16, hT16, hb⟩
      have Hw16 : Hid (Below w.heap.size w w16) := Hw15.out.trans (hb.mono Hw15.out.size)
      have HB916 : Hid (Below w9.heap.size w9 w16) := HB915.out.trans (hb.mono HB915.out.size)
      have HT16 : Hid (∀ W, Below w16.heap.size w16 W → IsTys W (.slice ra K3.length rc) M) := fun W h => hT16.below h
      have Hm16 : Hid (tys M = tys K3) := hm16
      have HR16 : Hid (Calls Tryz.prog 14 #[.slice sa K.length sc] w16 fun e w' => RvP K w16 e w') := HRf.out K _ w16 (HT9.out w16 HB916.out) (by have := HRs.out.2.2.1; omega) HRs.out.1
      clear hb hT16 hm16 hl16 HR15
      go_wp2_with fail
      refine HR16.out.mono ?_
      rintro e w17 ⟨rb, rd, M2, rfl, hm17, hl17, hT17, hb⟩
      have Hw17 : Hid (Below w.heap.size w w17) := Hw16.out.trans (hb.mono Hw16.out.size)
      have HSA2 : Hid (Calls Tryz.prog 25 #[.slice ra K3.length rc, .slice rb K.length rd] w17 fun e w' => e = .returned (.bool true) ∧ Below w17.heap.size w17 w') := by
        have hMl : M.length ≤ 1000 := by have := congrArg List.length Hm16.out; rw [tys_len, tys_len] at this; have := HK3.out.2; omega
        have hMs : SmL M := fun z hz => by
          have h1 : z.t ∈ tys M := List.mem_map.2 ⟨z, hz, rfl⟩
          rw [Hm16.out] at h1
          obtain ⟨z', hz', e⟩ := List.mem_map.1 h1
          rw [← e]; exact HK3.out.1 z' hz'
        exact refSameAll_ok _ _ M M2 w17 (by rw [Hm16.out, Hk14.out, hm17]) (HT16.out w17 hb) hT17 (by omega) hMs
      clear hb hm17 hl17 hT17 HR16 HT16 Hm16 Hk14
      go_wp2_with fail
      refine HSA2.out.mono ?_
      rintro e w18 ⟨rfl, hb⟩
      have HBz : Hid (Below w.heap.size w w18) := Hw17.out.trans (hb.mono Hw17.out.size)
      clear hb HSA2
      go_wp2
      go_ret
      exact ⟨rfl, HBz.out⟩
end Go.Proofs.YtkcnkjaeidbjbaaGreatDoor
