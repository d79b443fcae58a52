/- The pair's do: its walk. -/
import Derived.Test.YtiejehaaglpkoaaLnX
namespace Go.Proofs.Ytiejehaaglpkoaa
open Go.RowKit Go.ChangeMaps

abbrev dA (kd ad n : Int) (t : ByteArray) : Array Value := #[.int .i64 kd, .int .i64 ad, .int .i64 n, .string t]
abbrev dV (kd ad n : Int) (t : ByteArray) : Value := .agg (dA kd ad n t)
theorem pks_size {L : Lk} (h : ∀ u ∈ L.q, u.size ≤ 140737488355328) (o k : Nat) : ∀ p ∈ pks L o k, p.x.size ≤ 140737488355328 := by
  intro p hp
  obtain ⟨i, -, rfl⟩ := List.mem_map.1 hp
  show (L.q.getD (o + i) ⟨#[]⟩).size ≤ _
  rw [List.getD_eq_getElem?_getD]
  cases h2 : L.q[o + i]? with
  | none => exact Nat.zero_le _
  | some u => exact h u (List.mem_of_getElem? h2)
theorem sndO_size {L : Lk} (h : ∀ u ∈ L.q, u.size ≤ 140737488355328) {t : ByteArray} (ht : t.size ≤ 140737488355328) : (∀ p ∈ sndO L t, p.x.size ≤ 140737488355328) ∧ (sndO L t).length ≤ 1000 := by
  unfold sndO
  split
  · refine ⟨pks_size (fun u hu => ?_) _ _, by rw [pks_len]; unfold goK; omega⟩
    rcases List.mem_append.1 hu with hu | hu
    · exact h u hu
    · rw [List.mem_singleton.1 hu]; exact ht
  · exact ⟨fun p hp => by simp at hp, by simp⟩
/-- What a deed answers and leaves. -/
def doF (s : Pr) (R : Nat → List Pk) (kd ad n : Int) (t : ByteArray) : Bool × Pr × (Nat → List Pk) :=
  let i := atN ad 2
  let f : Int := 2 - (i : Int)
  let g : Int := 1 + (i : Int)
  if kd = 0 then (if t.size ≤ 300 then (true, (if sndE (s.L i) t = 0 then setS (setL s i (sndL (s.L i) t)) i (s.S i ++ [t]) else setL s i (sndL (s.L i) t)), outR R (sndO (s.L i) t)) else (true, s, R))
  else if kd = 1 then (true, s, outR R (pks (s.L i) 0 (s.L i).o))
  else if kd = 2 ∨ kd = 3 ∨ kd = 4 then
    (if (R (rix f g)).length = 0 then (true, s, R) else
      let k : Int := (atN n (R (rix f g)).length : Int)
      if kd = 3 then (true, s, twiceR R f g k) else if kd = 4 then (true, s, loseR R f g k) else
      if takeE R noA f g k = 0 then (lookE (s.L i) (takeP R noA f g k) == 0, cmS s i (takeP R noA f g k), outR (takeR R noA f g k) (tkO (s.L i) (takeP R noA f g k))) else (true, s, R))
  else (true, s, R)
def DoP (w0 : World) (P : Nat) (s : Pr) (ext : List (Tg w0.heap.size)) (R : Nat → List Pk) (kd ad n : Int) (t : ByteArray) (e : Ending) (w' : World) : Prop :=
  e = .returned (.bool (doF s R kd ad n t).1) ∧ ∃ a', PSn w0 P a' (doF s R kd ad n t).2.1 ext (doF s R kd ad n t).2.2 w'
theorem PSn.lenN {w0 w : World} {P : Nat} {a : Ad} {s : Pr} {ext : List (Tg w0.heap.size)} {R : Nat → List Pk} (h : PSn w0 P a s ext R w) (f t : Int) :
    Calls Try.prog 47 #[nP a.gn, hV f t] w fun e w' => e = .returned (.int .i64 (lenI R f t)) ∧ PSn w0 P a s ext R w' :=
  h.look (r := .int .i64 (lenI R f t)) fun V hv => len_any (A := noA) (V := V) f t hv
theorem PSn.twiceN {w0 w : World} {P : Nat} {a : Ad} {s : Pr} {ext : List (Tg w0.heap.size)} {R : Nat → List Pk} (h : PSn w0 P a s ext R w) (f t k : Int) (hc : cntN R 256 ≤ 400) :
    Calls Try.prog 48 #[nP a.gn, hV f t, .int .i64 k] w fun e w' => e = .returned (.int .i64 (twiceE R f t k)) ∧ PSn w0 P a s ext (twiceR R f t k) w' :=
  h.net (R' := twiceR R f t k) (r := .int .i64 (twiceE R f t k)) fun V hv => twice_any (A := noA) (V := V) f t k hv (by omega)
theorem PSn.loseN {w0 w : World} {P : Nat} {a : Ad} {s : Pr} {ext : List (Tg w0.heap.size)} {R : Nat → List Pk} (h : PSn w0 P a s ext R w) (f t k : Int) (hc : cntN R 256 ≤ 400) :
    Calls Try.prog 49 #[nP a.gn, hV f t, .int .i64 k] w fun e w' => e = .returned (.int .i64 (lookI R f t k)) ∧ PSn w0 P a s ext (loseR R f t k) w' :=
  h.net (R' := loseR R f t k) (r := .int .i64 (lookI R f t k)) fun V hv => lose_any (A := noA) (V := V) f t k hv (by omega)
/-- A pair, with the law's two boxes. -/
def PB (w0 : World) (P : Nat) (a : Ad) (s : Pr) (ext : List (Tg w0.heap.size)) (R : Nat → List Pk) (H D : Nat) (f g kd ad n : Int) (t : ByteArray) (w : World) : Prop := PSn w0 P a s (blkT _ H (.cells #[.int .i64 f, .int .i64 g] 97 (0, 0)) :: blkT _ D (.cells (dA kd ad n t) 69 (0, 0)) :: ext) R w
theorem PB.cells {w0 w : World} {P : Nat} {a : Ad} {s : Pr} {ext : List (Tg w0.heap.size)} {R : Nat → List Pk} {H D : Nat} {f g kd ad n : Int} {t : ByteArray} (h : PB w0 P a s ext R H D f g kd ad n t w) {i : Nat} (hi : i < 2) :
    (w.cell? ⟨P, 2, none⟩ = some (nP a.gn) ∧ w.cell? ⟨P, i, none⟩ = some (lP (a.gl i)) ∧ w.cell? ⟨P, 3 + i, none⟩ = some (a.vs i)) ∧ (w.cell? ⟨H, 0, none⟩ = some (.int .i64 f) ∧ w.cell? ⟨H, 1, none⟩ = some (.int .i64 g)) ∧ (w.cell? ⟨D, 0, none⟩ = some (.int .i64 kd) ∧ w.cell? ⟨D, 1, none⟩ = some (.int .i64 ad) ∧ w.cell? ⟨D, 2, none⟩ = some (.int .i64 n) ∧ w.cell? ⟨D, 3, none⟩ = some (.string t)) := by
  obtain ⟨-, p2, pc, -, -⟩ := PSn.cells h
  have hh := PSn.box (N := H) (o := .cells #[.int .i64 f, .int .i64 g] 97) h (by simp)
  have hd := PSn.box (N := D) (o := .cells (dA kd ad n t) 69) h (by simp)
  exact ⟨⟨p2, (pc i hi).1, (pc i hi).2.1⟩, ⟨by rw [Lib.cell_of_heap hh]; rfl, by rw [Lib.cell_of_heap hh]; rfl⟩, by rw [Lib.cell_of_heap hd]; rfl, by rw [Lib.cell_of_heap hd]; rfl, by rw [Lib.cell_of_heap hd]; rfl, by rw [Lib.cell_of_heap hd]; rfl⟩
theorem PB.fin {w0 w : World} {P : Nat} {a : Ad} {s : Pr} {ext : List (Tg w0.heap.size)} {R : Nat → List Pk} {H D : Nat} {f g kd ad n : Int} {t : ByteArray} (h : PB w0 P a s ext R H D f g kd ad n t w) : PSn w0 P a s ext R w := PSn.tl (PSn.tl h)
theorem PB.dr {w0 w : World} {P : Nat} {a : Ad} {s : Pr} {ext : List (Tg w0.heap.size)} {R : Nat → List Pk} {H D : Nat} {f g kd ad n : Int} {t : ByteArray} (h : PB w0 P a s ext R H D f g kd ad n t w) : PB w0 P a s ext R H D f g kd ad n t w.drew := PSn.below h (below_dr2 w)
theorem one_row (w : World) (t : ByteArray) (ty : TypeId) : IsRow (w.alloc (.cells #[.string t] ty)) 1 (.slice (some ⟨w.heap.size, 0, none⟩) 1 1) [t].length ([t].map .string) := by
  refine ⟨by simp, .inr ⟨w.heap.size, 0, 1, rfl, by simp, by simp, by unfold maxLen; omega, ?_⟩⟩
  intro j u hu
  have hb := heap_alloc_new w (.cells #[.string t] ty)
  match j, hu with
  | 0, hu =>
    have hu : u = .string t := by simpa using hu.symm
    subst hu
    rw [Lib.cell_of_heap hb]; rfl
set_option maxRecDepth 100000 in
set_option maxHeartbeats 4000000 in
theorem do_any {w0 w : World} {P : Nat} {a : Ad} {s : Pr} {ext : List (Tg w0.heap.size)} {R : Nat → List Pk} (kd ad n : Int) (t : ByteArray) (h : PSn w0 P a s ext R w) (hlen : ∀ i : Nat, i < 2 → (R (rix (2 - (i : Int)) (1 + (i : Int)))).length ≤ 400) (hc : cntN R 256 ≤ 400)
    (hqz : ∀ i : Nat, i < 2 → ∀ u ∈ (s.L i).q, u.size ≤ 140737488355328) (hSl : ∀ i : Nat, i < 2 → (s.S i).length ≤ 1000)
    (hel : ∀ i : Nat, i < 2 → (s.L i).e.length ≤ 900) (hGl : ∀ i : Nat, i < 2 → (s.G i).length ≤ 1000) (hX : ∀ i : Nat, i < 2 → ∀ k x, takeP R noA (2 - (i : Int)) (1 + (i : Int)) k = x → x.x.size ≤ 140737488355328 ∧ (∀ p ∈ tkO (s.L i) x, p.x.size ≤ 140737488355328) ∧ (tkO (s.L i) x).length ≤ 1000 ∧ (tkT (s.L i) x).length ≤ 1000) (hCr : ∀ i : Nat, i < 2 → ∀ k, cntN (takeR R noA (2 - (i : Int)) (1 + (i : Int)) k) 256 ≤ 400)
    (hok : ∀ i : Nat, i < 2 → LkOk (s.L i)) (hlI : ∀ i : Nat, i < 2 → lenI R (2 - (i : Int)) (1 + (i : Int)) = ((R (rix (2 - (i : Int)) (1 + (i : Int)))).length : Int)) :
    Calls Try.prog 27 #[.pointer (some ⟨P, 0, none⟩), dV kd ad n t] w fun e w' => DoP w0 P s ext R kd ad n t e w' := by
  have hi : atN ad 2 < 2 := atN_lt ad 2 (by decide)
  have HA1 : Hid (∀ w, Calls Try.prog 32 #[.int .i64 ad, .int .i64 2] w fun e w' => e = .returned (.int .i64 (atN ad 2 : Int)) ∧ w' = w) := fun w => at_any ad 2 (by decide) (by decide) w
  have HDo : Hid (∀ b s' R' w', doF s R kd ad n t = (b, s', R') → (∃ a', PSn w0 P a' s' ext R' w') → DoP w0 P s ext R kd ad n t (.returned (.bool b)) w') := fun b s' R' w' he hp => by unfold DoP; rw [he]; exact ⟨rfl, hp⟩
  have HP0 : Hid (PB w0 P a s ext R (w.heap.size + 1) w.heap.size (2 - (atN ad 2 : Int)) (1 + (atN ad 2 : Int)) kd ad n t ((w.alloc (.cells (dA kd ad n t) 69)).alloc (.cells #[.int .i64 (2 - (atN ad 2 : Int)), .int .i64 (1 + (atN ad 2 : Int))] 97))) := by
    have := (h.alloc (.cells (dA kd ad n t) 69)).alloc (.cells #[.int .i64 (2 - (atN ad 2 : Int)), .int .i64 (1 + (atN ad 2 : Int))] 97)
    rw [show (w.alloc (.cells (dA kd ad n t) 69)).heap.size = w.heap.size + 1 by simp] at this
    exact this
  have hli := hlI (atN ad 2) hi
  have hle := hlen (atN ad 2) hi
  have HOK : Hid (LkOk (s.L (atN ad 2))) := hok (atN ad 2) hi
  have HQZ : Hid (∀ u ∈ (s.L (atN ad 2)).q, u.size ≤ 140737488355328) := hqz (atN ad 2) hi
  have hSi := hSl (atN ad 2) hi
  have HCo : Hid (∀ k w', PSn w0 P a s ext R w' → Calls Try.prog 31 #[.pointer (some ⟨P, 0, none⟩), .int .i64 (atN ad 2 : Int), .int .i64 k] w' fun e w'' => CmP w0 P a s ext R (atN ad 2) k e w'') := fun k w' hp => come_any hp hi k (hok (atN ad 2) hi) (hel (atN ad 2) hi) hc (hGl (atN ad 2) hi) (fun x hx => hX (atN ad 2) hi k x hx) (hCr (atN ad 2) hi k)
  have HEq : Hid (doF s R kd ad n t = doF s R kd ad n t) := rfl
  clear h hlen hlI hok hqz hSl hel hGl hX hCr
  have HdF : Hid (∀ x, doF s R kd ad n t = x ↔ (let i := atN ad 2; doF s R kd ad n t = x)) := fun x => Iff.rfl
  have ww1 : IntKind.i64.wrap (2 - (atN ad 2 : Int)) = 2 - (atN ad 2 : Int) := wrapI (by omega) (by omega)
  have ww2 : IntKind.i64.wrap (1 + (atN ad 2 : Int)) = 1 + (atN ad 2 : Int) := wrapI (by omega) (by omega)
  have HLn : Hid (∀ w', PB w0 P a s ext R (w.heap.size + 1) w.heap.size (2 - (atN ad 2 : Int)) (1 + (atN ad 2 : Int)) kd ad n t w' → Calls Try.prog 47 #[nP a.gn, hV (2 - (atN ad 2 : Int)) (1 + (atN ad 2 : Int))] w' fun e w'' => e = .returned (.int .i64 ((R (rix (2 - (atN ad 2 : Int)) (1 + (atN ad 2 : Int)))).length : Int)) ∧ PB w0 P a s ext R (w.heap.size + 1) w.heap.size (2 - (atN ad 2 : Int)) (1 + (atN ad 2 : Int)) kd ad n t w'') := fun w' hp => by
    have := PSn.lenN hp (2 - (atN ad 2 : Int)) (1 + (atN ad 2 : Int))
    rw [hli] at this
    exact this
  have k0 : (w.alloc (.cells (dA kd ad n t) 69)).cell? ⟨w.heap.size, 1, none⟩ = some (.int .i64 ad) := by rw [Lib.cell_of_heap (heap_alloc_new w _)]; rfl
  clear hli HdF HEq
  generalize hLEN : (R (rix (2 - (atN ad 2 : Int)) (1 + (atN ad 2 : Int)))).length = len at *
  have HLEN : Hid ((R (rix (2 - (atN ad 2 : Int)) (1 + (atN ad 2 : Int)))).length = len) := hLEN
  clear hLEN
  dsimp only [dV, dA] at *
  go_enter Try.func27, Try.ntmps27
  go_wp2_with fail
  refine (HA1.out _).mono ?_
  rintro e w1 ⟨rfl, rfl⟩
  clear HA1 k0
  go_wp2_with fail
  generalize ((w.alloc (.cells #[.int .i64 kd, .int .i64 ad, .int .i64 n, .string t] 69)).alloc (.cells #[.int .i64 (2 - (atN ad 2 : Int)), .int .i64 (1 + (atN ad 2 : Int))] 97)) = W1 at *
  generalize w.heap.size = D at *
  obtain ⟨⟨p2, -, -⟩, ⟨h0, h1⟩, -⟩ := HP0.out.cells hi
  have hP1 : PB w0 P a s ext R (D + 1) D (2 - (atN ad 2 : Int)) (1 + (atN ad 2 : Int)) kd ad n t W1.drew := HP0.out.dr
  have HKp : Hid (∀ w', PB w0 P a s ext R (D + 1) D (2 - (atN ad 2 : Int)) (1 + (atN ad 2 : Int)) kd ad n t w' → w'.cell? ⟨P, 2, none⟩ = some (nP a.gn) ∧ w'.cell? ⟨D + 1, 0, none⟩ = some (.int .i64 (2 - (atN ad 2 : Int))) ∧ w'.cell? ⟨D + 1, 1, none⟩ = some (.int .i64 (1 + (atN ad 2 : Int)))) := fun w' hp => by
    obtain ⟨⟨p2, -, -⟩, ⟨h0, h1⟩, -⟩ := hp.cells hi
    exact ⟨p2, h0, h1⟩
  go_region_held3 (fun w' => w'.cell? ⟨P, 2, none⟩ = some (nP a.gn) ∧ w'.cell? ⟨D + 1, 0, none⟩ = some (.int .i64 (2 - (atN ad 2 : Int))) ∧ w'.cell? ⟨D + 1, 1, none⟩ = some (.int .i64 (1 + (atN ad 2 : Int))))
    (first | exact HKp.out _ (by with_reducible assumption) | go_keep)
    ((go_at_call 47; refine (HLn.out _ (by with_reducible assumption)).mono ?_; rintro e w5 ⟨rfl, T5⟩))
  rename_i hH9
  clear hH9 p2 h0 h1 hP1 HLn HP0
  have HP5 : Hid (PB w0 P a s ext R (D + 1) D (2 - (atN ad 2 : Int)) (1 + (atN ad 2 : Int)) kd ad n t w5) := T5
  obtain ⟨⟨p2, pl, ps⟩, ⟨h0, h1⟩, d0, d1, d2, d3⟩ := T5.cells hi
  clear T5
  have i1 : (0 : Int) ≤ (atN ad 2 : Int) := by omega
  have i2 : (atN ad 2 : Int) < 2 := by omega
  by_cases c0 : kd = 0
  · subst c0
    by_cases hz : t.size ≤ 300
    · have dz : decide ((t.size : Int) ≤ 300) = true := by simp; omega
      have htz : t.size ≤ 140737488355328 := by omega
      have HDa : Hid (∀ w' a', sndE (s.L (atN ad 2)) t = 0 → PSn w0 P a' (setS (setL s (atN ad 2) (sndL (s.L (atN ad 2)) t)) (atN ad 2) (s.S (atN ad 2) ++ [t])) ext (outR R (sndO (s.L (atN ad 2)) t)) w' → DoP w0 P s ext R 0 ad n t (.returned (.bool true)) w') := fun w' a' he hp => HDo.out true _ _ w' (by unfold doF; dsimp only; rw [if_pos rfl, if_pos hz, if_pos he]) ⟨a', hp⟩
      have HDb : Hid (∀ w' a', sndE (s.L (atN ad 2)) t ≠ 0 → PSn w0 P a' (setL s (atN ad 2) (sndL (s.L (atN ad 2)) t)) ext (outR R (sndO (s.L (atN ad 2)) t)) w' → DoP w0 P s ext R 0 ad n t (.returned (.bool true)) w') := fun w' a' he hp => HDo.out true _ _ w' (by unfold doF; dsimp only; rw [if_pos rfl, if_pos hz, if_neg he]) ⟨a', hp⟩
      have HSz := (Hid.out HQZ)
      have HOz : Hid ((∀ p ∈ sndO (s.L (atN ad 2)) t, p.x.size ≤ 140737488355328) ∧ (sndO (s.L (atN ad 2)) t).length ≤ 1000) := sndO_size HQZ.out htz
      obtain ⟨exN, hexN⟩ : ∃ exN, exN = (blkT w0.heap.size (D + 1) (.cells #[.int .i64 (2 - (atN ad 2 : Int)), .int .i64 (1 + (atN ad 2 : Int))] 97 (0, 0)) :: blkT w0.heap.size D (.cells (dA 0 ad n t) 69 (0, 0)) :: ext) := ⟨_, rfl⟩
      have HEx : Hid (∀ a' s' R' w', PSn w0 P a' s' exN R' w' → PSn w0 P a' s' ext R' w' ∧ w'.cell? ⟨D, 3, none⟩ = some (.string t)) := fun a' s' R' w' h => by
        rw [hexN] at h
        exact ⟨h.tl.tl, by rw [Lib.cell_of_heap (h.box (N := D) (o := .cells (dA 0 ad n t) 69) (by simp))]; rfl⟩
      have hPd : PSn w0 P a s exN R w5.drew := by rw [hexN]; exact HP5.out.dr
      clear hexN
      have HSn : Hid (∀ w', PSn w0 P a s exN R w' → Calls Try.prog 13 #[lP (a.gl (atN ad 2)), .string t] w' fun e w'' => ∃ r v', e = .returned (.tuple #[r, .int .i64 (sndE (s.L (atN ad 2)) t)]) ∧ PSn w0 P (adL a (atN ad 2) v') (setL s (atN ad 2) (sndL (s.L (atN ad 2)) t)) (pkT _ r (sndO (s.L (atN ad 2)) t) :: exN) R w'') := fun w' hp => hp.sendL hi HOK.out t htz
      clear HP5 HDo HCo HOK HQZ HSz HKp
      generalize sndL (s.L (atN ad 2)) t = L5 at *
      generalize sndO (s.L (atN ad 2)) t = O5 at *
      generalize sndE (s.L (atN ad 2)) t = E5 at *
      have HKs : Hid (∀ v' s' r w', PSn w0 P (adL a (atN ad 2) v') s' (pkT _ r O5 :: exN) R w' → w'.cell? ⟨P, (atN ad 2), none⟩ = some (lP (a.gl (atN ad 2))) ∧ w'.cell? ⟨D, 3, none⟩ = some (.string t)) := fun v' s' r w' hp => by
        obtain ⟨-, -, pc, -, -⟩ := hp.cells
        exact ⟨(pc _ hi).1, (HEx.out _ _ _ _ hp.tl).2⟩
      go_wp2_with fail
      go_region_held3 (fun w' => w'.cell? ⟨P, (atN ad 2), none⟩ = some (lP (a.gl (atN ad 2))) ∧ w'.cell? ⟨D, 3, none⟩ = some (.string t))
        (first | exact HKs.out _ _ _ _ (by with_reducible assumption) | go_keep)
        ((go_at_call 13; refine (HSn.out _ (by with_reducible assumption)).mono ?_; rintro e w6 ⟨r, v', rfl, T6⟩))
      rename_i hH9
      clear hH9 HSn HKs hPd p2 pl ps h0 h1 d0 d1 d2 d3
      have HT6 : Hid (PSn w0 P (adL a (atN ad 2) v') (setL s (atN ad 2) L5) (pkT _ r O5 :: exN) R w6) := T6
      clear T6
      by_cases hE : E5 = 0
      · subst hE
        obtain ⟨hpb, -, pc, pz, -⟩ := HT6.out.cells
        obtain ⟨-, ps, -⟩ := pc (atN ad 2) hi
        have ps : w6.cell? ⟨P, 3 + (atN ad 2), none⟩ = some (a.vs (atN ad 2)) := ps
        have d3 := (HEx.out _ _ _ _ HT6.out.tl).2
        have HTa : Hid (PSn w0 P (adL a (atN ad 2) v') (setL s (atN ad 2) L5) (blkT _ w6.heap.size (.cells #[.string t] 9 (0, 0)) :: pkT _ r O5 :: exN) R (w6.alloc (.cells #[.string t] 9)).drew) := (HT6.out.alloc (.cells #[.string t] 9)).below (below_dr2 _)
        have pa : (w6.alloc (.cells #[.string t] 9)).cell? ⟨P, 3 + (atN ad 2), none⟩ = some (a.vs (atN ad 2)) := by
          have h9 := HTa.out.cells
          rw [← drew_cell]
          exact (h9.2.2.1 (atN ad 2) hi).2.1
        have HSR : Hid ((w6.alloc (.cells #[.string t] 9)).drew.ownsRow w0.heap.size 9 1 (a.vs (atN ad 2)) (s.S (atN ad 2)).length ((s.S (atN ad 2)).map .string)) := (HTa.out.rows hi).1
        have HTR : Hid (IsRow (w6.alloc (.cells #[.string t] 9)).drew 1 (.slice (some ⟨w6.heap.size, 0, none⟩) 1 1) [t].length ([t].map .string)) := (one_row w6 t 9).below (below_dr2 _)
        have hz5 : w0.heap.size ≤ (w6.alloc (.cells #[.string t] 9)).drew.heap.size := HTa.out.to.size
        have HKP : Hid (∀ w7, (w6.alloc (.cells #[.string t] 9)).drew.grownBy w7 (a.vs (atN ad 2)).ownBlock → w7.heap[P]? = some (.cells (pairC (adL a (atN ad 2) v')) 66 (0, 0))) := fun w7 hg => HTa.out.keepP (HTa.out.far hi).2 hg
        have hln : (s.S (atN ad 2)).length + [t].length ≤ 1000000 := by simp; omega
        clear hpb pc
        go_wp2_with fail
        go_region_law (refine step_strs (w6.alloc (.cells #[.string t] 9)).drew rfl (.tmp 54) (.tmp 57) rfl w0.heap.size (a.vs (atN ad 2)) (.slice (some ⟨w6.heap.size, 0, none⟩) 1 1) (s.S (atN ad 2)) [t] rfl rfl HSR.out HTR.out hln hz5 ?_; intro v8 w8 hown8 hgrow8 hat8; have hk8 := pair_cells2 (HKP.out w8 hgrow8) hi; obtain ⟨c8, -, z8⟩ := hk8; obtain ⟨va8, vcap8, rfl⟩ := (IsRow.own hown8).form)
        all_goals
          have HX9 : Hid (PSn w0 P (adS (adL a (atN ad 2) v') (atN ad 2) (.slice va8 (s.S (atN ad 2) ++ [t]).length vcap8)) (setS (setL s (atN ad 2) L5) (atN ad 2) (s.S (atN ad 2) ++ [t])) (pkT _ r O5 :: exN) R (w8.setCell ⟨P, 3 + (atN ad 2), none⟩ (.slice va8 (s.S (atN ad 2) ++ [t]).length vcap8))) := (HTa.out.sent hi hown8 hgrow8 hat8).tl
          clear hown8 hgrow8 hat8 c8 z8 HT6 HTa HSR HTR HKP ps pz pa
          rw [List.length_append, List.length_singleton] at HX9
          generalize w8.setCell ⟨P, 3 + (atN ad 2), none⟩ (.slice va8 ((s.S (atN ad 2)).length + 1) vcap8) = Z at *
          have HOu : Hid (Calls Try.prog 29 #[.pointer (some ⟨P, 0, none⟩), r] Z fun e w' => e = .returned (.tuple #[]) ∧ PSn w0 P (adS (adL a (atN ad 2) v') (atN ad 2) (.slice va8 ((s.S (atN ad 2)).length + 1) vcap8)) (setS (setL s (atN ad 2) L5) (atN ad 2) (s.S (atN ad 2) ++ [t])) (pkT _ r O5 :: exN) (outR R O5) w') := out_any HX9.out hc HOz.out.1 HOz.out.2
          have HFn : Hid (∀ a' w', PSn w0 P a' (setS (setL s (atN ad 2) L5) (atN ad 2) (s.S (atN ad 2) ++ [t])) (pkT _ r O5 :: exN) (outR R O5) w' → DoP w0 P s ext R 0 ad n t (.returned (.bool true)) w') := fun a' w' hp => HDa.out w' a' (by simp) (HEx.out _ _ _ _ hp.tl).1
          clear HX9 HDa HDb HEx HOz d3
          go_wp2_with fail
          refine HOu.out.mono ?_
          rintro e w9 ⟨rfl, T9⟩
          have HF9 : Hid (DoP w0 P s ext R 0 ad n t (.returned (.bool true)) w9) := HFn.out _ w9 T9
          clear T9 HOu HFn
          go_wp2
          go_ret
          exact HF9.out
      · have n0 : (E5 == 0) = false := by simpa using hE
        have HOu : Hid (Calls Try.prog 29 #[.pointer (some ⟨P, 0, none⟩), r] w6 fun e w' => e = .returned (.tuple #[]) ∧ PSn w0 P (adL a (atN ad 2) v') (setL s (atN ad 2) L5) (pkT _ r O5 :: exN) (outR R O5) w') := out_any HT6.out hc HOz.out.1 HOz.out.2
        have HFn : Hid (∀ w', PSn w0 P (adL a (atN ad 2) v') (setL s (atN ad 2) L5) (pkT _ r O5 :: exN) (outR R O5) w' → DoP w0 P s ext R 0 ad n t (.returned (.bool true)) w') := fun w' hp => HDb.out w' _ hE (HEx.out _ _ _ _ hp.tl).1
        clear HT6 HDa HDb HEx HOz
        go_wp2_with fail
        refine HOu.out.mono ?_
        rintro e w9 ⟨rfl, T9⟩
        have HF9 : Hid (DoP w0 P s ext R 0 ad n t (.returned (.bool true)) w9) := HFn.out w9 T9
        clear T9 HOu HFn
        go_wp2
        go_ret
        exact HF9.out
    · have dz : decide ((t.size : Int) ≤ 300) = false := by simp; omega
      have HF : Hid (DoP w0 P s ext R 0 ad n t (.returned (.bool true)) w5) := HDo.out true s R w5 (by unfold doF; rw [if_pos rfl, if_neg hz]) ⟨a, HP5.out.fin⟩
      clear HP5 HDo
      go_wp2
      go_ret
      exact HF.out
  have n0 : (kd == 0) = false := by simpa using c0
  by_cases c1 : kd = 1
  · subst c1
    have HF : Hid (∀ w' a', PSn w0 P a' s ext (outR R (pks (s.L (atN ad 2)) 0 (s.L (atN ad 2)).o)) w' → DoP w0 P s ext R 1 ad n t (.returned (.bool true)) w') := fun w' a' hp => HDo.out true s _ w' (by unfold doF; rw [if_neg (by decide), if_pos rfl]) ⟨a', hp⟩
    have HTi : Hid (Calls Try.prog 20 #[lP (a.gl (atN ad 2))] w5 fun e w' => ∃ r, e = .returned r ∧ PSn w0 P a s (pkT _ r (pks (s.L (atN ad 2)) 0 (s.L (atN ad 2)).o) :: ext) R w') := PSn.tickL HP5.out.fin hi HOK.out
    have HOu : Hid (∀ r w', PSn w0 P a s (pkT _ r (pks (s.L (atN ad 2)) 0 (s.L (atN ad 2)).o) :: ext) R w' → Calls Try.prog 29 #[.pointer (some ⟨P, 0, none⟩), r] w' fun e w'' => e = .returned (.tuple #[]) ∧ PSn w0 P a s (pkT _ r (pks (s.L (atN ad 2)) 0 (s.L (atN ad 2)).o) :: ext) (outR R (pks (s.L (atN ad 2)) 0 (s.L (atN ad 2)).o)) w'') := fun r w' hp => out_any hp hc (pks_size HQZ.out _ _) (by rw [pks_len]; have := HOK.out.o8; omega)
    clear HP5 HDo HOK HQZ
    generalize pks (s.L (atN ad 2)) 0 (s.L (atN ad 2)).o = OO at *
    go_wp2_with fail
    refine HTi.out.mono ?_
    rintro e w6 ⟨r, rfl, T6⟩
    have HT6 : Hid (PSn w0 P a s (pkT _ r OO :: ext) R w6) := T6
    clear T6 HTi
    go_wp2_with fail
    refine (HOu.out _ _ HT6.out).mono ?_
    rintro e w7 ⟨rfl, T7⟩
    have HF7 : Hid (DoP w0 P s ext R 1 ad n t (.returned (.bool true)) w7) := HF.out w7 a T7.tl
    clear T7 HT6 HOu HF
    go_wp2
    go_ret
    exact HF7.out
  have n1 : (kd == 1) = false := by simpa using c1
  by_cases c234 : kd = 2 ∨ kd = 3 ∨ kd = 4
  · by_cases hl0 : len = 0
    · subst hl0
      have HF : Hid (DoP w0 P s ext R kd ad n t (.returned (.bool true)) w5) := HDo.out true s R w5 (by unfold doF; dsimp only; rw [if_neg c0, if_neg c1, if_pos c234, if_pos HLEN.out]) ⟨a, HP5.out.fin⟩
      clear HP5 HDo
      rcases c234 with c | c | c
      all_goals
        subst c
        go_wp2
        go_ret
        exact HF.out
    · have nl : ((len : Int) == 0) = false := by rw [beq_eq_false_iff_ne]; omega
      have nl2 : (len == 0) = false := by simpa using hl0
      have HA2 : Hid (∀ w, Calls Try.prog 32 #[.int .i64 n, .int .i64 (len : Int)] w fun e w' => e = .returned (.int .i64 (atN n len : Int)) ∧ w' = w) := fun w => at_any n len (by omega) (by omega) w
      have HK2 : Hid (∀ R' w', PB w0 P a s ext R' (D + 1) D (2 - (atN ad 2 : Int)) (1 + (atN ad 2 : Int)) kd ad n t w' → w'.cell? ⟨P, 2, none⟩ = some (nP a.gn) ∧ w'.cell? ⟨D + 1, 0, none⟩ = some (.int .i64 (2 - (atN ad 2 : Int))) ∧ w'.cell? ⟨D + 1, 1, none⟩ = some (.int .i64 (1 + (atN ad 2 : Int)))) := fun R' w' hp => by
        obtain ⟨⟨p2, -, -⟩, ⟨h0, h1⟩, -⟩ := hp.cells hi
        exact ⟨p2, h0, h1⟩
      by_cases c3 : kd = 3
      · subst c3
        have HTw : Hid (Calls Try.prog 48 #[nP a.gn, hV (2 - (atN ad 2 : Int)) (1 + (atN ad 2 : Int)), .int .i64 (atN n len : Int)] w5.drew fun e w'' => ∃ q, e = .returned q ∧ PB w0 P a s ext (twiceR R (2 - (atN ad 2 : Int)) (1 + (atN ad 2 : Int)) (atN n len : Int)) (D + 1) D (2 - (atN ad 2 : Int)) (1 + (atN ad 2 : Int)) 3 ad n t w'') := (PSn.twiceN HP5.out.dr _ _ _ hc).mono fun e w' hp => ⟨_, hp.1, hp.2⟩
        have HF : Hid (∀ w', PB w0 P a s ext (twiceR R (2 - (atN ad 2 : Int)) (1 + (atN ad 2 : Int)) (atN n len : Int)) (D + 1) D (2 - (atN ad 2 : Int)) (1 + (atN ad 2 : Int)) 3 ad n t w' → DoP w0 P s ext R 3 ad n t (.returned (.bool true)) w') := fun w' hp => HDo.out true s _ w' (by unfold doF; dsimp only; rw [if_neg c0, if_neg c1, if_pos c234, if_neg (by rw [HLEN.out]; exact hl0), if_pos rfl, HLEN.out]) ⟨a, hp.fin⟩
        clear HP5 HDo HCo HOK HQZ
        generalize twiceR R (2 - (atN ad 2 : Int)) (1 + (atN ad 2 : Int)) (atN n len : Int) = R' at *
        go_wp2_with fail
        refine (HA2.out _).mono ?_
        rintro e w6 ⟨rfl, rfl⟩
        go_wp2_with fail
        go_region_held3 (fun w' => w'.cell? ⟨P, 2, none⟩ = some (nP a.gn) ∧ w'.cell? ⟨D + 1, 0, none⟩ = some (.int .i64 (2 - (atN ad 2 : Int))) ∧ w'.cell? ⟨D + 1, 1, none⟩ = some (.int .i64 (1 + (atN ad 2 : Int))))
          (first | exact HK2.out _ _ (by with_reducible assumption) | go_keep)
          ((go_at_call 48; refine HTw.out.mono ?_; rintro e w6 ⟨q6, rfl, T6⟩))
        rename_i hH8
        have HF6 : Hid (DoP w0 P s ext R 3 ad n t (.returned (.bool true)) w6) := HF.out w6 T6
        clear hH8 T6 HF HTw HK2
        go_wp2
        go_ret
        exact HF6.out
      have n3 : (kd == 3) = false := by simpa using c3
      by_cases c4 : kd = 4
      · subst c4
        have HTw : Hid (Calls Try.prog 49 #[nP a.gn, hV (2 - (atN ad 2 : Int)) (1 + (atN ad 2 : Int)), .int .i64 (atN n len : Int)] w5.drew fun e w'' => ∃ q, e = .returned q ∧ PB w0 P a s ext (loseR R (2 - (atN ad 2 : Int)) (1 + (atN ad 2 : Int)) (atN n len : Int)) (D + 1) D (2 - (atN ad 2 : Int)) (1 + (atN ad 2 : Int)) 4 ad n t w'') := (PSn.loseN HP5.out.dr _ _ _ hc).mono fun e w' hp => ⟨_, hp.1, hp.2⟩
        have HF : Hid (∀ w', PB w0 P a s ext (loseR R (2 - (atN ad 2 : Int)) (1 + (atN ad 2 : Int)) (atN n len : Int)) (D + 1) D (2 - (atN ad 2 : Int)) (1 + (atN ad 2 : Int)) 4 ad n t w' → DoP w0 P s ext R 4 ad n t (.returned (.bool true)) w') := fun w' hp => HDo.out true s _ w' (by unfold doF; dsimp only; rw [if_neg c0, if_neg c1, if_pos c234, if_neg (by rw [HLEN.out]; exact hl0), if_neg c3, if_pos rfl, HLEN.out]) ⟨a, hp.fin⟩
        clear HP5 HDo HCo HOK HQZ
        generalize loseR R (2 - (atN ad 2 : Int)) (1 + (atN ad 2 : Int)) (atN n len : Int) = R' at *
        go_wp2_with fail
        refine (HA2.out _).mono ?_
        rintro e w6 ⟨rfl, rfl⟩
        go_wp2_with fail
        go_region_held3 (fun w' => w'.cell? ⟨P, 2, none⟩ = some (nP a.gn) ∧ w'.cell? ⟨D + 1, 0, none⟩ = some (.int .i64 (2 - (atN ad 2 : Int))) ∧ w'.cell? ⟨D + 1, 1, none⟩ = some (.int .i64 (1 + (atN ad 2 : Int))))
          (first | exact HK2.out _ _ (by with_reducible assumption) | go_keep)
          ((go_at_call 49; refine HTw.out.mono ?_; rintro e w6 ⟨q6, rfl, T6⟩))
        rename_i hH8
        have HF6 : Hid (DoP w0 P s ext R 4 ad n t (.returned (.bool true)) w6) := HF.out w6 T6
        clear hH8 T6 HF HTw HK2
        go_wp2
        go_ret
        exact HF6.out
      have n4 : (kd == 4) = false := by simpa using c4
      have c2 : kd = 2 := c234.resolve_right fun c => c.elim c3 c4
      subst c2
      have HC2 : Hid (Calls Try.prog 31 #[.pointer (some ⟨P, 0, none⟩), .int .i64 (atN ad 2 : Int), .int .i64 (atN n len : Int)] w5 fun e w'' => ∃ b, e = .returned (.bool b) ∧ DoP w0 P s ext R 2 ad n t (.returned (.bool b)) w'') := (HCo.out _ _ HP5.out.fin).mono fun e w' hp => by
        unfold CmP at hp
        split at hp
        · rename_i hE
          exact ⟨_, hp.1, HDo.out _ _ _ w' (by unfold doF; dsimp only; rw [if_neg c0, if_neg c1, if_pos c234, if_neg (by rw [HLEN.out]; exact hl0), if_neg c3, if_neg c4, HLEN.out, if_pos hE]) hp.2⟩
        · rename_i hE
          exact ⟨_, hp.1, HDo.out _ _ _ w' (by unfold doF; dsimp only; rw [if_neg c0, if_neg c1, if_pos c234, if_neg (by rw [HLEN.out]; exact hl0), if_neg c3, if_neg c4, HLEN.out, if_neg hE]) ⟨a, hp.2⟩⟩
      clear HP5 HDo HCo HOK HQZ HK2
      go_wp2_with fail
      refine (HA2.out _).mono ?_
      rintro e w6 ⟨rfl, rfl⟩
      go_wp2_with fail
      refine HC2.out.mono ?_
      rintro e w7 ⟨b7, rfl, T7⟩
      have HF7 : Hid (DoP w0 P s ext R 2 ad n t (.returned (.bool b7)) w7) := T7
      clear T7 HC2
      go_wp2
      go_ret
      exact HF7.out
  · have n2 : (kd == 2) = false := by have : kd ≠ 2 := fun e => c234 (.inl e); simpa using this
    have n3 : (kd == 3) = false := by have : kd ≠ 3 := fun e => c234 (.inr (.inl e)); simpa using this
    have n4 : (kd == 4) = false := by have : kd ≠ 4 := fun e => c234 (.inr (.inr e)); simpa using this
    have HF : Hid (DoP w0 P s ext R kd ad n t (.returned (.bool true)) w5) := HDo.out true s R w5 (by unfold doF; rw [if_neg c0, if_neg c1, if_neg c234]) ⟨a, HP5.out.fin⟩
    clear HP5 HDo
    go_wp2
    go_ret
    exact HF.out
end Go.Proofs.Ytiejehaaglpkoaa
