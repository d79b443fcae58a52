/- How much is still under way: it falls with each packet that comes. Plainly. -/
import Derived.Test.YtiejehaaglpkoaaLqA
namespace Go.Proofs.Ytiejehaaglpkoaa
open Go.RowKit Go.ChangeMaps

/-- Where packets to end i lie. -/
abbrev hp (i : Nat) : Nat := rix (2 - (i : Int)) (1 + (i : Int))
theorem hp_ne {i j : Nat} (hi : i < 2) (hj : j < 2) (h : i ≠ j) : hp i ≠ hp j := by
  match i, hi, j, hj with
  | 0, _, 0, _ => omega
  | 0, _, 1, _ => decide
  | 1, _, 0, _ => decide
  | 1, _, 1, _ => omega
theorem hp_lt {i : Nat} (hi : i < 2) : hp i < 256 := rix_lt (hop_i hi)
def wt : List Pk → Nat
  | [] => 0
  | p :: l => (if p.sq = 0 then 1 else 2) + wt l
theorem wt_app : ∀ a b : List Pk, wt (a ++ b) = wt a + wt b
  | [], b => by simp [wt]
  | p :: a, b => by rw [List.cons_append, wt, wt, wt_app a b]; omega
theorem wt_len : ∀ l : List Pk, l.length ≤ wt l ∧ wt l ≤ 2 * l.length
  | [] => by simp [wt]
  | p :: l => by
    have := wt_len l
    rw [wt, List.length_cons]
    split <;> omega
def un (L : Lk) : Nat := L.q.length - L.o
def Ph (s : Pr) (R : Nat → List Pk) : Nat := wt (R (hp 0)) + wt (R (hp 1)) + 2 * un (s.L 0) + 2 * un (s.L 1)
theorem Ph_at (s : Pr) (R : Nat → List Pk) {i : Nat} (hi : i < 2) : Ph s R = wt (R (hp i)) + wt (R (hp (1 - i))) + 2 * un (s.L i) + 2 * un (s.L (1 - i)) := by
  match i, hi with
  | 0, _ => rfl
  | 1, _ => unfold Ph; show _ = wt (R (hp 1)) + wt (R (hp 0)) + 2 * un (s.L 1) + 2 * un (s.L 0); omega
/-- Packets of one hop go under way: at most they. -/
theorem out_hop {c : Nat} : ∀ (O : List Pk) (R : Nat → List Pk), (∀ p ∈ O, rix p.f p.t = c) → (∀ d, d ≠ c → outR R O d = R d) ∧ wt (outR R O c) ≤ wt (R c) + wt O
  | [], R, _ => ⟨fun _ _ => rfl, by simp [outR, wt]⟩
  | p :: O, R, h => by
    have hpc := h p List.mem_cons_self
    obtain ⟨a, b⟩ := out_hop O (sendR R p) fun q hq => h q (List.mem_cons_of_mem _ hq)
    have e : outR R (p :: O) = outR (sendR R p) O := rfl
    have s1 : ∀ d, d ≠ c → sendR R p d = R d := fun d hd => by
      unfold sendR
      split
      · rw [hpc, up_other _ _ hd]
      · rfl
    have s2 : wt (sendR R p c) ≤ wt (R c) + (if p.sq = 0 then 1 else 2) := by
      unfold sendR
      split
      · rw [hpc, up_same, wt_app]; simp [wt]
      · split <;> omega
    refine ⟨fun d hd => by rw [e, a d hd, s1 d hd], ?_⟩
    rw [e, wt]
    omega
theorem out_exact {c : Nat} (hc : c < 256) (O : List Pk) (R : Nat → List Pk) (h : ∀ p ∈ O, chkP p = true ∧ rix p.f p.t = c) (hn : cntN R 256 + O.length ≤ 400) : outR R O c = R c ++ O := by
  induction O generalizing R with
  | nil => exact (List.append_nil _).symm
  | cons p O ih =>
    obtain ⟨h1, h2⟩ := h p List.mem_cons_self
    rw [List.length_cons] at hn
    have e : sendR R p = up R c (R c ++ [p]) := by
      unfold sendR
      rw [if_pos ⟨h1, by omega⟩, h2]
    have hu := cntN_up R c (R c ++ [p]) 256 hc
    rw [List.length_append, List.length_singleton] at hu
    have := ih (sendR R p) (fun q hq => h q (List.mem_cons_of_mem _ hq)) (by rw [e]; omega)
    show outR (sendR R p) O c = _
    rw [this, e, up_same, List.append_assoc]
    rfl
theorem good_hop {R : Nat → List Pk} (h : GoodR R) {c : Nat} (h0 : c ≠ hp 0) (h1 : c ≠ hp 1) : R c = [] := by
  cases hR : R c with
  | nil => rfl
  | cons p l =>
    obtain ⟨⟨-, g, -⟩, e⟩ := h.1 c p (by rw [hR]; exact List.mem_cons_self)
    rcases g with ⟨e1, e2⟩ | ⟨e1, e2⟩
    · rw [e1, e2] at e; exact absurd e.symm h1
    · rw [e1, e2] at e; exact absurd e.symm h0
theorem cnt_two {R : Nat → List Pk} (h : GoodR R) : cntN R 256 = (R (hp 0)).length + (R (hp 1)).length := by
  have e : R = up (up noR (hp 0) (R (hp 0))) (hp 1) (R (hp 1)) := funext fun c => by
    by_cases h1 : c = hp 1
    · subst h1; rw [up_same]
    · rw [up_other _ _ h1]
      by_cases h0 : c = hp 0
      · subst h0; rw [up_same]
      · rw [up_other _ _ h0, good_hop h h0 h1]; rfl
  have u1 := cntN_up (up noR (hp 0) (R (hp 0))) (hp 1) (R (hp 1)) 256 (by decide)
  have u2 := cntN_up noR (hp 0) (R (hp 0)) 256 (by decide)
  rw [cnt_noR] at u2
  rw [up_other _ _ (hp_ne (by omega) (by omega) (by omega))] at u1
  rw [← e] at u1
  have z : ∀ c, (noR c).length = 0 := fun _ => rfl
  rw [z] at u1 u2
  omega
theorem wt_pks {L : Lk} (ok : LkOk L) (o : Nat) : ∀ k, wt (pks L o k) = 2 * k
  | 0 => rfl
  | k + 1 => by
    have b0 := ok.b0
    rw [pks_succ, wt_app, wt_pks ok o k, wt, wt, if_neg (by show L.b + ((o + k : Nat) : Int) ≠ 0; omega)]
    omega
theorem tk_wt {L : Lk} {p : Pk} (ok : LkOk L) (ho : L.o = min 8 L.q.length) (hl : lookE L p = 0) : wt (tkO L p) + 2 * un (tkL L p) + 1 ≤ 2 * un L + (if p.sq = 0 then 1 else 2) := by
  obtain ⟨a1, a2, -, -, a5, -⟩ := ack_facts ok p.ak ho
  have a2 : (tkA L p).o ≤ min 8 (tkA L p).q.length := a2
  have a5 : (tkA L p).q.length + (L.o - (tkA L p).o) = L.q.length := a5
  have okA : LkOk (tkA L p) := ok.ack p.ak
  have oA : (tkA L p).o ≤ L.o := by
    show (ackL L p.ak).o ≤ L.o
    unfold ackL
    split
    · show L.o - _ ≤ L.o; omega
    · exact Nat.le_refl _
  have kA : goK (tkA L p) = min 8 (tkA L p).q.length - (tkA L p).o := rfl
  by_cases hq : p.sq = 0
  · have eL : tkL L p = goL (tkA L p) := by unfold tkL; rw [if_pos hl, if_pos hq]
    have eO : tkO L p = pks (tkA L p) (tkA L p).o (goK (tkA L p)) := by unfold tkO; rw [if_pos hl, if_pos hq]
    rw [eL, eO, wt_pks okA, if_pos hq]
    have : un (goL (tkA L p)) = (tkA L p).q.length - ((tkA L p).o + goK (tkA L p)) := rfl
    have : un L = L.q.length - L.o := rfl
    omega
  · have eL : tkL L p = goL (tkB L p) := by unfold tkL; rw [if_pos hl, if_neg hq]
    have eO : tkO L p = if goK (tkB L p) = 0 then [pkL (tkB L p) 0 ⟨#[]⟩] else pks (tkB L p) (tkB L p).o (goK (tkB L p)) := by unfold tkO; rw [if_pos hl, if_neg hq]
    obtain ⟨-, c2, -⟩ := hnd_keep (tkR L p).e.length (tkR L p)
    obtain ⟨-, d2, -⟩ := arr_keep (tkA L p) p.sq p.x
    have hBo : (tkB L p).o = (tkA L p).o := (hnd_o _ _).trans (arr_o _ _ _)
    have hBq : (tkB L p).q = (tkA L p).q := c2.trans d2
    have okB : LkOk (tkB L p) := LkOk.hnd _ (okA.arr _ _)
    have hBl : (tkB L p).q.length = (tkA L p).q.length := by rw [hBq]
    have kB : goK (tkB L p) = min 8 (tkB L p).q.length - (tkB L p).o := rfl
    rw [eL, eO, if_neg hq]
    have e1 : un (goL (tkB L p)) = (tkB L p).q.length - ((tkB L p).o + goK (tkB L p)) := rfl
    have e2 : un L = L.q.length - L.o := rfl
    split
    · have : wt [pkL (tkB L p) 0 ⟨#[]⟩] = 1 := rfl
      omega
    · rw [wt_pks okB]
      omega
theorem atN_i {i : Nat} (hi : i < 2) : atN (i : Int) 2 = i := by
  match i, hi with
  | 0, _ => decide
  | 1, _ => decide
theorem atN_0 (n : Nat) : atN 0 n = 0 := by
  unfold atN
  simp
theorem come_nil {s : Pr} {R : Nat → List Pk} {i : Nat} (hi : i < 2) (t : ByteArray) (h : R (hp i) = []) : doF s R 2 (i : Int) 0 t = (true, s, R) := by
  unfold doF
  dsimp only
  rw [atN_i hi, if_neg (by decide), if_neg (by decide), if_pos (.inl rfl), if_pos (by rw [h]; rfl)]
theorem come_eq {s : Pr} {R : Nat → List Pk} {i : Nat} (hi : i < 2) (t : ByteArray) {p : Pk} {l : List Pk} (h : R (hp i) = p :: l) : doF s R 2 (i : Int) 0 t = (lookE (s.L i) p == 0, cmS s i p, outR (up R (hp i) l) (tkO (s.L i) p)) := by
  have hl : lookI R (2 - (i : Int)) (1 + (i : Int)) 0 = 0 := by
    unfold lookI
    rw [if_pos (hop_i hi), if_neg (by rw [h, List.length_cons]; omega)]
  have he : takeE R noA (2 - (i : Int)) (1 + (i : Int)) 0 = 0 := by
    unfold takeE
    rw [if_pos hl, if_neg (by simp [noA])]
  have hp' : takeP R noA (2 - (i : Int)) (1 + (i : Int)) 0 = p := by
    unfold takeP
    rw [if_pos he, h]; rfl
  have hr : takeR R noA (2 - (i : Int)) (1 + (i : Int)) 0 = up R (hp i) l := by
    unfold takeR
    rw [if_pos he, h]; rfl
  unfold doF
  dsimp only
  rw [atN_i hi, if_neg (by decide), if_neg (by decide), if_pos (.inl rfl), if_neg (by rw [h]; simp), if_neg (by decide), if_neg (by decide), atN_0]
  have z : ((0 : Nat) : Int) = 0 := rfl
  rw [z, if_pos he, hp', hr]
theorem tick_eq {s : Pr} {R : Nat → List Pk} {i : Nat} (hi : i < 2) (t : ByteArray) : doF s R 1 (i : Int) 0 t = (true, s, outR R (pks (s.L i) 0 (s.L i).o)) := by
  unfold doF
  dsimp only
  rw [atN_i hi, if_neg (by decide), if_pos rfl]
/-- What an end sends lies at the other one's hop. -/
theorem hop_of {i : Nat} (hi : i < 2) {p : Pk} (g : GoodP p) (hf : p.f = 1 + (i : Int)) : rix p.f p.t = hp (1 - i) := by
  obtain ⟨-, g, -⟩ := g
  match i, hi with
  | 0, _ => rcases g with ⟨e1, e2⟩ | ⟨e1, e2⟩
            · rw [e1, e2]; decide
            · omega
  | 1, _ => rcases g with ⟨e1, e2⟩ | ⟨e1, e2⟩
            · omega
            · rw [e1, e2]; decide
/-- With each packet that comes there is less under way. -/
theorem Ph_come {f : Int} {s : Pr} {R : Nat → List Pk} {k : Nat} {i : Nat} (hi : i < 2) (t : ByteArray) (hI : PI s R k) (hO : OI f s R) (hV : VI s R) {p : Pk} {l : List Pk} (h : R (hp i) = p :: l) : Ph (doF s R 2 (i : Int) 0 t).2.1 (doF s R 2 (i : Int) 0 t).2.2 + 1 ≤ Ph s R := by
  have hE := hI.en i hi
  obtain ⟨gp, gr⟩ := hI.net.1 (hp i) p (by rw [h]; exact List.mem_cons_self)
  have hlk := good_look hi hE.x gp gr
  have hw := tk_wt hE.ok (hV.o i hi) hlk
  obtain ⟨-, -, t3⟩ := hE.take hi p
  have hO' : ∀ q ∈ tkO (s.L i) p, rix q.f q.t = hp (1 - i) := fun q hq => by
    have hend := (hO.snd (1 - i) (by omega)).end (hI.en (1 - i) (by omega)).ok
    obtain ⟨hR, hst⟩ := hO.rcv i hi
    have hpf : p.f = 1 + ((1 - i : Nat) : Int) := by
      unfold lookE at hlk
      split at hlk
      · rename_i hc
        have := hE.x.2.1
        rw [hc.2.1, this]
        omega
      · cases hlk
    have t4 := (take_ord hE (hO.snd i hi) hR hst hend (fun hq => hO.pk (1 - i) (by omega) _ p (by rw [h]; exact List.mem_cons_self) hpf hq)).2.2
    exact hop_of hi (t3 q hq) (t4 q hq).1
  obtain ⟨o1, o2⟩ := out_hop (tkO (s.L i) p) (up R (hp i) l) hO'
  have hne := hp_ne hi (j := 1 - i) (by omega) (by omega)
  have e1 := o1 (hp i) hne
  rw [up_same] at e1
  rw [up_other _ _ (Ne.symm hne)] at o2
  have w0 : wt (R (hp i)) = (if p.sq = 0 then 1 else 2) + wt l := by rw [h]; rfl
  rw [come_eq hi t h, Ph_at s R hi, Ph_at _ _ hi]
  have u1 : (cmS s i p).L i = tkL (s.L i) p := up_same _ _ _
  have u2 : (cmS s i p).L (1 - i) = s.L (1 - i) := up_other _ _ (by omega)
  dsimp only
  rw [u1, u2, e1]
  omega
theorem tick_hop {f : Int} {s : Pr} {R : Nat → List Pk} {k : Nat} {i : Nat} (hi : i < 2) (hI : PI s R k) (hO : OI f s R) : ∀ q ∈ pks (s.L i) 0 (s.L i).o, chkP q = true ∧ rix q.f q.t = hp (1 - i) := fun q hq => by
  have g := (hI.en i hi).tick hi q hq
  have hoq : 0 + (s.L i).o ≤ (s.L i).q.length := by have := (hI.en i hi).ok.oq; omega
  have f3 := (OutOk.pks (f := f) (S := s.S i) (L := s.L i) (o := 0) (k := (s.L i).o) (hI.en i hi).x.1 (hO.snd i hi) hoq q hq).1
  exact ⟨g.1, hop_of hi g f3⟩
theorem Ph_tick {f : Int} {s : Pr} {R : Nat → List Pk} {k : Nat} {i : Nat} (hi : i < 2) (t : ByteArray) (hI : PI s R k) (hO : OI f s R) : Ph (doF s R 1 (i : Int) 0 t).2.1 (doF s R 1 (i : Int) 0 t).2.2 ≤ Ph s R + 16 := by
  obtain ⟨o1, o2⟩ := out_hop (pks (s.L i) 0 (s.L i).o) R fun q hq => (tick_hop hi hI hO q hq).2
  have hne := hp_ne hi (j := 1 - i) (by omega) (by omega)
  have e1 := o1 (hp i) hne
  have o8 := (hI.en i hi).ok.o8
  rw [wt_pks (hI.en i hi).ok] at o2
  rw [tick_eq hi t, Ph_at s R hi, Ph_at _ _ hi]
  dsimp only
  rw [e1]
  omega
theorem Ph_le {s : Pr} {R : Nat → List Pk} {k : Nat} (hI : PI s R k) : Ph s R ≤ 2 * cntN R 256 + 256 ∧ cntN R 256 ≤ Ph s R := by
  have h0 := wt_len (R (hp 0))
  have h1 := wt_len (R (hp 1))
  have q0 := (hI.en 0 (by omega)).ok.q64
  have q1 := (hI.en 1 (by omega)).ok.q64
  rw [cnt_two hI.net]
  unfold Ph un
  omega
end Go.Proofs.Ytiejehaaglpkoaa
