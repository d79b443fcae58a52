/- The pair's out: its walk. -/
import Derived.Test.YtiejehaaglpkoaaLnT
import Derived.Test.YtiejehaaglpkoaaHM
namespace Go.Proofs.Ytiejehaaglpkoaa
open Go.RowKit Go.ChangeMaps

/-- What is under way behind packets that go under way. -/
def outR (R : Nat → List Pk) (O : List Pk) : Nat → List Pk := O.foldl sendR R
theorem cnt_send {R : Nat → List Pk} (p : Pk) (h : cntN R 256 ≤ 400) : cntN (sendR R p) 256 ≤ 400 := by
  unfold sendR
  split
  · rename_i hc
    obtain ⟨a, b, ha, hb, h1, h2, h3, h4, h5⟩ := hop_nat (chk_hop hc.1)
    have hx : rix p.f p.t < 256 := by rw [ha, hb, rix_nat]; omega
    have hu := cntN_up R (rix p.f p.t) (R (rix p.f p.t) ++ [p]) 256 hx
    rw [List.length_append, List.length_singleton] at hu
    have := hc.2
    omega
  · exact h
/-- A pair whose net is as R says. -/
def PSn (w0 : World) (P : Nat) (a : Ad) (s : Pr) (ext : List (Tg w0.heap.size)) (R : Nat → List Pk) (w : World) : Prop := ∃ V', St w0 (tgs _ P (pairC (adN a V')) (adN a V') (setR s R) ++ ext) w
theorem PSn.below {w0 w w' : World} {P : Nat} {a : Ad} {s : Pr} {ext : List (Tg w0.heap.size)} {R : Nat → List Pk} (h : PSn w0 P a s ext R w) (hb : Below w.heap.size w w') : PSn w0 P a s ext R w' := by
  obtain ⟨V', h⟩ := h
  exact ⟨V', h.below hb⟩
theorem PSn.net {w0 w : World} {P : Nat} {a : Ad} {s : Pr} {ext : List (Tg w0.heap.size)} {R R' : Nat → List Pk} {f : FuncId} {args : Array Value} {r : Value} (h : PSn w0 P a s ext R w)
    (hc : ∀ V, NetV w0.heap.size w a.gn V R noA → Calls Try.prog f args w fun e w' => NP w0.heap.size w a.gn V R' noA r e w') : Calls Try.prog f args w fun e w' => e = .returned r ∧ PSn w0 P a s ext R' w' := by
  obtain ⟨V', h⟩ := h
  obtain ⟨rest, f1, f2⟩ := foc_net h
  refine (f1.net (hc V')).mono fun e w' hp => ⟨hp.1, ?_⟩
  obtain ⟨V2, hV⟩ := hp.2
  exact ⟨V2, f2 [] V2 R' w' hV⟩
theorem PSn.look {w0 w : World} {P : Nat} {a : Ad} {s : Pr} {ext : List (Tg w0.heap.size)} {R : Nat → List Pk} {f : FuncId} {args : Array Value} {r : Value} (h : PSn w0 P a s ext R w)
    (hc : ∀ V, NetV w0.heap.size w a.gn V R noA → Calls Try.prog f args w fun e w' => e = .returned r ∧ Below w.heap.size w w') : Calls Try.prog f args w fun e w' => e = .returned r ∧ PSn w0 P a s ext R w' := by
  obtain ⟨V', h⟩ := h
  obtain ⟨rest, f1, -⟩ := foc_net h
  exact (hc V' f1.hd).mono fun e w' hp => ⟨hp.1, V', h.below hp.2⟩
theorem PSn.cells {w0 w : World} {P : Nat} {a : Ad} {s : Pr} {ext : List (Tg w0.heap.size)} {R : Nat → List Pk} (h : PSn w0 P a s ext R w) :
    w.heap[P]? = some (.cells (pairC a) 66 (0, 0)) ∧ w.cell? ⟨P, 2, none⟩ = some (nP a.gn) ∧ (∀ i, i < 2 → w.cell? ⟨P, i, none⟩ = some (lP (a.gl i)) ∧ w.cell? ⟨P, 3 + i, none⟩ = some (a.vs i) ∧ w.cell? ⟨P, 5 + i, none⟩ = some (a.vg i)) ∧ (∀ o, w.frozen? ⟨P, o, none⟩ = false) ∧ P < w.heap.size := by
  obtain ⟨V', h⟩ := h
  exact pair_cells (a := adN a V') h
theorem PSn.ext {w0 w : World} {P : Nat} {a : Ad} {s : Pr} {ext : List (Tg w0.heap.size)} {R : Nat → List Pk} (h : PSn w0 P a s ext R w) {t : Tg w0.heap.size} (ht : t ∈ ext) : t.ok w := by
  obtain ⟨V', h⟩ := h
  exact h.get (List.mem_append_right _ ht)
theorem PSn.send {w0 w : World} {P : Nat} {a : Ad} {s : Pr} {ext : List (Tg w0.heap.size)} {R : Nat → List Pk} (h : PSn w0 P a s ext R w) (p : Pk) (hx : p.x.size ≤ 140737488355328) (hc : cntN R 256 ≤ 400) :
    Calls Try.prog 50 #[nP a.gn, pV p] w fun e w' => e = .returned (.int .i64 (sendE R p)) ∧ PSn w0 P a s ext (sendR R p) w' :=
  h.net (R' := sendR R p) (r := .int .i64 (sendE R p)) fun V hv => send_any (A := noA) (V := V) p hx hv (by omega)
theorem out_succ (R : Nat → List Pk) (O : List Pk) {k : Nat} (h : k < O.length) : outR R (O.take (k + 1)) = sendR (outR R (O.take k)) (O[k]'h) := by
  unfold outR
  rw [List.take_add_one, List.getElem?_eq_getElem h, Option.toList_some, List.foldl_append]
  rfl
theorem cnt_out {R : Nat → List Pk} (hc : cntN R 256 ≤ 400) (l : List Pk) : cntN (outR R l) 256 ≤ 400 := by
  unfold outR
  induction l generalizing R with
  | nil => exact hc
  | cons p l ih => exact ih (cnt_send p hc)
theorem row_ptr {w : World} {base : Nat} {ra : Option Addr} {rcap : Nat} {O : List Pk} (h : OwnW w base (.slice ra O.length rcap) O) (h0 : 0 < O.length) : ∃ b, ra = some ⟨b, 0, none⟩ := by
  rcases h with ⟨_, h1⟩ | ⟨g, cap, cur, e, _⟩
  · rw [h1] at h0; simp at h0
  · cases e; exact ⟨g, rfl⟩
end Go.Proofs.Ytiejehaaglpkoaa
