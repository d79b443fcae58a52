/- QuicPuts: for every list of items the law returns true, and what was there stays. -/
import Derived.Test.YtcfhghjgphhegaaDoorH
import Derived.Test.YtcfhghjgphhegaaDoorFew
namespace Go.Proofs.YtcfhghjgphhegaaDoor
open Go.RowKit

/-- What Put answers: the bytes and the error. -/
def putS (l : List It) : ByteArray := if l.all mayIt = true then ⟨(l.flatMap itB).toArray⟩ else ⟨#[]⟩
def putE (l : List It) : Int := if l.all mayIt = true then 0 else 1
theorem put_any (v : Value) (l : List It) (w : World) (h : IsRow w 3 v l.length (itCells l)) (hT : Tab w) (hl : l.length ≤ 4096) (hs : ∀ x ∈ l, x.s.size ≤ 140737488355328) :
    Calls Tryd.prog 18 #[v] w fun e w' => e = .returned (.tuple #[.string (putS l), .int .i64 (putE l)]) ∧ Below w.heap.size w w' := by
  unfold putS putE
  by_cases hc : l.all mayIt = true
  · rw [if_pos hc, if_pos hc]; exact put_ok v l w h hT hl hs hc
  · rw [if_neg hc, if_neg hc]; exact put_bad v l w h hl hs (by simpa using hc)
theorem refPut_any (v : Value) (l : List It) (w : World) (h : IsRow w 3 v l.length (itCells l)) (hl : l.length ≤ 4096) (hs : ∀ x ∈ l, x.s.size ≤ 70000) :
    Calls Tryd.prog 20 #[v] w fun e w' => e = .returned (.tuple #[.string (putS l), .int .i64 (putE l)]) ∧ Below w.heap.size w w' := by
  unfold putS putE
  by_cases hc : l.all mayIt = true
  · rw [if_pos hc, if_pos hc]; exact refPut_ok v l w h hl hs hc
  · rw [if_neg hc, if_neg hc]; exact refPut_bad v l w h hl (fun x hx => by have := hs x hx; omega) (by simpa using hc)

set_option maxHeartbeats 1000000 in
theorem quicPuts_walk (v : Value) (l : List It) (w : World) (h : IsRow w 3 v l.length (itCells l)) (hl : l.length ≤ 140737488355328) (hs : ∀ x ∈ l, x.s.size ≤ 140737488355328) (hT : Tab w) :
    Calls Tryd.prog 5 #[v] w fun e w' => e = .returned (.bool true) ∧ Below w.heap.size w w' := by
  obtain ⟨a0, cap0, rfl⟩ := h.form
  have hsz := hT.size
  by_cases hlong : 4096 < l.length
  · have hlong' : (4096 : Int) < l.length := by omega
    go_enter Tryd.func5, Tryd.ntmps5
    go_wp2_with fail
    refine (put_long _ _ _ _ hlong hl).mono ?_
    rintro e w1 ⟨rfl, hb1⟩
    have hT1 := hT.below hb1 hsz
    go_wp2_with fail
    refine (awake_any _ hT1).mono ?_
    rintro e w2 ⟨rfl, hb2'⟩
    have hb2 : Hid (Below w.heap.size w w2) := hb1.trans (hb2'.mono hb1.size)
    clear hb1 hb2'
    go_wp2
    go_ret
    exact ⟨rfl, hb2.out⟩
  · have hlong' : ¬ (4096 : Int) < l.length := by omega
    go_enter Tryd.func5, Tryd.ntmps5
    go_wp2_with fail
    refine (few_any _ l _ h hl hs).mono ?_
    rintro e w1 ⟨fb, rfl, hsm, hb1⟩
    have hT1 := hT.below hb1 hsz
    have h1 := h.below hb1
    cases fb
    · clear hsm
      go_wp2_with fail
      refine (awake_any _ hT1).mono ?_
      rintro e w2 ⟨rfl, hb2'⟩
      have hb2 : Hid (Below w.heap.size w w2) := hb1.trans (hb2'.mono hb1.size)
      clear hb1 hb2'
      go_wp2
      go_ret
      exact ⟨rfl, hb2.out⟩
    · obtain ⟨hl2, hs2⟩ := hsm rfl
      clear hsm
      have HS : Hid (∀ x ∈ l, x.s.size ≤ 20000) := hs2
      clear hs2
      go_wp2_with fail
      refine (put_any _ l _ h1 hT1 (by omega) hs).mono ?_
      rintro e w2 ⟨rfl, hb2'⟩
      have hb2 := hb1.trans (hb2'.mono hb1.size)
      have hT2 := hT.below hb2 hsz
      have h2 := h.below hb2
      clear hb1 hb2' h1 hT1
      go_wp2_with fail
      refine (refs_any _ l _ h2 (by omega)).mono ?_
      rintro e w3 ⟨v3, rfl, h3, hb3'⟩
      have hb3 := hb2.trans (hb3'.mono hb2.size)
      have hT3 := hT.below hb3 hsz
      clear hb2 hb3' h2 hT2
      go_wp2_with fail
      refine (refPut_any _ l _ h3 (by omega) (fun x hx => by have := HS.out x hx; omega)).mono ?_
      rintro e w4 ⟨rfl, hb4'⟩
      have hb4 := hb3.trans (hb4'.mono hb3.size)
      have hT4 := hT.below hb4 hsz
      clear hb3 hb4' h3 hT3
      go_wp2_with fail
      refine (awake_any _ hT4).mono ?_
      rintro e w5 ⟨rfl, hb5'⟩
      have hb5 : Hid (Below w.heap.size w w5) := hb4.trans (hb5'.mono hb4.size)
      clear hb4 hb5' hT4
      go_wp2
      go_ret
      exact ⟨rfl, hb5.out⟩
end Go.Proofs.YtcfhghjgphhegaaDoor
