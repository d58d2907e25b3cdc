/- The contract of the statements' own 'with': bytes, and others behind them. -/
import Derived.Test.YtpgnifdjjfohcaaC9
import Derived.Laws.AppendOwnNone
namespace Go.Proofs.Ytpgnifdjjfohcaa
open Go.RowKit

theorem newsR {w : World} {b off : Nat} {l : List UInt8} (h : ∀ j (h : j < l.length), w.cell? ⟨b, off + j, none⟩ = some (bc l[j])) : ∀ j u, (l.map bc)[j]? = some u → w.cell? ((⟨b, off, none⟩ : Addr).add j) = some u := by
  intro j u hj
  rw [List.getElem?_map] at hj
  rcases Nat.lt_or_ge j l.length with hlt | hge
  · rw [List.getElem?_eq_getElem hlt] at hj
    simp at hj
    subst hj
    have ea : (⟨b, off, none⟩ : Addr).add j = ⟨b, off + j, none⟩ := by simp [Addr.add]
    rw [ea]; exact h j hlt
  · rw [List.getElem?_eq_none hge] at hj; simp at hj
theorem one_bc {l : List UInt8} : ∀ u ∈ l.map bc, u.oneCell' = true := by
  intro u hu
  obtain ⟨x, _, rfl⟩ := List.mem_map.1 hu
  rfl
set_option maxRecDepth 100000 in
set_option maxHeartbeats 1000000 in
theorem with_some (b off cap b2 off2 cap2 : Nat) (la lb : List UInt8) (hl : la.length + lb.length ≤ 50000) (w : World)
    (ra : ∀ j (h : j < la.length), w.cell? ⟨b, off + j, none⟩ = some (bc la[j])) (rb : ∀ j (h : j < lb.length), w.cell? ⟨b2, off2 + j, none⟩ = some (bc lb[j])) (hb2 : b2 < w.heap.size) :
    Calls Try.prog 22 #[.slice (some ⟨b, off, none⟩) la.length cap, .slice (some ⟨b2, off2, none⟩) lb.length cap2] w fun e w' => ∃ v, e = .returned v ∧ w'.ownsRow w.heap.size 5 1 v (la ++ lb).length ((la ++ lb).map bc) ∧ Below w.heap.size w w' := by
  obtain ⟨i0, hi, hz0, hz1, hz2⟩ := info_parts info5
  go_enter Try.func22, Try.ntmps22
  go_wp2_with (at_builtin; refine wpList_append_own _ rfl _ _ 23 rfl w.heap.size 5 i0 (.int .u8 0) 1 1 Try.underlying23 hi hz0 hz1 hz2 rfl (by decide) _ _ _ rfl (World.ownsRow_nil _ _ _ _) ⟨b, off, none⟩ la.length cap (la.map bc) rfl (by simp) (newsR ra) one_bc (len_ok (by omega)).1 (len_ok (by omega)).2 (Nat.le_refl _) ?_)
  intro v1 w1 hown1 hgrow1 _
  have HO1 : Hid (w1.ownsRow w.heap.size 5 1 v1 la.length (la.map bc)) := hown1
  have HB1 : Hid (Below w.heap.size w w1) := (Below.refl _ _).grown hgrow1 (Nat.le_refl _) (fun k hk => by cases hk)
  have rb1 : ∀ j (h : j < lb.length), w1.cell? ⟨b2, off2 + j, none⟩ = some (bc lb[j]) := fun j h => (HB1.out.cell (p := ⟨b2, off2 + j, none⟩) hb2).trans (rb j h)
  have hown : w1.ownsRow w.heap.size 5 1 v1 la.length (la.map bc) := HO1.out
  have hsz := HB1.out.size
  clear hown1 hgrow1 ra rb
  go_wp2_with (at_builtin; refine wpList_append_own _ rfl _ _ 23 rfl w.heap.size 5 i0 (.int .u8 0) 1 1 Try.underlying23 hi hz0 hz1 hz2 rfl (by decide) _ _ _ rfl hown ⟨b2, off2, none⟩ lb.length cap2 (lb.map bc) rfl (by simp) (newsR rb1) one_bc (len_ok (by omega)).1 (len_ok (by omega)).2 hsz ?_)
  intro v2 w2 hown2 hgrow2 _
  have HO2 : Hid (w2.ownsRow w.heap.size 5 1 v2 (la ++ lb).length ((la ++ lb).map bc)) := by
    rw [List.length_append, List.map_append]; exact hown2
  have HB2 : Hid (Below w.heap.size w w2) := HB1.out.grown hgrow2 hsz (own_block hown)
  clear hown hown2 hgrow2 hsz HO1 HB1 rb1
  go_wp2_with fail
  go_ret
  exact ⟨_, rfl, HO2.out, HB2.out⟩
set_option maxRecDepth 100000 in
set_option maxHeartbeats 1000000 in
theorem with_none (b off cap cap2 : Nat) (a2 : Option Addr) (la : List UInt8) (hl : la.length ≤ 50000) (w : World)
    (ra : ∀ j (h : j < la.length), w.cell? ⟨b, off + j, none⟩ = some (bc la[j])) (hc2 : a2 = none → cap2 = 0) :
    Calls Try.prog 22 #[.slice (some ⟨b, off, none⟩) la.length cap, .slice a2 0 cap2] w fun e w' => ∃ v, e = .returned v ∧ w'.ownsRow w.heap.size 5 1 v la.length (la.map bc) ∧ Below w.heap.size w w' := by
  obtain ⟨i0, hi, hz0, hz1, hz2⟩ := info_parts info5
  go_enter Try.func22, Try.ntmps22
  go_wp2_with (at_builtin; refine wpList_append_own _ rfl _ _ 23 rfl w.heap.size 5 i0 (.int .u8 0) 1 1 Try.underlying23 hi hz0 hz1 hz2 rfl (by decide) _ _ _ rfl (World.ownsRow_nil _ _ _ _) ⟨b, off, none⟩ la.length cap (la.map bc) rfl (by simp) (newsR ra) one_bc (len_ok (by omega)).1 (len_ok (by omega)).2 (Nat.le_refl _) ?_)
  intro v1 w1 hown1 hgrow1 _
  have HO1 : Hid (w1.ownsRow w.heap.size 5 1 v1 la.length (la.map bc)) := hown1
  have HB1 : Hid (Below w.heap.size w w1) := (Below.refl _ _).grown hgrow1 (Nat.le_refl _) (fun k hk => by cases hk)
  have hown : w1.ownsRow w.heap.size 5 1 v1 la.length (la.map bc) := HO1.out
  have hsz := HB1.out.size
  clear hown1 hgrow1 ra
  cases a2 with
  | none =>
    obtain rfl := hc2 rfl
    go_wp2_with (at_builtin; refine wpList_append_own_none rfl _ _ 23 rfl w.heap.size 5 i0 1 Try.underlying23 hi _ _ _ rfl hown rfl ?_)
    clear hown hsz
    go_wp2_with fail
    go_ret
    exact ⟨_, rfl, HO1.out, HB1.out⟩
  | some x =>
    go_wp2_with (at_builtin; refine wpList_append_own _ rfl _ _ 23 rfl w.heap.size 5 i0 (.int .u8 0) 1 1 Try.underlying23 hi hz0 hz1 hz2 rfl (by decide) _ _ _ rfl hown x 0 cap2 [] rfl (by simp) (by intro j u hj; simp at hj) (by intro u hu; simp at hu) (len_ok (by omega)).1 (len_ok (by omega)).2 hsz ?_)
    intro v2 w2 hown2 hgrow2 _
    have HO2 : Hid (w2.ownsRow w.heap.size 5 1 v2 la.length (la.map bc)) := hown2
    have HB2 : Hid (Below w.heap.size w w2) := HB1.out.grown hgrow2 hsz (own_block hown)
    clear hown hown2 hgrow2 hsz HO1 HB1
    go_wp2_with fail
    go_ret
    exact ⟨_, rfl, HO2.out, HB2.out⟩
theorem with_two (va vb : Value) (la lb : List UInt8) (ha : 0 < la.length) (hb : 0 < lb.length) (hl : la.length + lb.length ≤ 50000) (w : World) (ra : Reads w va la) (rb : Reads w vb lb) :
    Calls Try.prog 22 #[va, vb] w fun e w' => ∃ v, e = .returned v ∧ w'.ownsRow w.heap.size 5 1 v (la ++ lb).length ((la ++ lb).map bc) ∧ Below w.heap.size w w' := by
  rcases ra with ⟨rfl, _⟩ | ⟨b, off, cap, rfl, _, _, _, _, g6⟩
  · simp at ha
  rcases rb with ⟨rfl, _⟩ | ⟨b2, off2, cap2, rfl, _, _, _, h5, h6⟩
  · simp at hb
  exact with_some b off cap b2 off2 cap2 la lb hl w g6 h6 h5
end Go.Proofs.Ytpgnifdjjfohcaa
