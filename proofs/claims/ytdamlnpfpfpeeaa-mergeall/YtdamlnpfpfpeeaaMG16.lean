/- The contract of Great. -/
import Derived.Test.YtdamlnpfpfpeeaaMG15
namespace Go.Proofs.Ytdamlnpfpfpeeaa
open Go.RowKit

def okRow (r : List En) : Prop := r.length ≤ 60 ∧ ∀ x ∈ r, x.1.length ≤ 300
def GtPost (rs : List (List En)) (w : World) (e : Ending) (w' : World) : Prop := ∃ g : Bool, e = .returned (.bool g) ∧ (g = false → rs.length ≤ 20 ∧ ∀ r ∈ rs, okRow r) ∧ w' = w
theorem eReads_key {w : World} {a : Option Addr} {n cap : Nat} {L : List En} (h : EReads w (.slice a n cap) L) {k : Nat} (hk : k < L.length) : ∃ b off sa sc, a = some ⟨b, off, none⟩ ∧ w.cell? ⟨b, off + k * 7, none⟩ = some (.slice sa L[k].1.length sc) := by
  obtain ⟨b, off, cap', hv, _⟩ := eReads_some h (by omega)
  simp at hv
  obtain ⟨rfl, rfl, rfl⟩ := hv
  obtain ⟨kv, hc, hr, _⟩ := eReads_at h hk rfl
  obtain ⟨sa, sc, rfl, _⟩ := hr.form
  exact ⟨b, off, sa, sc, rfl, hc 0 (by decide)⟩
set_option maxRecDepth 100000 in
set_option maxHeartbeats 2000000 in
theorem great_some (b off cap : Nat) (rs : List (List En)) (w : World) (hR : RReads w (.slice (some ⟨b, off, none⟩) rs.length cap) rs) :
    Calls Try.prog 4 #[.slice (some ⟨b, off, none⟩) rs.length cap] w (GtPost rs w) := by
  have HR : Hid (RReads w (.slice (some ⟨b, off, none⟩) rs.length cap) rs) := hR
  clear hR
  by_cases h20 : rs.length ≤ 20
  · go_enter Try.func4, Try.ntmps4
    go_wp2_with fail
    go_loopw [3] (fun i wr => ∃ k : Nat, ∃ hk : k ≤ rs.length, i = .int .i64 (k : Int) ∧ Hid (∀ j (hj : j < k), okRow (rs[j]'(by omega))) ∧ Hid (wr = w)) (fun i _ => rs.length - (intOf i).toNat)
    case atStart => exact ⟨0, by omega, rfl, fun j hj => by omega, rfl⟩
    case round =>
      obtain ⟨k, hk, rfl, HJ, HW⟩ := hrel
      obtain rfl := HW.out
      clear HW
      by_cases hlt : k < rs.length
      · obtain ⟨ev, hcv, hev⟩ := rReads_at HR.out hlt
        obtain ⟨ea, ec, hef, hle1, hle2⟩ := hev.form
        subst hef
        unfold maxLen at hle2
        have HNJ : Hid (okRow rs[k] → ∀ j (hj : j < k + 1), okRow (rs[j]'(by omega))) := fun h0 j hj => by
          rcases Nat.lt_or_ge j k with h1 | h1
          · exact HJ.out j h1
          · obtain rfl : j = k := by omega
            exact h0
        obtain ⟨r, Hr⟩ := hid_ex rs[k]
        rw [← Hr.out] at hcv hev HNJ hle1
        have HEV : Hid (EReads wr (.slice ea r.length ec) r) := hev
        clear hev
        by_cases h60 : r.length ≤ 60
        · go_wp2_with fail
          go_loopw [4] (fun i wq => ∃ m : Nat, ∃ hm : m ≤ r.length, i = .int .i64 (m : Int) ∧ Hid (∀ j (hj : j < m), (r[j]'(by omega)).1.length ≤ 300) ∧ Hid (wq = wr)) (fun i _ => r.length - (intOf i).toNat)
          case atStart => exact ⟨0, by omega, rfl, fun j hj => by omega, rfl⟩
          case round =>
            obtain ⟨m, hm, rfl, HM, HW⟩ := hrel
            obtain rfl := HW.out
            clear HW
            by_cases hml : m < r.length
            · obtain ⟨eb, eo, sa, sc, hef, hcm⟩ := eReads_key HEV.out hml
              subst hef
              have HNM : Hid (r[m].1.length ≤ 300 → ∀ j (hj : j < m + 1), (r[j]'(by omega)).1.length ≤ 300) := fun h0 j hj => by
                rcases Nat.lt_or_ge j m with h1 | h1
                · exact HM.out j h1
                · obtain rfl : j = m := by omega
                  exact h0
              obtain ⟨X, HX⟩ := hid_ex r[m].1.length
              rw [← HX.out] at hcm HNM
              by_cases h300 : X ≤ 300
              · have HN2 : Hid _ := HNM.out h300
                go_wp2_with fail
                go_roundw
                case rel => exact ⟨m + 1, by omega, by go_num, HN2.out, trivial⟩
                case measure => simp [intOf]; omega
              · go_wp2_with fail
                go_ret
                exact ⟨true, rfl, fun h => (by cases h), rfl⟩
            · have HN2 : Hid _ := HNJ.out ⟨h60, fun x hx => by
                obtain ⟨j, hj, rfl⟩ := List.getElem_of_mem hx
                exact HM.out j (by omega)⟩
              go_wp2_with fail
              go_roundw
              case rel => exact ⟨k + 1, by omega, by go_num, HN2.out, trivial⟩
              case measure => simp [intOf]; omega
        · go_wp2_with fail
          go_ret
          exact ⟨true, rfl, fun h => (by cases h), rfl⟩
      · go_wp2_with fail
        go_ret
        refine ⟨false, rfl, fun _ => ⟨h20, fun r hr => ?_⟩, rfl⟩
        obtain ⟨j, hj, rfl⟩ := List.getElem_of_mem hr
        exact HJ.out j (by omega)
  · go_enter Try.func4, Try.ntmps4
    go_wp2_with fail
    go_ret
    exact ⟨true, rfl, fun h => (by cases h), rfl⟩
set_option maxRecDepth 100000 in
set_option maxHeartbeats 2000000 in
theorem great_none (a : Option Addr) (cap : Nat) (w : World) : Calls Try.prog 4 #[.slice a 0 cap] w (GtPost [] w) := by
  go_enter Try.func4, Try.ntmps4
  go_wp2_with fail
  go_loopw [3] (fun i wr => i = .int .i64 0 ∧ Hid (wr = w)) (fun _ _ => 0)
  case atStart => exact ⟨rfl, rfl⟩
  case round =>
    obtain ⟨rfl, HW⟩ := hrel
    go_wp2_with fail
    go_ret
    exact ⟨false, rfl, fun _ => ⟨by simp, fun r hr => (by cases hr)⟩, HW.out⟩
theorem great_any (v : Value) (rs : List (List En)) (w : World) (hR : RReads w v rs) : Calls Try.prog 4 #[v] w (GtPost rs w) := by
  rcases Nat.eq_zero_or_pos rs.length with h0 | h0
  · obtain ⟨a, cap, rfl, _⟩ := hR
    obtain rfl : rs = [] := List.length_eq_zero_iff.1 h0
    exact great_none a cap w
  · obtain ⟨b, off, cap, rfl, _⟩ := rReads_some hR h0
    exact great_some b off cap rs w hR
end Go.Proofs.Ytdamlnpfpfpeeaa
