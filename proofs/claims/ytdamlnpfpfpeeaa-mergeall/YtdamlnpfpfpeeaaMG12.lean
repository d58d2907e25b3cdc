/- The contract of All. -/
import Derived.Test.YtdamlnpfpfpeeaaMG11
import Derived.Deep.LoopGhost
namespace Go.Proofs.Ytdamlnpfpfpeeaa
open Go.RowKit

/-- What Next leaves. -/
def NxQ (lo hh h : Nat) (T : List Tg) (kv : Value) (a : Ag) (ok : Bool) (w : World) : Prop := match T with
  | [] => ok = false ∧ HS w lo hh h []
  | t :: T' => ok = true ∧ a = t.2 ∧ HS w lo hh h T' ∧ Own w lo kv t.1.1
def NxR (lo hh h : Nat) (T : List Tg) (w : World) (e : Ending) (w' : World) : Prop := Fr lo hh w w' ∧ hh ≤ w'.heap.size ∧ ∃ (sa : Option Addr) (sn sc : Nat) (a : Ag) (r : Int) (ok : Bool), e = .returned (.tuple #[env (.slice sa sn sc) a, .int .i64 r, .bool ok]) ∧ NxQ lo hh h T (.slice sa sn sc) a ok w'
theorem next_q (lo hh h : Nat) (T : List Tg) (w : World) (H : HS w lo hh h T) : Calls Try.prog 10 #[.pointer (some ⟨h, 0, none⟩)] w (NxR lo hh h T w) := by
  refine (next_any lo hh h T w H).mono ?_
  cases T with
  | nil =>
    rintro e w' ⟨hf, rfl, hs⟩
    exact ⟨hf, Nat.le_trans H.z hf.b.size, none, 0, 0, agZ, 0, false, rfl, rfl, hs⟩
  | cons t T =>
    rintro e w' ⟨hf, kv, rfl, ho, hs⟩
    obtain ⟨sa, sc, rfl, _⟩ := ho.form
    exact ⟨hf, Nat.le_trans H.z hf.b.size, sa, _, sc, t.2, _, true, rfl, rfl, rfl, hs, ho⟩
theorem NxQ.below {lo hh h : Nat} {T : List Tg} {kv : Value} {a : Ag} {ok : Bool} {A B : World} (H : NxQ lo hh h T kv a ok A) (hb : Below A.heap.size A B) : NxQ lo hh h T kv a ok B := by
  cases T with
  | nil => exact ⟨H.1, H.2.below hb⟩
  | cons t T => exact ⟨H.1, H.2.1, H.2.2.1.below hb, H.2.2.2.below hb⟩
theorem HS.under {A B : World} {lo hh h : Nat} {T : List Tg} (H : HS A lo hh h T) (hk : ∀ k, k < hh → B.heap[k]? = A.heap[k]?) (hu : ∀ (k : Nat) (cs : Array Value) (fr : Nat × Nat), A.heap[k]? = some (Obj.cells cs 5 fr) → B.heap[k]? = some (Obj.cells cs 5 fr)) (hz : A.heap.size ≤ B.heap.size) : HS B lo hh h T := by
  obtain ⟨P, h1, h2, h3, h4⟩ := H.m
  exact ⟨⟨P, h1.under hk hu, h2, h3, h4⟩, H.s, Nat.le_trans H.z hz⟩
theorem NxQ.under {lo hh h : Nat} {T : List Tg} {kv : Value} {a : Ag} {ok : Bool} {A B : World} (H : NxQ lo hh h T kv a ok A) (hk : ∀ k, k < hh → B.heap[k]? = A.heap[k]?) (hu : ∀ (k : Nat) (cs : Array Value) (fr : Nat × Nat), A.heap[k]? = some (Obj.cells cs 5 fr) → B.heap[k]? = some (Obj.cells cs 5 fr)) (hz : A.heap.size ≤ B.heap.size) : NxQ lo hh h T kv a ok B := by
  cases T with
  | nil => exact ⟨H.1, H.2.under hk hu hz⟩
  | cons t T => exact ⟨H.1, H.2.1, H.2.2.1.under hk hu hz, own_kp H.2.2.2 hu⟩
def AlPost (rs : List (List En)) (w : World) (e : Ending) (w' : World) : Prop :=
  Below w.heap.size w w' ∧ ((rowsF rs ≠ 0 ∧ e = .returned (.tuple #[.slice none 0 0, .int .i64 (rowsF rs)])) ∨ (rowsF rs = 0 ∧ ∃ v xs, e = .returned (.tuple #[v, .int .i64 0]) ∧ EOwn w' w.heap.size v xs ∧ xs.map evE = allF rs ∧ ∀ x ∈ xs, CnOk x.a))
theorem rReads_cn {w : World} {v : Value} {rs : List (List En)} (h : RReads w v rs) : ∀ r ∈ rs, ∀ x ∈ r, CnOk x.2 := by
  obtain ⟨a, cap, rfl, h1, h2, h3⟩ := h
  intro r hr
  rcases h3 with rfl | ⟨b, off, _, _, h6⟩
  · cases hr
  · obtain ⟨j, hj, rfl⟩ := List.getElem_of_mem hr
    obtain ⟨ev, _, h7⟩ := h6 j hj
    exact h7.ok
/-- What the loop of All keeps. -/
structure AlI (rs : List (List En)) (w : World) (hh h b : Nat) (D T : List Tg) (xs : List Ev) (al kv : Value) (a : Ag) (ok : Bool) (wr : World) : Prop where
  s : seqF rs = D ++ T
  e : AlE w.heap.size hh al xs (grpG D) wr
  q : NxQ w.heap.size hh h T kv a ok wr
  x : wr.heap[b]? = some (.cells #[kv, .int .u64 a.c, .bool a.o, .int .i64 (hi a.s), .int .u64 (lo a.s), .int .i64 a.mn, .int .i64 a.mx] 36)
  l : hh ≤ b
  b : Below w.heap.size w wr
  z : w.heap.size ≤ hh ∧ hh ≤ wr.heap.size
end Go.Proofs.Ytdamlnpfpfpeeaa
