/- A row of things of the call's own. -/
import Derived.Test.YtochmolhpcidgahDoorBase
import Derived.Test.YtochmolhpcidgahDoorResK
import Derived.Test.YtochmolhpcidgahDoorAllP
namespace Go.Proofs.YtochmolhpcidgahDoor
open Go.RowKit

theorem infoTlv : (Tryd.prog.info? 23).map (fun i => (i.zero, i.size, i.bytes)) = some (some (.agg #[.int .i64 0, .string ⟨#[]⟩]), 2, 24) := by kernel_rfl
/-- A row of things of the call's own. -/
def OwnT (w : World) (B : Nat) (v : Value) (l : List (Int × ByteArray)) : Prop := w.ownsRow B 23 2 v l.length (tCells l)
theorem OwnT.keep {w w' : World} {B : Nat} {v : Value} {l : List (Int × ByteArray)} (h : OwnT w B v l) (hb : Below w.heap.size w w') : OwnT w' B v l := by
  refine ⟨h.1, ?_⟩
  rcases h.2 with h | ⟨g, cap, cur, e, h1, h2, h3⟩
  · exact .inl h
  · exact .inr ⟨g, cap, cur, e, h1, by rw [hb.block g (heap_lt h2)]; exact h2, h3⟩
theorem OwnT.mono {w : World} {B B' : Nat} {v : Value} {l : List (Int × ByteArray)} (h : OwnT w B v l) (hB : B' ≤ B) : OwnT w B' v l := by
  refine ⟨h.1, ?_⟩
  rcases h.2 with h | ⟨g, cap, cur, e, h1, h3⟩
  · exact .inl h
  · exact .inr ⟨g, cap, cur, e, Nat.le_trans hB h1, h3⟩
theorem OwnT.other {w : World} {B b o : Nat} {v u : Value} {l : List (Int × ByteArray)} (h : OwnT w B v l) (hb : b < B) : OwnT (w.setCell ⟨b, o, none⟩ u) B v l := by
  refine ⟨h.1, ?_⟩
  rcases h.2 with h | ⟨g, cap, cur, e, h1, h2, h3⟩
  · exact .inl h
  · exact .inr ⟨g, cap, cur, e, h1, by rw [heap_setCell_other _ _ _ _ (by show g ≠ b; omega)]; exact h2, h3⟩
theorem OwnT.form {w : World} {B : Nat} {v : Value} {l : List (Int × ByteArray)} (h : OwnT w B v l) : ∃ a c, v = .slice a l.length c := by
  rcases h.2 with ⟨h, h'⟩ | ⟨g, cap, _, e, _⟩
  · exact ⟨none, 0, by rw [h']; exact h⟩
  · exact ⟨_, _, e⟩
theorem ownT_nil (w : World) (B : Nat) : OwnT w B (.slice none 0 0) [] := ⟨rfl, .inl ⟨rfl, rfl⟩⟩
end Go.Proofs.YtochmolhpcidgahDoor
