/-
  WHAT A TABLE's MAP HOLDS (api.Exchange), collected and in order.
-/
import Derived.Test.YtlfehneojkfmjaaDoorIters
import Derived.Test.YtlfehneojkfmjaaDoorShelfK
import Derived.Shelf.SlSortCmp.WholeK
import Derived.Shelf.SlSortCmp.NoneTotal
import Derived.Deep.RegionHeld3
namespace Go.Proofs.YtlfehneojkfmjaaDoor
open Go.RowKit Go.Maps Go.Sort Go.Shelf
attribute [local go_sem] Oper.semAt_some
instance : Inhabited Ex := ⟨zeroEx⟩

theorem item_newsEx (W : World) (x : Ex) : ∀ j u, (xcells x)[j]? = some u → (W.alloc (.cells #[.string x.name, .int .i64 x.kind, .bool x.fed] 23)).cell? ((⟨W.heap.size, 0, none⟩ : Addr).add j) = some u := by
  intro j u hj
  rw [Addr.add_lit, Nat.zero_add]
  have := cell_of_list (C := xcells x) (w := W.alloc (.cells (xcells x).toArray 23)) (g := W.heap.size) (t := 23) (heap_alloc_new W _) j
  exact this.trans hj

end Go.Proofs.YtlfehneojkfmjaaDoor
