/- GAUSS: columns that are sums of those ahead; what row steps keep; the document's way, column by column. Plain. -/
import Derived.Test.YtljlioglpaogdahDoorPolyM2
namespace Crm

def sm (f : Nat → Int) : Nat → Int
  | 0 => 0
  | n + 1 => sm f n + f n
theorem sm_ncongr {f g : Nat → Int} : ∀ {n : Nat}, (∀ j, j < n → nm (f j) = nm (g j)) → nm (sm f n) = nm (sm g n)
  | 0, _ => rfl
  | n + 1, h => nm_add_congr (sm_ncongr fun j hj => h j (by omega)) (h n (by omega))
end Crm
