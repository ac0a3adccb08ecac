/- The common start of the table's laws. -/
import Derived.Test.YtgoioibfecgopaaTdB
import Derived.Test.YtgoioibfecgopaaTbR
import Derived.Test.YtgoioibfecgopaaTbS
import Derived.Test.YtgoioibfecgopaaTcC
import Derived.Test.YtgoioibfecgopaaTcE
import Derived.Test.YtgoioibfecgopaaTbX
namespace Go.Proofs.Ytgoioibfecgopaa
open Go.RowKit Go.PlainAid

theorem cutT_small (M : Tab) : SmallTab (cutT M) := by
  refine ⟨by simp [cutT]; omega, fun x hx => ?_⟩
  obtain ⟨y, _, rfl⟩ := List.mem_map.1 hx
  refine ⟨by simp [cutN]; omega, fun s hs => ?_⟩
  obtain ⟨t, _, rfl⟩ := List.mem_map.1 hs
  refine ⟨by simp [cutS]; omega, by simp [cutS]; omega, by simp [cutS]; omega, fun p hp => ?_⟩
  obtain ⟨q, _, rfl⟩ := List.mem_map.1 hp
  simp [cutP]; omega
end Go.Proofs.Ytgoioibfecgopaa
