/- What package graph's functions hand back: all six contracts, over the code that landed. -/
import Derived.Test.YtlaklfiodmnocaaRightG
import Derived.Test.YtlaklfiodmnocaaWoG
import Derived.Test.YtlaklfiodmnocaaBackG
import Derived.Test.YtlaklfiodmnocaaShG
namespace Go.Proofs.Ytlaklfiodmnocaa
theorem wfl1 {a : Int} (h : (Lit.int .i64 a).wf = true) : WfL [a] := fun x hx => by
  rw [List.mem_singleton.1 hx]
  exact h
theorem wfl2 {a b : Int} (h : (Lit.int .i64 a).wf = true) (h2 : (Lit.int .i64 b).wf = true) : WfL [a, b] := fun x hx => by
  rcases List.mem_cons.1 hx with rfl | hx
  · exact h
  · exact wfl1 h2 x hx
theorem wfl3 {a b c : Int} (h : (Lit.int .i64 a).wf = true) (h2 : (Lit.int .i64 b).wf = true) (h3 : (Lit.int .i64 c).wf = true) : WfL [a, b, c] := fun x hx => by
  rcases List.mem_cons.1 hx with rfl | hx
  · exact h
  · exact wfl2 h2 h3 x hx
end Go.Proofs.Ytlaklfiodmnocaa
