/- A part of the proof that EarOrder answers true for every three ears. -/
import Derived.Test.YtedbdpaioikhgaaDoorWLaw0
import Derived.Test.YtedbdpaioikhgaaDoorWLaw1
import Derived.Test.YtedbdpaioikhgaaDoorWLaw2
import Derived.Test.YtedbdpaioikhgaaDoorWLaw3
import Derived.Test.YtedbdpaioikhgaaDoorWLaw4
import Derived.Test.YtedbdpaioikhgaaDoorWLaw5
import Derived.Test.YtedbdpaioikhgaaDoorWLaw6
import Derived.Test.YtedbdpaioikhgaaDoorWLaw7
import Derived.Test.YtedbdpaioikhgaaDoorWLaw8
import Derived.Test.YtedbdpaioikhgaaDoorWLaw9
import Derived.Test.YtedbdpaioikhgaaDoorWLaw10
import Derived.Test.YtedbdpaioikhgaaDoorWLaw11
import Derived.Test.YtedbdpaioikhgaaDoorWLaw12
import Derived.Test.YtedbdpaioikhgaaDoorWOrd
namespace Go.Proofs.W
open Go Go.RowKit Go.Proofs Go.Ri
theorem law_any (a0 a1 a2 a3 a4 a5 a6 a7 a8 b0 b1 b2 b3 b4 b5 b6 b7 b8 c0 c1 c2 c3 c4 c5 c6 c7 c8 : Int) (a9 aa ab b9 ba bb c9 ca cb : Bool) (w : World) (hs : ∀ w', Below w.heap.size w w' → Calls Tryd.prog 10 #[] w' fun e w'' => e = .returned (.bool true) ∧ Below w'.heap.size w' w'') :
    Calls Tryd.prog 4 #[(earV a0 a1 a2 a3 a4 a5 a6 a7 a8 a9 aa ab), (earV b0 b1 b2 b3 b4 b5 b6 b7 b8 b9 ba bb), (earV c0 c1 c2 c3 c4 c5 c6 c7 c8 c9 ca cb)] w fun e w' => e = .returned (.bool true) ∧ Below w.heap.size w w' := by
  obtain ⟨x, y, z, h1, h2, h3, h4, h5, h6, hc⟩ := lexI_all (keys a0 a1 a2 a3 a4 a5 a6 a7 a8 a9 aa ab) (keys b0 b1 b2 b3 b4 b5 b6 b7 b8 b9 ba bb) (keys c0 c1 c2 c3 c4 c5 c6 c7 c8 c9 ca cb) rfl rfl
  have q := equal_ear a0 a1 a2 a3 a4 a5 a6 a7 a8 b0 b1 b2 b3 b4 b5 b6 b7 b8 a9 aa ab b9 ba bb
  rw [h1] at q
  rcases hc with h | h | h | h | h | h | h | h | h | h | h | h | h
  · cases h; exact law_111 a0 a1 a2 a3 a4 a5 a6 a7 a8 b0 b1 b2 b3 b4 b5 b6 b7 b8 c0 c1 c2 c3 c4 c5 c6 c7 c8 a9 aa ab b9 ba bb c9 ca cb w h1 h2 h3 h4 h5 h6 q hs
  · cases h; exact law_122 a0 a1 a2 a3 a4 a5 a6 a7 a8 b0 b1 b2 b3 b4 b5 b6 b7 b8 c0 c1 c2 c3 c4 c5 c6 c7 c8 a9 aa ab b9 ba bb c9 ca cb w h1 h2 h3 h4 h5 h6 q hs
  · cases h; exact law_100 a0 a1 a2 a3 a4 a5 a6 a7 a8 b0 b1 b2 b3 b4 b5 b6 b7 b8 c0 c1 c2 c3 c4 c5 c6 c7 c8 a9 aa ab b9 ba bb c9 ca cb w h1 h2 h3 h4 h5 h6 q hs
  · cases h; exact law_212 a0 a1 a2 a3 a4 a5 a6 a7 a8 b0 b1 b2 b3 b4 b5 b6 b7 b8 c0 c1 c2 c3 c4 c5 c6 c7 c8 a9 aa ab b9 ba bb c9 ca cb w h1 h2 h3 h4 h5 h6 q hs
  · cases h; exact law_010 a0 a1 a2 a3 a4 a5 a6 a7 a8 b0 b1 b2 b3 b4 b5 b6 b7 b8 c0 c1 c2 c3 c4 c5 c6 c7 c8 a9 aa ab b9 ba bb c9 ca cb w h1 h2 h3 h4 h5 h6 q hs
  · cases h; exact law_222 a0 a1 a2 a3 a4 a5 a6 a7 a8 b0 b1 b2 b3 b4 b5 b6 b7 b8 c0 c1 c2 c3 c4 c5 c6 c7 c8 a9 aa ab b9 ba bb c9 ca cb w h1 h2 h3 h4 h5 h6 q hs
  · cases h; exact law_000 a0 a1 a2 a3 a4 a5 a6 a7 a8 b0 b1 b2 b3 b4 b5 b6 b7 b8 c0 c1 c2 c3 c4 c5 c6 c7 c8 a9 aa ab b9 ba bb c9 ca cb w h1 h2 h3 h4 h5 h6 q hs
  · cases h; exact law_200 a0 a1 a2 a3 a4 a5 a6 a7 a8 b0 b1 b2 b3 b4 b5 b6 b7 b8 c0 c1 c2 c3 c4 c5 c6 c7 c8 a9 aa ab b9 ba bb c9 ca cb w h1 h2 h3 h4 h5 h6 q hs
  · cases h; exact law_201 a0 a1 a2 a3 a4 a5 a6 a7 a8 b0 b1 b2 b3 b4 b5 b6 b7 b8 c0 c1 c2 c3 c4 c5 c6 c7 c8 a9 aa ab b9 ba bb c9 ca cb w h1 h2 h3 h4 h5 h6 q hs
  · cases h; exact law_202 a0 a1 a2 a3 a4 a5 a6 a7 a8 b0 b1 b2 b3 b4 b5 b6 b7 b8 c0 c1 c2 c3 c4 c5 c6 c7 c8 a9 aa ab b9 ba bb c9 ca cb w h1 h2 h3 h4 h5 h6 q hs
  · cases h; exact law_020 a0 a1 a2 a3 a4 a5 a6 a7 a8 b0 b1 b2 b3 b4 b5 b6 b7 b8 c0 c1 c2 c3 c4 c5 c6 c7 c8 a9 aa ab b9 ba bb c9 ca cb w h1 h2 h3 h4 h5 h6 q hs
  · cases h; exact law_021 a0 a1 a2 a3 a4 a5 a6 a7 a8 b0 b1 b2 b3 b4 b5 b6 b7 b8 c0 c1 c2 c3 c4 c5 c6 c7 c8 a9 aa ab b9 ba bb c9 ca cb w h1 h2 h3 h4 h5 h6 q hs
  · cases h; exact law_022 a0 a1 a2 a3 a4 a5 a6 a7 a8 b0 b1 b2 b3 b4 b5 b6 b7 b8 c0 c1 c2 c3 c4 c5 c6 c7 c8 a9 aa ab b9 ba bb c9 ca cb w h1 h2 h3 h4 h5 h6 q hs
end Go.Proofs.W
