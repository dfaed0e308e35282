/- The contracts of the program's functions, together. -/
import Derived.Test.YtnbffkeinkgojaaComb
import Derived.Test.YtnbffkeinkgojaaCoverS
import Derived.Test.YtnbffkeinkgojaaSaneS
namespace Go.Proofs.Ytnbffkeinkgojaa
theorem prog_ok : ProgOk where
  check A n c l w h _ _ hn := check_any A n c l w h (by omega)
  nrm A n c l w h _ _ hn := normal_any A n c l w h (by omega)
  union A B n m c c' l l' w h h' _ _ _ _ hn hm := union_any A B n m c c' l l' w h h' (by omega) (by omega)
  meet A B n m c c' l l' w h h' _ _ _ _ hn hm := meet_any A B n m c c' l l' w h h' (by omega) (by omega)
  minus A B n m c c' l l' w h h' _ _ _ _ hn hm := minus_any A B n m c c' l l' w h h' (by omega) (by omega)
  has A n c l d w h _ _ hn _ := has_any A n c l d w h (by omega)
  covers A n c l F T w h _ _ hn _ _ := covers_any A n c l F T w h (by omega)
end Go.Proofs.Ytnbffkeinkgojaa
