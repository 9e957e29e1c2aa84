/-
  Layer 4: the program's device answers as the plain one, call by call.
-/
import Derived.Test.YtkebilddoanhgaaDrvK
import Derived.Test.YtkebilddoanhgaaDrvN
import Derived.Test.YtkebilddoanhgaaDrvO
import Derived.Test.YtkebilddoanhgaaDrvQ
namespace Go.Proofs.Ytkebilddoanhgaa.dev
open Go.ChangeShapes Go.WideShapes Go.ChangeAt Go.RowKit mem
set_option linter.unusedVariables false

theorem prog_ok : DevOk pDev where
  new_bad := fun h b s hb hs hg => pnew_bad h b s hb hs hg
  new_ok := fun h nb ns hg => pnew_ok h nb ns hg
  check := fun h b s _ _ => pcheck_any h b s
  blocks := fun h => pblocks_any h
  size := fun h => psize_any h
  down := fun h => pdown_any h
  calls := fun h _ => pcalls_any h
  reads := fun h _ => preads_any h
  unflushed := fun h _ => punflushed_any h
  read := fun h n hn hR => pread_any h n hn hR
  write := fun h n d hn hd hR => pwrite_any h n d hn hd hR
  flush := fun h hR => pflush_any h hR
  plan := fun h n kv ks torn mask hn hk C => pplan_any h n kv ks torn mask hn hk C
  pull := fun h kv ks torn mask hk C hR => ppull_any h kv ks torn mask hk C hR
  restart := fun h => prestart_any h
  corrupt := fun h n k d hn hk hd hR => pcorrupt_any h n k d hn hk hd hR
  image := fun h hR => pimage_any h hR
  twin := fun h hR => ptwin_any h hR
end Go.Proofs.Ytkebilddoanhgaa.dev
