/- The contracts of the document's own answers for layer 4 (package tabulariumref04): Put, Get. Nothing is claimed here. -/
import Derived.Test.YtkbdahbnjklkoaaVarPut
import Derived.Test.YtkbdahbnjklkoaaVarGet
